/- DERIVED. The walk of PathsChain. -/
import Derived.Test.YtihdmfkkpdajlaaDoorPthWorks
import Derived.Deep.DeepCutAuto
namespace Go.Proofs.YtihdmfkkpdajlaaDoor.Pth
open Go.RowKit
theorem undB_trans {a b c : ByteArray} (h : undB a b = true) (k : undB b c = true) : undB a c = true := und_trans h k
theorem undB_two {a b c : ByteArray} (h : undB a c = true) (k : undB b c = true) (ha : a.data.toList ≠ []) (hb : b.data.toList ≠ []) (hn : undB a b = false) : undB b a = true := by
  rcases und_two h k ha hb with e | e
  · rw [show undB a b = true from e] at hn; cases hn
  · exact e
theorem empty_yes {s : ByteArray} (h : s.data.toList = []) : s.toList = [] := by rw [Lib.toList_data, h]
theorem ord_zero {a b : ByteArray} (h : ordB a b = 0) : (a.toList == b.toList) = true := eq_lists ((ord_eq _ _).1 h)
theorem ord_other {a b : ByteArray} (h : ordB a b ≠ 0) : (a.toList == b.toList) = false := ne_lists fun e => h ((ord_eq _ _).2 e)
set_option maxHeartbeats 4000000 in
set_option maxRecDepth 100000 in
theorem chain_walk (a b c : ByteArray) (w : World) (hL : Laid w) (ha : a.size ≤ maxLen) (hb : b.size ≤ maxLen) (hc : c.size ≤ maxLen) :
    Calls Tryd.prog 6 #[.string a, .string b, .string c] w fun e w' => e = .returned (.bool true) ∧ Below w.heap.size w w' := by
  have sA := cutS_size a
  have sB := cutS_size b
  have sC := cutS_size c
  go_enter Tryd.func6, Tryd.ntmps6
  go_upto_region 2 with (go_at_call 8; refine (cut_any _ _ (by assumption)).mono ?_; rintro e w' ⟨rfl, rfl⟩)
  have h0 := From.refl hL
  clear ha hb hc
  go_cut [29] (fun s29 wx => s29 = .bool false ∧ Hid (From w wx))
  case first =>
    cases h1 : undB (cutS a) (cutS b)
    · go_wp2_with (go_at_call 17; refine (under_from _ _ (by assumption) (by omega) (by omega)).mono ?_; rintro e w' ⟨rfl, hF⟩)
      go_meet
      exact ⟨rfl, Lib.hid (by assumption)⟩
    · cases h2 : undB (cutS b) (cutS c)
      · go_wp2_with (go_at_call 17; refine (under_from _ _ (by assumption) (by omega) (by omega)).mono ?_; rintro e w' ⟨rfl, hF⟩)
        go_meet
        exact ⟨rfl, Lib.hid (by assumption)⟩
      · have h3 := undB_trans h1 h2
        go_wp2_with (go_at_call 17; refine (under_from _ _ (by assumption) (by omega) (by omega)).mono ?_; rintro e w' ⟨rfl, hF⟩)
        go_meet
        exact ⟨rfl, Lib.hid (by assumption)⟩
  case rest =>
    obtain ⟨rfl, hH⟩ := hcut
    have hF0 := hH.out
    clear hH h0
    go_upto_region 4 with fail
    go_cut [57] (fun s57 wx => s57 = .bool false ∧ Hid (From w wx))
    case first =>
      cases h1 : undB (cutS a) (cutS c)
      · go_wp2_with (go_at_call 17; refine (under_from _ _ (by assumption) (by omega) (by omega)).mono ?_; rintro e w' ⟨rfl, hF⟩)
        go_meet
        exact ⟨rfl, Lib.hid (by assumption)⟩
      · cases h2 : undB (cutS b) (cutS c)
        · go_wp2_with (go_at_call 17; refine (under_from _ _ (by assumption) (by omega) (by omega)).mono ?_; rintro e w' ⟨rfl, hF⟩)
          go_meet
          exact ⟨rfl, Lib.hid (by assumption)⟩
        · by_cases hA : (cutS a).data.toList = []
          · have eA := empty_yes hA
            clear hA
            go_wp2_with (go_at_call 17; refine (under_from _ _ (by assumption) (by omega) (by omega)).mono ?_; rintro e w' ⟨rfl, hF⟩)
            go_meet
            exact ⟨rfl, Lib.hid (by assumption)⟩
          · have eA := ne_empty hA
            by_cases hB : (cutS b).data.toList = []
            · have eB := empty_yes hB
              clear hA hB
              go_wp2_with (go_at_call 17; refine (under_from _ _ (by assumption) (by omega) (by omega)).mono ?_; rintro e w' ⟨rfl, hF⟩)
              go_meet
              exact ⟨rfl, Lib.hid (by assumption)⟩
            · have eB := ne_empty hB
              cases h3 : undB (cutS a) (cutS b)
              · have h4 := undB_two h1 h2 hA hB h3
                clear hA hB
                go_wp2_with (go_at_call 17; refine (under_from _ _ (by assumption) (by omega) (by omega)).mono ?_; rintro e w' ⟨rfl, hF⟩)
                go_meet
                exact ⟨rfl, Lib.hid (by assumption)⟩
              · clear hA hB
                go_wp2_with (go_at_call 17; refine (under_from _ _ (by assumption) (by omega) (by omega)).mono ?_; rintro e w' ⟨rfl, hF⟩)
                go_meet
                exact ⟨rfl, Lib.hid (by assumption)⟩
    case rest =>
      obtain ⟨rfl, hH⟩ := hcut
      have hF1 := hH.out
      clear hH hF0
      have bx := ordB_in (cutS a) (cutS b)
      have by' := ordB_in (cutS b) (cutS c)
      have bz := ordB_in (cutS a) (cutS c)
      have hneg : ordB (cutS b) (cutS a) = - ordB (cutS a) (cutS b) := ord_neg _ _
      have htr : ordB (cutS a) (cutS b) ≤ 0 → ordB (cutS b) (cutS c) ≤ 0 → ordB (cutS a) (cutS c) ≤ 0 := ord_trans _ _ _
      have hx : ordB (cutS a) (cutS b) = -1 ∨ ordB (cutS a) (cutS b) = 0 ∨ ordB (cutS a) (cutS b) = 1 := by omega
      rcases hx with hx | hx | hx
      · have he := ord_other (a := cutS a) (b := cutS b) (by omega)
        rw [hx] at hneg htr
        clear bx
        by_cases hy : 0 < ordB (cutS b) (cutS c)
        · clear htr
          go_wp2_with (first | (go_at_call 19; refine (order_from _ _).mono ?_; rintro e w' ⟨rfl, rfl⟩) | (go_at_call 15; refine (works_any (by assumption)).mono ?_; rintro e w' ⟨rfl, hF⟩))
          go_ret
          exact ⟨rfl, And.left (by assumption)⟩
        · have hz := htr (by omega) (by omega)
          clear htr
          go_wp2_with (first | (go_at_call 19; refine (order_from _ _).mono ?_; rintro e w' ⟨rfl, rfl⟩) | (go_at_call 15; refine (works_any (by assumption)).mono ?_; rintro e w' ⟨rfl, hF⟩))
          go_ret
          exact ⟨rfl, And.left (by assumption)⟩
      · have he := ord_zero hx
        rw [hx] at hneg htr
        clear bx
        by_cases hy : 0 < ordB (cutS b) (cutS c)
        · clear htr
          go_wp2_with (first | (go_at_call 19; refine (order_from _ _).mono ?_; rintro e w' ⟨rfl, rfl⟩) | (go_at_call 15; refine (works_any (by assumption)).mono ?_; rintro e w' ⟨rfl, hF⟩))
          go_ret
          exact ⟨rfl, And.left (by assumption)⟩
        · have hz := htr (by omega) (by omega)
          clear htr
          go_wp2_with (first | (go_at_call 19; refine (order_from _ _).mono ?_; rintro e w' ⟨rfl, rfl⟩) | (go_at_call 15; refine (works_any (by assumption)).mono ?_; rintro e w' ⟨rfl, hF⟩))
          go_ret
          exact ⟨rfl, And.left (by assumption)⟩
      · have he := ord_other (a := cutS a) (b := cutS b) (by omega)
        rw [hx] at hneg
        clear bx htr
        go_wp2_with (first | (go_at_call 19; refine (order_from _ _).mono ?_; rintro e w' ⟨rfl, rfl⟩) | (go_at_call 15; refine (works_any (by assumption)).mono ?_; rintro e w' ⟨rfl, hF⟩))
        go_ret
        exact ⟨rfl, And.left (by assumption)⟩
end Go.Proofs.YtihdmfkkpdajlaaDoor.Pth
