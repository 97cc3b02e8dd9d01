/- DERIVED. The walks of PathsUnder and PathsAre. -/
import Derived.Test.YtihdmfkkpdajlaaDoorPthRef3
import Derived.Deep.DeepCutAuto
namespace Go.Proofs.YtihdmfkkpdajlaaDoor.Pth
open Go.RowKit
theorem From.drewN {w0 w : World} (h : From w0 w) (n : Nat) : From w0 (w.drewN n) := h.next (Below.drewN (Below.refl _ _) n)
set_option maxHeartbeats 4000000 in
theorem under_walk (a b : ByteArray) (w : World) (hL : Laid w) (ha : a.size ≤ maxLen) (hb : b.size ≤ maxLen) :
    Calls Tryd.prog 4 #[.string a, .string b] w fun e w' => e = .returned (.bool true) ∧ Below w.heap.size w w' := by
  have sA := cutS_size a
  have sB := cutS_size b
  have h0 := From.refl hL
  go_enter Tryd.func4, Tryd.ntmps4
  go_upto_region 2 with (go_at_call 8; refine (cut_any _ _ (by assumption)).mono ?_; rintro e w' ⟨rfl, rfl⟩)
  go_wp2_with fail
  refine (under_from _ _ h0 (by omega) (by omega)).mono ?_
  rintro e w1 ⟨rfl, h1⟩
  go_wp2_with fail
  refine (runder_any _ _ _ (by omega) (by omega)).mono ?_
  rintro e w2 ⟨rfl, hb2⟩
  have h2 := h1.next hb2
  go_wp2_with fail
  refine (order_from _ _).mono ?_
  rintro e w3 ⟨rfl, rfl⟩
  go_wp2_with fail
  refine (rorder_any _ _ _ (by omega)).mono ?_
  rintro e w4 ⟨rfl, hb4⟩
  have h4 := h2.next hb4
  go_wp2_with fail
  refine (works_any h4).mono ?_
  rintro e w5 ⟨rfl, h5⟩
  go_wp2
  go_ret
  exact ⟨rfl, h5.1⟩
set_option maxHeartbeats 4000000 in
theorem are_walk (s : ByteArray) (w : World) (hL : Laid w) (hs : s.size ≤ maxLen) :
    Calls Tryd.prog 3 #[.string s] w fun e w' => e = .returned (.bool true) ∧ Below w.heap.size w w' := by
  have sS := cutS_size s
  have h0 := From.refl hL
  cases hi : isB (cutS s)
  · have hi' : isP (cutS s).data.toList = false := hi
    go_enter Tryd.func3, Tryd.ntmps3
    go_upto_region 2 with (go_at_call 8; refine (cut_any _ _ (by assumption)).mono ?_; rintro e w' ⟨rfl, rfl⟩)
    go_wp2_with fail
    refine (parts_no _ _ h0.2 (by omega) hi').mono ?_
    rintro e w1 ⟨rfl, hb1⟩
    have h1 := h0.next hb1
    go_wp2_with fail
    refine (check_from _ h1 (by omega)).mono ?_
    rintro e w2 ⟨rfl, h2⟩
    go_wp2_with fail
    refine (rcheck_any _ _ (by omega)).mono ?_
    rintro e w3 ⟨rfl, hb3⟩
    have h3 := h2.next hb3
    go_wp2_with fail
    refine (prefix_from _ h3 (by omega)).mono ?_
    rintro e w4 ⟨rfl, h4⟩
    go_wp2_with fail
    refine (rprefix_any _ _ (by omega)).mono ?_
    rintro e w5 ⟨rfl, hb5⟩
    have h5 := h4.next hb5
    go_wp2_with fail
    refine (ris_any _ _ (by omega)).mono ?_
    rw [hi]
    rintro e w6 ⟨rfl, hb6⟩
    have h6 := h5.next hb6
    go_wp2_with fail
    refine (works_any h6).mono ?_
    rintro e w7 ⟨rfl, h7⟩
    go_wp2
    go_ret
    exact ⟨rfl, h7.1⟩
  · have hi' : isP (cutS s).data.toList = true := hi
    have hpos := pcB_pos (cutS s)
    have hle : (pcB (cutS s)).length ≤ 8 := by rw [pcB_length]; exact (isP_parts hi').2.1
    go_enter Tryd.func3, Tryd.ntmps3
    go_upto_region 2 with (go_at_call 8; refine (cut_any _ _ (by assumption)).mono ?_; rintro e w' ⟨rfl, rfl⟩)
    go_wp2_with fail
    refine (parts_from _ h0 (by omega) hi').mono ?_
    rintro e w1 ⟨g, hg, rfl, hrow, h1⟩
    have hlt1 := (Array.getElem?_eq_some_iff.1 hrow).1
    have k1 := From.refl h1.2
    go_wp2_with fail
    refine (check_from _ k1 (by omega)).mono ?_
    rintro e w2 ⟨rfl, k2⟩
    go_wp2_with fail
    refine (rcheck_any _ _ (by omega)).mono ?_
    rintro e w3 ⟨rfl, hb3⟩
    have k3 := k2.next hb3
    go_wp2_with fail
    refine (prefix_from _ k3 (by omega)).mono ?_
    rintro e w4 ⟨rfl, k4⟩
    go_wp2_with fail
    refine (rprefix_any _ _ (by omega)).mono ?_
    rintro e w5 ⟨rfl, hb5⟩
    have k5 := k4.next hb5
    go_wp2_with fail
    refine (ris_any _ _ (by omega)).mono ?_
    rw [hi]
    rintro e w6 ⟨rfl, hb6⟩
    have k6 := k5.next hb6
    go_wp2_with fail
    refine (rsplit_any _ _ (by omega)).mono ?_
    rintro e w7 ⟨v, rfl, hO, hb7⟩
    have k7 := k6.next hb7
    obtain ⟨g2, cap, rfl, hcap, hg0, hg1, hcell⟩ := hO.row hpos
    have HC := Lib.hid hcell
    have HD : Hid (∀ j, j < (pcB (cutS s)).length → w7.cell? ⟨g, j, none⟩ = some (.string (nth (pcB (cutS s)) j))) := fun j hj => (k7.1.cell (p := ⟨g, j, none⟩) hlt1).trans (txts_cell hrow j hj)
    have h7 := h1.next k7.1
    clear hO hcell hrow k1 k2 k3 k4 k5 k6 k7 hb3 hb5 hb6 hb7 h1 hi hi'
    go_wp2
    go_loopw [5] (fun i wr => ∃ k n : Nat, k ≤ (pcB (cutS s)).length ∧ i = .int .i64 k ∧ wr = w7.drewN n) (fun i _ => (pcB (cutS s)).length - (intOf i).toNat)
    case atStart => exact ⟨0, 0, Nat.zero_le _, rfl, rfl⟩
    case round =>
      obtain ⟨k, n, hk, rfl, rfl⟩ := hrel
      by_cases hp : k < (pcB (cutS s)).length
      · have c1 : w7.cell? ⟨g, k, none⟩ = _ := HD.out k hp
        have c2 : w7.cell? ⟨g2, k, none⟩ = _ := HC.out k hp
        go_wp2
        go_quiet (fail)
        go_wp2
        go_roundw
        case rel => exact ⟨k + 1, _, by omega, by go_num, rfl⟩
        case measure => simp [intOf]; omega
      · have h8 := h7.drewN n
        go_wp2_with fail
        refine (works_any h8).mono ?_
        rintro e w9 ⟨rfl, h9⟩
        go_wp2
        go_ret
        exact ⟨rfl, h9.1⟩
end Go.Proofs.YtihdmfkkpdajlaaDoor.Pth
