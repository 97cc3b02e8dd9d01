/- DERIVED. The walk of PathsBack. -/
import Derived.Test.YtihdmfkkpdajlaaDoorPthRef2
import Derived.Test.YtihdmfkkpdajlaaDoorPthWorks
import Derived.StillTailTactics
import Derived.Deep.CutBlock
import Derived.Deep.DeepCutAuto
namespace Go.Proofs.YtihdmfkkpdajlaaDoor.Pth
open Go.RowKit
/-- the first k parts, with slashes between them. -/
def joinB (s : ByteArray) (k : Nat) : ByteArray := ⟨(joinS ((pcs s.data.toList).take k)).toArray⟩
theorem joinB_data (s : ByteArray) (k : Nat) : (joinB s k).data.toList = joinS ((pcs s.data.toList).take k) := rfl
theorem joinB_first (s : ByteArray) : joinB s 0 ++ nth (pcB s) 0 = joinB s 1 := by
  refine bytes_eq ?_
  have h : ∃ x t, pcs s.data.toList = x :: t := by
    cases e : pcs s.data.toList with
    | nil => exact absurd e (pcs_ne _)
    | cons x t => exact ⟨x, t, rfl⟩
  obtain ⟨x, t, h⟩ := h
  have e1 : (nth (pcB s) 0).data.toList = x := by rw [nth_data, h]; rfl
  rw [joinB_data, h]
  simp only [List.take_succ_cons, List.take_zero, joinS_one]
  rw [← e1]
  have : joinB s 0 = ⟨#[]⟩ := rfl
  rw [this]
  simp
theorem joinB_next (s : ByteArray) (k : Nat) (h0 : 0 < k) (hk : k < (pcB s).length) : joinB s k ++ ⟨#[47]⟩ ++ nth (pcB s) k = joinB s (k + 1) := by
  refine bytes_eq ?_
  rw [pcB_length] at hk
  have e : (pcs s.data.toList).take (k + 1) = (pcs s.data.toList).take k ++ [(pcs s.data.toList).getD k []] := by
    rw [List.take_succ_eq_append_getElem hk, List.getD_eq_getElem?_getD, List.getElem?_eq_getElem hk]; rfl
  rw [joinB_data, e, joinS_snoc _ _ (by rw [← List.length_pos_iff, List.length_take]; omega)]
  rw [← nth_data]
  simp [joinB]
theorem joinB_last (s : ByteArray) : joinB s (pcB s).length = s := by
  refine bytes_eq ?_
  rw [joinB_data, pcB_length, List.take_length, joinS_pcs]
theorem joinS_len : ∀ (t : List (List UInt8)) (k : Nat), (joinS (t.take k)).length ≤ (joinS t).length
  | [], k => by simp [joinS]
  | x :: t, 0 => by simp [joinS]
  | x :: t, k + 1 => by
    rw [List.take_succ_cons]
    cases t with
    | nil => simp [joinS]
    | cons y t =>
      have ih := joinS_len (y :: t) k
      rw [joinS_cons x (y :: t) (by simp)]
      by_cases h : (y :: t).take k = []
      · rw [h]; simp [joinS]
      · rw [joinS_cons _ _ h]; simp; omega
theorem joinB_size (s : ByteArray) (k : Nat) : (joinB s k).size ≤ s.size := by
  rw [Lib.size_eq, Lib.size_eq, joinB_data]
  have := joinS_len (pcs s.data.toList) k
  rw [joinS_pcs] at this
  exact this
/-- the beginnings. -/
def overL (s : ByteArray) (k : Nat) : List ByteArray := (List.range k).map fun j => joinB s (j + 1)
theorem overL_len (s : ByteArray) (k : Nat) : (overL s k).length = k := by simp [overL]
theorem overL_next (s : ByteArray) (k : Nat) : overL s k ++ [joinB s (k + 1)] = overL s (k + 1) := by simp [overL, List.range_succ]
theorem overL_nth (s : ByteArray) (k j : Nat) (h : j < k) : nth (overL s k) j = joinB s (j + 1) := by simp [nth, overL, h]
/-- where a beginning ends. -/
def Ends (s : ByteArray) (i : Nat) : Prop := i = s.size ∨ ∃ h : i < s.size, s[i] = 47
theorem take_split {s : ByteArray} {i : Nat} (h : i < s.size) : s.data.toList = s.data.toList.take i ++ s[i] :: s.data.toList.drop (i + 1) := by
  have k := List.take_append_drop i s.data.toList
  rw [drop_at s i h] at k
  exact k.symm
/-- how many slashes stand ahead of i. -/
def cnt (s : ByteArray) (i : Nat) : Nat := (s.data.toList.take i).count 47
theorem cnt_next {s : ByteArray} {i : Nat} (h : i < s.size) : cnt s (i + 1) = cnt s i + if s[i] = 47 then 1 else 0 := by
  unfold cnt
  rw [List.take_succ_eq_append_getElem (by simpa using h), List.count_append]
  congr 1
  show List.count 47 [s[i]] = _
  by_cases e : s[i] = 47
  · rw [e]; simp
  · simp [e]
theorem cnt_all (s : ByteArray) : (pcB s).length = cnt s s.size + 1 := by
  rw [pcB_length, pcs_len, cnt, List.take_of_length_le (by rw [← Lib.size_eq]; omega)]
theorem cnt_le {s : ByteArray} (i : Nat) : cnt s i < (pcB s).length := by
  rw [pcB_length, pcs_len, cnt]
  have := (List.take_sublist i s.data.toList).count_le 47
  omega
theorem isP_take {s : ByteArray} {i : Nat} (h : isP s.data.toList = true) (he : Ends s i) : isP (s.data.toList.take i) = true := by
  rcases he with rfl | ⟨hi, e⟩
  · rw [List.take_of_length_le (by rw [← Lib.size_eq]; omega)]; exact h
  · have k := take_split hi
    rw [e] at k
    rw [k] at h
    exact isP_left h
theorem und_take {s : ByteArray} {i : Nat} (h : isP s.data.toList = true) (h1 : 1 ≤ i) (h2 : i ≤ s.size) : und (s.data.toList.take i) s.data.toList = true ↔ Ends s i := by
  rw [und_iff]
  constructor
  · rintro ⟨_, e | e | ⟨r, e⟩⟩
    · have := congrArg List.length e
      rw [List.length_take, ← Lib.size_eq, List.length_nil] at this
      omega
    · have := congrArg List.length e
      rw [List.length_take, ← Lib.size_eq] at this
      left; omega
    · by_cases hi : i < s.size
      · have k := take_split hi
        rw [k] at e
        have e' : s.data.toList.take i ++ s[i] :: s.data.toList.drop (i + 1) = s.data.toList.take i ++ 47 :: r := by
          have hl : (s.data.toList.take i).length = i := by rw [List.length_take, ← Lib.size_eq]; omega
          simpa [List.take_append, hl] using e
        rw [List.append_cancel_left_eq] at e'
        exact .inr ⟨hi, (List.cons.inj e').1⟩
      · left; omega
  · intro he
    refine ⟨h, ?_⟩
    rcases he with rfl | ⟨hi, e⟩
    · exact .inr (.inl (by rw [List.take_of_length_le]; rw [← Lib.size_eq]; omega))
    · have k := take_split hi
      rw [e] at k
      exact .inr (.inr ⟨_, k⟩)
theorem join_take {s : ByteArray} {i : Nat} (he : Ends s i) : joinS ((pcs s.data.toList).take (cnt s i + 1)) = s.data.toList.take i := by
  have hl : (pcs (s.data.toList.take i)).length = cnt s i + 1 := by rw [pcs_len, cnt]
  rcases he with rfl | ⟨hi, e⟩
  · rw [List.take_of_length_le (l := s.data.toList) (by rw [← Lib.size_eq]; omega)] at hl ⊢
    rw [List.take_of_length_le (by omega), joinS_pcs]
  · have k := take_split hi
    rw [e] at k
    have c : pcs s.data.toList = pcs (s.data.toList.take i) ++ pcs (s.data.toList.drop (i + 1)) := by
      conv => lhs; rw [k]
      rw [pcs_app]
    rw [c, List.take_append_of_le_length (by omega), List.take_of_length_le (by omega), joinS_pcs]
theorem ext_take (s : ByteArray) (i : Nat) : (s.extract 0 i).data.toList = s.data.toList.take i := by rw [Lib.extract_data, List.drop_zero, Nat.sub_zero]
theorem undB_ends {s : ByteArray} {i : Nat} (h : isP s.data.toList = true) (h1 : 1 ≤ i) (h2 : i ≤ s.size) : undB (s.extract 0 i) s = true ↔ Ends s i := by
  rw [undB, ext_take]; exact und_take h h1 h2
theorem over_take {s : ByteArray} {i : Nat} (he : Ends s i) : joinB s (cnt s i + 1) = s.extract 0 i := bytes_eq (by rw [joinB_data, join_take he, ext_take])
theorem chk_take {s : ByteArray} {i : Nat} (h : isP s.data.toList = true) (he : Ends s i) : chk (s.extract 0 i) = 0 := chk_yes (by rw [ext_take]; exact isP_take h he)
/-- how far the second loop has come. -/
def Cnt (s : ByteArray) (n i : Nat) : Prop := 1 ≤ i ∧ i ≤ s.size + 1 ∧ (i ≤ s.size → n = cnt s i) ∧ (i = s.size + 1 → n = (pcB s).length)
theorem Cnt.start {s : ByteArray} (h : isP s.data.toList = true) : Cnt s 0 1 := by
  have hs : 0 < s.size := by
    have := isP_ne h
    rw [← List.length_pos_iff, ← Lib.size_eq] at this
    exact this
  refine ⟨Nat.le_refl _, by omega, fun _ => ?_, fun e => by omega⟩
  rw [cnt_next hs]
  have h0 : s[0] ≠ 47 := by
    intro e
    have k := take_split hs
    rw [e] at k
    simp only [List.take_zero, List.nil_append] at k
    rw [k] at h
    exact isP_head h
  rw [if_neg h0]
  simp [cnt]
theorem Cnt.yes {s : ByteArray} {n i : Nat} (h : Cnt s n i) (hi : i ≤ s.size) (he : Ends s i) : Cnt s (n + 1) (i + 1) := by
  obtain ⟨h1, h2, h3, _⟩ := h
  have h3 := h3 hi
  refine ⟨by omega, by omega, fun k => ?_, fun k => ?_⟩
  · rcases he with rfl | ⟨hlt, e⟩
    · omega
    · rw [cnt_next hlt, if_pos e, h3]
  · have : i = s.size := by omega
    subst this
    rw [cnt_all, h3]
theorem Cnt.no {s : ByteArray} {n i : Nat} (h : Cnt s n i) (hi : i ≤ s.size) (he : ¬ Ends s i) : Cnt s n (i + 1) := by
  obtain ⟨h1, h2, h3, _⟩ := h
  have h3 := h3 hi
  have hlt : i < s.size := by
    by_cases e : i = s.size
    · exact absurd (.inl e) he
    · omega
  refine ⟨by omega, by omega, fun k => ?_, fun k => by omega⟩
  rw [cnt_next hlt, if_neg (fun e => he (.inr ⟨hlt, e⟩)), h3]
  rfl
set_option maxHeartbeats 4000000 in
set_option maxRecDepth 100000 in
theorem back_walk (s : ByteArray) (w : World) (hL : Laid w) (hs : s.size ≤ maxLen) :
    Calls Tryd.prog 5 #[.string s] w fun e w' => e = .returned (.bool true) ∧ Below w.heap.size w w' := by
  have sS := cutS_size s
  have h0 := From.refl hL
  cases hi : isP (cutS s).data.toList
  · have hc := chk_no hi
    go_enter Tryd.func5, Tryd.ntmps5
    go_upto_region 2 with (go_at_call 8; refine (cut_any _ _ (by assumption)).mono ?_; rintro e w' ⟨rfl, rfl⟩)
    go_wp2_with fail
    refine (parts_no _ _ h0.2 (by omega) hi).mono ?_
    rintro e w1 ⟨rfl, hb1⟩
    have h1 := h0.next hb1
    go_wp2_with fail
    refine (check_from _ h1 (by omega)).mono ?_
    rw [hc]
    rintro e w2 ⟨rfl, h2⟩
    go_wp2_with fail
    refine (works_any h2).mono ?_
    rintro e w3 ⟨rfl, h3⟩
    go_wp2
    go_ret
    exact ⟨rfl, h3.1⟩
  · have hpos := pcB_pos (cutS s)
    have hle : (pcB (cutS s)).length ≤ 8 := by rw [pcB_length]; exact (isP_parts hi).2.1
    have HI := Lib.hid hi
    go_enter Tryd.func5, Tryd.ntmps5
    go_upto_region 2 with (go_at_call 8; refine (cut_any _ _ (by assumption)).mono ?_; rintro e w' ⟨rfl, rfl⟩)
    obtain ⟨c, hcc⟩ : ∃ c, c = cutS s := ⟨_, rfl⟩
    rw [← hcc] at sS hi hpos hle HI ⊢
    clear hcc hs
    go_wp2_with fail
    refine (parts_from _ h0 (by omega) hi).mono ?_
    rintro e w1 ⟨g, hg, rfl, hrow, h1⟩
    have hlt1 := (Array.getElem?_eq_some_iff.1 hrow).1
    have hz : (((pcB c).length : Int) == 0) = false := by rw [beq_eq_false_iff_ne]; omega
    have HD : Hid (∀ j, j < (pcB c).length → w1.cell? ⟨g, j, none⟩ = some (.string (nth (pcB c) j))) := fun j hj => txts_cell hrow j hj
    have hcell0 := txts_cell hrow 0 hpos
    clear hi hrow
    go_wp2
    go_loopw [4, 5, 6] (fun t v i wr => ∃ k : Nat, k ≤ (pcB c).length ∧ i = .int .i64 k ∧ t = .string (joinB c k) ∧ Hid (OwnT w1.heap.size (overL c k) v wr) ∧ Below w1.heap.size w1 wr) (fun _ _ i _ => (pcB c).length - (intOf i).toNat)
    case atStart => exact ⟨0, Nat.zero_le _, rfl, rfl, OwnT.nil _ _, Below.refl _ _⟩
    case round =>
      obtain ⟨k, hk, rfl, rfl, HO, hb⟩ := hrel
      clear hcell0
      have hlo := overL_len c k
      have HLo := Lib.hid hlo
      clear hlo
      have hsz := hb.size
      have hjs := joinB_size c k
      by_cases hp : k < (pcB c).length
      · have hc0 := (hb.cell (p := ⟨g, k, none⟩) hlt1).trans (HD.out k hp)
        by_cases hk0 : 0 < k
        · have HJ := Lib.hid (joinB_next c k hk0 hp)
          have hns := nth_size hp
          go_wp2_with (at_builtin; refine wpList_append_txt rfl (.tmp 38) (.tmp 40) rfl w1.heap.size _ (overL c k) _ rfl HO.out rfl (by have := HLo.out; omega) (by omega) ?_; intro v' w2 O1 g1; have hO1 := Lib.hid O1; have hb1 := g1 _ _ hb (Nat.le_refl _); clear g1 O1)
          go_roundw
          case rel => exact ⟨k + 1, by omega, by go_num, congrArg Value.string HJ.out, by have h := hO1.out; rw [HJ.out, overL_next] at h; exact h, hb1⟩
          case measure => simp [intOf]; omega
        · have HJ : Hid (joinB c k ++ nth (pcB c) k = joinB c (k + 1)) := by
            obtain rfl : k = 0 := by omega
            exact joinB_first c
          have hns := nth_size hp
          go_wp2_with (at_builtin; refine wpList_append_txt rfl (.tmp 38) (.tmp 40) rfl w1.heap.size _ (overL c k) _ rfl HO.out rfl (by have := HLo.out; omega) (by omega) ?_; intro v' w2 O1 g1; have hO1 := Lib.hid O1; have hb1 := g1 _ _ hb (Nat.le_refl _); clear g1 O1)
          go_roundw
          case rel => exact ⟨k + 1, by omega, by go_num, congrArg Value.string HJ.out, by have h := hO1.out; rw [HJ.out, overL_next] at h; exact h, hb1⟩
          case measure => simp [intOf]; omega
      · obtain rfl : k = (pcB c).length := by omega
        have heq : ((joinB c (pcB c).length).toList == c.toList) = true := by rw [joinB_last]; simp
        obtain ⟨g2, cap, hv, hcap, hg0, hg1, hcell⟩ := HO.out.row (by rw [overL_len]; exact hpos)
        rw [overL_len] at hv hcap hcell
        subst hv
        have HC : Hid (∀ j, j < (pcB c).length → wr.cell? ⟨g2, j, none⟩ = some (.string (joinB c (j + 1)))) := fun j hj => by rw [hcell j hj, overL_nth c _ j hj]
        have hF := h1.next hb
        have HS0 := Lib.hid (Cnt.start HI.out)
        clear hcell HO HLo hb hlt1 h1
        go_wp2
        go_loopw [7, 8] (fun n i wx => ∃ a b : Nat, n = .int .i64 a ∧ i = .int .i64 b ∧ Hid (Cnt c a b) ∧ Below wr.heap.size wr wx ∧ From w wx) (fun _ i _ => c.size + 1 - (intOf i).toNat)
        case atStart => exact ⟨0, 1, rfl, rfl, HS0, Below.refl _ _, hF⟩
        case round =>
          obtain ⟨a, b, rfl, rfl, HS, hbx, hFx⟩ := hrel
          clear HS0 hF
          obtain ⟨hb1, hb2, hb3, hb4⟩ := HS.out
          by_cases hp : b ≤ c.size
          · have ha := hb3 hp
            have hal := cnt_le (s := c) b
            rw [← ha] at hal
            have hxs : (c.extract 0 b).size ≤ 1000 := by rw [ByteArray.size_extract]; omega
            clear hb3 hb4 ha
            cases hu : undB (c.extract 0 b) c
            · have hne : ¬ Ends c b := fun e => by rw [(undB_ends HI.out hb1 hp).2 e] at hu; cases hu
              have HN := Lib.hid (HS.out.no hp hne)
              clear hne
              go_wp2_with fail
              refine (under_any _ _ _ hFx.2 (by omega) (by omega)).mono ?_
              rw [show und (c.extract 0 b).data.toList c.data.toList = false from hu]
              rintro e w3 ⟨rfl, h3⟩
              go_wp2
              go_roundw
              case rel => exact ⟨a, b + 1, rfl, by go_num, HN, hbx.trans (h3.mono hbx.size), hFx.next h3⟩
              case measure => simp [intOf]; omega
            · have he := (undB_ends HI.out hb1 hp).1 hu
              have HN := Lib.hid (HS.out.yes hp he)
              have hck := chk_take HI.out he
              have HO : Hid (joinB c (a + 1) = c.extract 0 b) := by rw [HS.out.2.2.1 hp]; exact over_take he
              clear he
              go_wp2_with fail
              refine (under_any _ _ _ hFx.2 (by omega) (by omega)).mono ?_
              rw [show und (c.extract 0 b).data.toList c.data.toList = true from hu]
              rintro e w3 ⟨rfl, h3⟩
              have hb3 := hbx.trans (h3.mono hbx.size)
              have hF3 := hFx.next h3
              have hc3 : w3.cell? ⟨g2, a, none⟩ = some (.string (c.extract 0 b)) := by rw [← HO.out]; exact (hb3.cell (p := ⟨g2, a, none⟩) hg1).trans (HC.out a hal)
              clear hu h3 hFx hbx
              go_wp2
              go_still_tail 18, (by kernel_rfl)
              change wpList _ _ _ _ _ w3.drew
              have hF4 := hF3.next ((Below.refl w3.heap.size w3).drew)
              have hb4 := hb3.drew
              generalize w3.drew = w4 at hF4 hb4 ⊢
              clear hc3 hF3 hb3
              go_wp2_with fail
              refine (check_any _ _ hF4.2 (by omega)).mono ?_
              rw [hck]
              rintro e w5 ⟨rfl, h5⟩
              go_wp2
              go_roundw
              case rel => exact ⟨a + 1, b + 1, by go_num, by go_num, HN, hb4.trans (h5.mono hb4.size), hF4.next h5⟩
              case measure => simp [intOf]; omega
          · obtain rfl : b = c.size + 1 := by omega
            have ha := hb4 rfl
            have hu : undB ⟨#[]⟩ c = true := und_empty HI.out rfl
            clear hb3 hb4 HC HS
            subst ha
            go_wp2_with fail
            refine (under_from _ _ hFx (by decide) (by omega)).mono ?_
            rw [hu]
            rintro e w3 ⟨rfl, h3⟩
            go_wp2_with fail
            refine (works_any h3).mono ?_
            rintro e w4 ⟨rfl, h4⟩
            go_wp2
            go_ret
            exact ⟨rfl, h4.1⟩
end Go.Proofs.YtihdmfkkpdajlaaDoor.Pth
