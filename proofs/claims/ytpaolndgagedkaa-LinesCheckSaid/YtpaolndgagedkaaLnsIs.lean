/- DERIVED. lines.isAllowed, lines.Mark, lines.Is of any text. -/
import Derived.Test.YtpaolndgagedkaaLnsRow
namespace Go.Proofs.Ytpaolndgagedkaa.Lns
open Go.RowKit
theorem alw_of (r : Int) : alw r = true ↔ r = 9 ∨ 32 ≤ r ∧ r ≤ 126 := by simp [alw]
theorem alw_no (r : Int) : alw r = false ↔ ¬ (r = 9 ∨ 32 ≤ r ∧ r ≤ 126) := by rw [← alw_of]; simp
theorem allowed_any (r : Int) (w : World) (h0 : 0 ≤ r) (h1 : r ≤ 2147483647) : Calls Try.prog 29 #[.int .i32 r] w fun e w' => e = .returned (.bool (alw r)) ∧ w = w' := by
  by_cases h9 : r = 9
  · subst h9
    go_enter Try.func29, Try.ntmps29
    go_wp2
    go_ret
    exact ⟨rfl, rfl⟩
  · have hb9 : (r == 9) = false := by simpa using h9
    by_cases h32 : 32 ≤ r
    · by_cases h126 : r ≤ 126
      · have HR := Lib.hid ((alw_of r).2 (.inr ⟨h32, h126⟩))
        go_enter Try.func29, Try.ntmps29
        go_wp2
        go_ret
        exact ⟨ret_b HR.out.symm, rfl⟩
      · have HR := Lib.hid ((alw_no r).2 (by omega))
        go_enter Try.func29, Try.ntmps29
        go_wp2
        go_ret
        exact ⟨ret_b HR.out.symm, rfl⟩
    · have HR := Lib.hid ((alw_no r).2 (by omega))
      go_enter Try.func29, Try.ntmps29
      go_wp2
      go_ret
      exact ⟨ret_b HR.out.symm, rfl⟩
theorem mk_iff (s : ByteArray) : mkrB s = true ↔ s.toList = [62, 62, 62, 62, 62, 62, 62] ∨ s.toList = [61, 61, 61, 61, 61, 61, 61] ∨ s.toList = [60, 60, 60, 60, 60, 60, 60] := by
  unfold mkrB mkL
  rw [Lib.toList_data]
  simp only [Bool.or_eq_true, beq_iff_eq]
  exact Iff.rfl
theorem mk_no (s : ByteArray) : mkrB s = false ↔ ¬ (s.toList = [62, 62, 62, 62, 62, 62, 62] ∨ s.toList = [61, 61, 61, 61, 61, 61, 61] ∨ s.toList = [60, 60, 60, 60, 60, 60, 60]) := by rw [← mk_iff]; simp
theorem mark_any (s : ByteArray) (w : World) : Calls Try.prog 16 #[.string s] w fun e w' => e = .returned (.bool (mkrB s)) ∧ w = w' := by
  by_cases h1 : s.toList = [62, 62, 62, 62, 62, 62, 62]
  · have HR := Lib.hid ((mk_iff s).2 (.inl h1))
    go_enter Try.func16, Try.ntmps16
    go_wp2
    go_ret
    exact ⟨ret_b HR.out.symm, rfl⟩
  · by_cases h2 : s.toList = [61, 61, 61, 61, 61, 61, 61]
    · have HR := Lib.hid ((mk_iff s).2 (.inr (.inl h2)))
      go_enter Try.func16, Try.ntmps16
      go_wp2
      go_ret
      exact ⟨ret_b HR.out.symm, rfl⟩
    · by_cases h3 : s.toList = [60, 60, 60, 60, 60, 60, 60]
      · have HR := Lib.hid ((mk_iff s).2 (.inr (.inr h3)))
        go_enter Try.func16, Try.ntmps16
        go_wp2
        go_ret
        exact ⟨ret_b HR.out.symm, rfl⟩
      · have HR := Lib.hid ((mk_no s).2 (by rintro (h | h | h) <;> contradiction))
        go_enter Try.func16, Try.ntmps16
        go_wp2
        go_ret
        exact ⟨ret_b (by rw [HR.out]; simp [h1, h2, h3]), rfl⟩
theorem iterPos_of {w : World} {k : Nat} {s : ByteArray} {p : Nat} (h : w.heap[k]? = some (.stringIter s p)) : w.iterPos k = p := by simp [World.iterPos, h]
theorem drop_at (s : ByteArray) (k : Nat) (h : k < s.size) : s.data.toList.drop k = s[k] :: s.data.toList.drop (k + 1) := by
  rw [List.drop_eq_getElem_cons (by simpa using h)]; rfl
theorem drop_end (s : ByteArray) (k : Nat) (h : ¬ k < s.size) : s.data.toList.drop k = [] := by
  rw [List.drop_eq_nil_iff]; simp; omega
theorem all_yes {s : ByteArray} {k : Nat} (h : k < s.size) (ha : alw ((s[k]'h).toNat : Int) = true) : allL (s.data.toList.drop k) = allL (s.data.toList.drop (k + 1)) := by
  rw [drop_at s k h]
  simp only [allL, List.all_cons, ha, Bool.true_and]
theorem all_no {s : ByteArray} {k : Nat} (h : k < s.size) (ha : alw ((s[k]'h).toNat : Int) = false) : allL (s.data.toList.drop k) = false := by
  rw [drop_at s k h]
  simp only [allL, List.all_cons, ha, Bool.false_and]
theorem all_end {s : ByteArray} {k : Nat} (h : ¬ k < s.size) : allL (s.data.toList.drop k) = true := by
  rw [drop_end s k h]; rfl
theorem alw_high {r : Int} (h : 128 ≤ r) : alw r = false := (alw_no r).2 (by omega)
theorem isB_long {s : ByteArray} (h : 80 < s.size) : isB s = false := by
  have e : decide (s.data.toList.length ≤ 80) = false := by rw [decide_eq_false_iff_not, ← Lib.size_eq]; omega
  unfold isB isL plainL
  rw [e]; rfl
theorem isB_mark {s : ByteArray} (h : mkrB s = true) : isB s = false := by
  unfold isB isL
  rw [show mkL s.data.toList = true from h, Bool.not_true, Bool.and_false]
theorem isB_all {s : ByteArray} (h : ¬ 80 < s.size) (hm : mkrB s = false) : isB s = allL s.data.toList := by
  have e : decide (s.data.toList.length ≤ 80) = true := by rw [decide_eq_true_eq, ← Lib.size_eq]; omega
  unfold isB isL plainL
  rw [e, show mkL s.data.toList = false from hm, Bool.true_and, Bool.not_false, Bool.and_true]
set_option maxHeartbeats 1000000 in
theorem is_any (s : ByteArray) (w : World) : Calls Try.prog 14 #[.string s] w fun e w' => e = .returned (.bool (isB s)) ∧ Below w.heap.size w w' := by
  by_cases h80 : 80 < s.size
  · have HR := Lib.hid (isB_long h80)
    go_enter Try.func14, Try.ntmps14
    go_wp2
    all_goals
      go_ret
      exact ⟨ret_b HR.out.symm, Below.refl _ _⟩
  · cases hm : mkrB s
    · have HI := Lib.hid (isB_all h80 hm)
      have HM := Lib.hid hm
      clear hm
      go_enter Try.func14, Try.ntmps14
      go_wp2_with (go_at_call 16; refine (mark_any _ _).mono ?_; rw [HM.out]; rintro e w' ⟨rfl, rfl⟩)
      go_loopw [2] (fun _ wr => ∃ (k : Nat), wr.heap[w.heap.size]? = some (.stringIter s k) ∧ Below w.heap.size w wr ∧ k ≤ s.size ∧ Hid (allL (s.data.toList.drop k) = isB s)) (fun _ wr => s.size - wr.iterPos w.heap.size)
      case atStart => exact ⟨0, World.iter_heap w s 0, (Below.refl _ _).alloc (Nat.le_refl _) _, Nat.zero_le _, HI.out.symm⟩
      case round =>
        obtain ⟨k, hit, hb, hk, HS⟩ := hrel
        have hpos0 := iterPos_of hit
        by_cases hp : k < s.size
        · have hit2 := Lib.iterAt_heap wr w.heap.size s k (k + (Utf8.decode s k).2) hit
          have hb2 := Lib.below_iterAt hb (k := w.heap.size) (Nat.le_refl _) s (k + (Utf8.decode s k).2)
          have hnx : ∀ ty, (Instr.next (.pointer (some ⟨w.heap.size, 0, none⟩)) true ty).run Try.prog wr = _ := fun ty => Lib.run_next_any_at wr w.heap.size s k ty hit hp
          have hle := decode_le s k
          obtain ⟨W1, hW1⟩ : ∃ W1, W1 = wr.iterAt w.heap.size s (k + (Utf8.decode s k).2) := ⟨_, rfl⟩
          rw [← hW1] at hnx hit2 hb2
          clear hW1
          by_cases ha : (s[k]'hp).toNat < 128
          · rw [decode_ascii s k hp ha] at hnx hit2 hle
            cases hal : alw ((s[k]'hp).toNat : Int)
            · have hr := HS.out
              rw [all_no hp hal] at hr
              have HR := Lib.hid hr
              have HL := Lib.hid hal
              clear hr HS HI hal
              go_wp2_with (go_at_call 29; refine (allowed_any _ _ (by omega) (by omega)).mono ?_; rw [HL.out]; rintro e w' ⟨rfl, rfl⟩)
              go_ret
              exact ⟨ret_b HR.out, hb2⟩
            · have hr := HS.out
              rw [all_yes hp hal] at hr
              have HR := Lib.hid hr
              have HL := Lib.hid hal
              clear hr HS HI hal
              go_wp2_with (go_at_call 29; refine (allowed_any _ _ (by omega) (by omega)).mono ?_; rw [HL.out]; rintro e w' ⟨rfl, rfl⟩)
              go_roundw
              case rel => exact ⟨k + 1, hit2, hb2, by omega, HR⟩
              case measure => rw [iterPos_of hit2, hpos0]; omega
          · have hh := decode_high s k hp (by omega)
            have hal : alw ((s[k]'hp).toNat : Int) = false := alw_high (by omega)
            have hal2 : alw ((Utf8.decode s k).1 : Int) = false := alw_high (by omega)
            have hr := HS.out
            rw [all_no hp hal] at hr
            have HR := Lib.hid hr
            have HL := Lib.hid hal2
            clear hr HS HI hal hal2
            go_wp2_with (go_at_call 29; refine (allowed_any _ _ (by omega) (by omega)).mono ?_; rw [HL.out]; rintro e w' ⟨rfl, rfl⟩)
            go_ret
            exact ⟨ret_b HR.out, hb2⟩
        · have hnx : ∀ ty, (Instr.next (.pointer (some ⟨w.heap.size, 0, none⟩)) true ty).run Try.prog wr = _ := fun ty => Lib.run_next_end_at wr w.heap.size s k ty hit hp
          have hr := HS.out
          rw [all_end hp] at hr
          have HR := Lib.hid hr
          clear hr HS HI
          go_wp2
          go_ret
          exact ⟨ret_b HR.out, hb⟩
    · have HR := Lib.hid (isB_mark hm)
      have HM := Lib.hid hm
      clear hm
      go_enter Try.func14, Try.ntmps14
      go_wp2_with (go_at_call 16; refine (mark_any _ _).mono ?_; rw [HM.out]; rintro e w' ⟨rfl, rfl⟩)
      go_ret
      exact ⟨ret_b HR.out.symm, Below.refl _ _⟩
end Go.Proofs.Ytpaolndgagedkaa.Lns
