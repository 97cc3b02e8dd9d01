/- DERIVED. paths.isAllowed, paths.isPart of any text, and the reference's may and part. -/
import Derived.Test.YtmbcojpdigoojaaGreatDoorProg
import Derived.Test.YtmbcojpdigoojaaGreatDoorPthSpec
import Derived.Test.YtmbcojpdigoojaaGreatDoorBase2
import Derived.Lib.OthersKept
namespace Go.Proofs.YtmbcojpdigoojaaGreatDoor.Pth
open Go.RowKit
theorem ret_b {a b : Bool} (h : a = b) : Ending.returned (.bool a) = Ending.returned (.bool b) := by rw [h]
theorem ret_yes {r : Int} (h : alw r = true) : Ending.returned (.bool true) = Ending.returned (.bool (alw r)) := by rw [h]
theorem ret_no {r : Int} (h : alw r = false) : Ending.returned (.bool false) = Ending.returned (.bool (alw r)) := by rw [h]
theorem allowed_any (r : Int) (w : World) (h0 : 0 ≤ r) (h1 : r ≤ 2147483647) : Calls Tryz.prog 80 #[.int .i32 r] w fun e w' => e = .returned (.bool (alw r)) ∧ w = w' := by
  go_enter Tryz.func80, Tryz.ntmps80
  go_wp2
  all_goals
    go_ret
    refine ⟨?_, rfl⟩
    first
      | refine ret_yes ?_
      | refine ret_no ?_
    simp only [alw, decide_eq_true_eq, decide_eq_false_iff_not]
    try simp only [beq_iff_eq, beq_eq_false_iff_ne, ne_eq] at *
    omega
theorem iterPos_of {w : World} {k : Nat} {s : ByteArray} {p : Nat} (h : w.heap[k]? = some (.stringIter s p)) : w.iterPos k = p := by simp [World.iterPos, h]
theorem drop_at (s : ByteArray) (k : Nat) (h : k < s.size) : s.data.toList.drop k = s[k] :: s.data.toList.drop (k + 1) := by
  rw [List.drop_eq_getElem_cons (by simpa using h)]; rfl
theorem drop_end (s : ByteArray) (k : Nat) (h : ¬ k < s.size) : s.data.toList.drop k = [] := by
  rw [List.drop_eq_nil_iff]; simp; omega
/-- a step of a part. -/
theorem partG_yes {d : Bool} {s : ByteArray} {k : Nat} (h : k < s.size) (ha : alw ((s[k]'h).toNat : Int) = true) : partG d (s.data.toList.drop k) = partG (d && (((s[k]'h).toNat : Int) == 46)) (s.data.toList.drop (k + 1)) := by
  rw [drop_at s k h, partG, ha, Bool.true_and]
theorem partG_no {d : Bool} {s : ByteArray} {k : Nat} (h : k < s.size) (ha : alw ((s[k]'h).toNat : Int) = false) : partG d (s.data.toList.drop k) = false := by
  rw [drop_at s k h, partG, ha, Bool.false_and]
theorem partG_end {d : Bool} {s : ByteArray} {k : Nat} (h : ¬ k < s.size) : partG d (s.data.toList.drop k) = !d := by
  rw [drop_end s k h, partG]
theorem alw_high {r : Int} (h : 128 ≤ r) : alw r = false := by
  simp only [alw, decide_eq_false_iff_not]
  omega
set_option maxHeartbeats 1000000 in
theorem part_any (s : ByteArray) (w : World) : Calls Tryz.prog 57 #[.string s] w fun e w' => e = .returned (.bool (partL s.data.toList)) ∧ Below w.heap.size w w' := by
  go_enter Tryz.func57, Tryz.ntmps57
  go_wp2
  go_loopw [3] (fun v wr => ∃ (k : Nat) (d : Bool), wr.heap[w.heap.size]? = some (.stringIter s k) ∧ Below w.heap.size w wr ∧ k ≤ s.size ∧ v = .bool d ∧ Hid (partG d (s.data.toList.drop k) = partL s.data.toList)) (fun _ wr => s.size - wr.iterPos w.heap.size)
  case atStart => exact ⟨0, true, World.iter_heap w s 0, (Below.refl _ _).alloc (Nat.le_refl _) _, Nat.zero_le _, rfl, rfl⟩
  case round =>
    obtain ⟨k, d, hit, hb, hk, rfl, HS⟩ := hrel
    have hpos0 := iterPos_of hit
    by_cases hp : k < s.size
    · have hit2 := Lib.iterAt_heap wr w.heap.size s k (k + (Utf8.decode s k).2) hit
      have hb2 := Lib.below_iterAt hb (k := w.heap.size) (Nat.le_refl _) s (k + (Utf8.decode s k).2)
      have hnx : ∀ ty, (Instr.next (.pointer (some ⟨w.heap.size, 0, none⟩)) true ty).run Tryz.prog wr = _ := fun ty => Lib.run_next_any_at wr w.heap.size s k ty hit hp
      have hle := decode_le s k
      obtain ⟨W1, hW1⟩ : ∃ W1, W1 = wr.iterAt w.heap.size s (k + (Utf8.decode s k).2) := ⟨_, rfl⟩
      rw [← hW1] at hnx hit2 hb2
      clear hW1
      by_cases ha : (s[k]'hp).toNat < 128
      · rw [decode_ascii s k hp ha] at hnx hit2 hle
        cases hal : alw ((s[k]'hp).toNat : Int)
        · have hr := HS.out
          rw [partG_no hp hal] at hr
          have HR := Lib.hid hr
          clear hr HS
          go_wp2_with (go_at_call 80; refine (allowed_any _ _ (by omega) (by omega)).mono ?_; rintro e w' ⟨rfl, rfl⟩)
          go_ret
          exact ⟨ret_b HR.out, hb2⟩
        · have hr := HS.out
          rw [partG_yes hp hal] at hr
          have HR := Lib.hid hr
          have HL := Lib.hid hal
          clear hr HS
          cases h46 : (((s[k]'hp).toNat : Int) == 46)
          all_goals
            have h47 : (((s[k]'hp).toNat : Int) != 46) = !(((s[k]'hp).toNat : Int) == 46) := rfl
            rw [h46] at h47
            go_wp2_with (go_at_call 80; refine (allowed_any _ _ (by omega) (by omega)).mono ?_; rintro e w' ⟨rfl, rfl⟩)
            go_roundw
            case rel => exact ⟨k + 1, _, hit2, hb2, by omega, rfl, Lib.hid (by rw [← HR.out, h46]; simp)⟩
            case measure => rw [iterPos_of hit2, hpos0]; omega
      · have hh := decode_high s k hp (by omega)
        have hal : alw ((s[k]'hp).toNat : Int) = false := alw_high (by omega)
        have hal2 : alw ((Utf8.decode s k).1 : Int) = false := alw_high (by omega)
        have hr := HS.out
        rw [partG_no hp hal] at hr
        have HR := Lib.hid hr
        clear hr HS hal
        go_wp2_with (go_at_call 80; refine (allowed_any _ _ (by omega) (by omega)).mono ?_; rintro e w' ⟨rfl, rfl⟩)
        go_ret
        exact ⟨ret_b HR.out, hb2⟩
    · have hnx : ∀ ty, (Instr.next (.pointer (some ⟨w.heap.size, 0, none⟩)) true ty).run Tryz.prog wr = _ := fun ty => Lib.run_next_end_at wr w.heap.size s k ty hit hp
      have hr := HS.out
      rw [partG_end hp] at hr
      have HR := Lib.hid hr
      clear hr HS
      go_wp2
      go_ret
      exact ⟨ret_b HR.out, hb⟩
end Go.Proofs.YtmbcojpdigoojaaGreatDoor.Pth
