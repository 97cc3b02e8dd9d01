/- DERIVED. The reference's may, part, Split. -/
import Derived.Test.YtmbcojpdigoojaaGreatDoorPthRow
import Derived.Deep.CutBlock
namespace Go.Proofs.YtmbcojpdigoojaaGreatDoor.Pth
open Go.RowKit
set_option maxHeartbeats 2000000 in
theorem may_any (c : Int) (w : World) (h0 : 0 ≤ c) (h1 : c ≤ 255) : Calls Tryz.prog 107 #[.int .u8 c] w fun e w' => e = .returned (.bool (alw c)) ∧ w = w' := by
  go_enter Tryz.func107, Tryz.ntmps107
  go_wp2
  all_goals
    go_ret
    refine ⟨ret_b ?_, rfl⟩
    first
      | decide
      | (rw [Bool.eq_iff_iff]; simp only [alw, Bool.or_eq_true, decide_eq_true_eq, beq_iff_eq, true_iff]; omega)
set_option maxHeartbeats 1000000 in
theorem rpart_any (s : ByteArray) (w : World) (hs : s.size ≤ 1000) : Calls Tryz.prog 82 #[.string s] w fun e w' => e = .returned (.bool (partL s.data.toList)) ∧ w = w' := by
  go_enter Tryz.func82, Tryz.ntmps82
  go_wp2
  go_loop [3, 4] (fun v i => ∃ (k : Nat) (d : Bool), k ≤ s.size ∧ i = .int .i64 k ∧ v = .bool !d ∧ Hid (partG d (s.data.toList.drop k) = partL s.data.toList)) (fun _ i => s.size - (intOf i).toNat)
  case atStart => exact ⟨0, true, Nat.zero_le _, rfl, rfl, rfl⟩
  case round =>
    obtain ⟨k, d, hk, rfl, rfl, HS⟩ := hrel
    by_cases hp : k < s.size
    · have hlt := (s[k]'hp).toNat_lt
      cases hal : alw ((s[k]'hp).toNat : Int)
      · have hr := HS.out
        rw [partG_no hp hal] at hr
        have HR := Lib.hid hr
        clear hr HS
        go_wp2_with (go_at_call 107; refine (may_any _ _ (by omega) (by omega)).mono ?_; rintro e w' ⟨rfl, rfl⟩)
        go_ret
        exact ⟨ret_b HR.out, rfl⟩
      · have hr := HS.out
        rw [partG_yes hp hal] at hr
        have HR := Lib.hid hr
        clear hr HS
        cases d
        · go_wp2_with (go_at_call 107; refine (may_any _ _ (by omega) (by omega)).mono ?_; rintro e w' ⟨rfl, rfl⟩)
          go_round
          case rel => exact ⟨k + 1, false, by omega, by go_num, rfl, Lib.hid (by rw [← HR.out]; simp)⟩
          case measure => simp [intOf]; omega
        · cases h46 : (((s[k]'hp).toNat : Int) == 46)
          all_goals
            have h47 : (((s[k]'hp).toNat : Int) != 46) = !(((s[k]'hp).toNat : Int) == 46) := rfl
            rw [h46] at h47
            go_wp2_with (go_at_call 107; refine (may_any _ _ (by omega) (by omega)).mono ?_; rintro e w' ⟨rfl, rfl⟩)
            go_round
            case rel => exact ⟨k + 1, _, by omega, by go_num, rfl, Lib.hid (by rw [← HR.out, h46])⟩
            case measure => simp [intOf]; omega
    · have hr := HS.out
      rw [partG_end hp] at hr
      have HR := Lib.hid hr
      clear hr HS
      go_wp2
      go_ret
      exact ⟨ret_b HR.out, rfl⟩
end Go.Proofs.YtmbcojpdigoojaaGreatDoor.Pth
