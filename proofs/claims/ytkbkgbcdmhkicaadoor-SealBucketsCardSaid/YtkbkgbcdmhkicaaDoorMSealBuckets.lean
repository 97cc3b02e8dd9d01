/- DERIVED. The walk of SealBuckets. -/
import Derived.Test.YtkbkgbcdmhkicaaDoorMseal14
namespace Go.Proofs.YtkbkgbcdmhkicaaDoor.Seal
open Go.RowKit
set_option maxRecDepth 100000 in
theorem rbucket_any (n : Int) (w : World) : Calls Tryd.prog 14 #[.int .i64 n] w fun e w' => e = .returned (.int .i64 (bktI n)) ∧ w = w' := by
  by_cases h0 : n < 0
  · have e : Hid (0 = bktI n) := by unfold Hid bktI; rw [if_pos (Or.inl h0)]
    go_enter Tryd.func14, Tryd.ntmps14
    go_wp2
    go_ret
    exact ⟨ret_i64 e.out, rfl⟩
  by_cases h1 : 131068 < n
  · have e : Hid (0 = bktI n) := by unfold Hid bktI; rw [if_pos (Or.inr h1)]
    go_enter Tryd.func14, Tryd.ntmps14
    go_wp2
    go_ret
    exact ⟨ret_i64 e.out, rfl⟩
  obtain ⟨m, rfl⟩ : ∃ m : Nat, n = m := ⟨n.toNat, by omega⟩
  have hm : m ≤ 131068 := by omega
  have E : Hid (((bkt m : Nat) : Int) = bktI m) := by unfold Hid bktI; rw [if_neg (by omega), Int.toNat_natCast]
  have h1' : ¬ (131068 < (m : Int)) := by omega
  go_enter Tryd.func14, Tryd.ntmps14
  go_upto_region 4 with (fail)
  go_loopw [3] (fun v wr => ∃ b : Nat, v = .int .i64 b ∧ Hid (BkI m b) ∧ wr = w) (fun v _ => 131072 - (intOf v).toNat)
  case atStart => exact ⟨64, rfl, BkI.start m, rfl⟩
  case round =>
    obtain ⟨b, rfl, hb, rfl⟩ := hrel
    have hle := hb.out.le
    have hps := hb.out.pos
    have hmI : (m : Int) ≤ 131068 := by omega
    have hbI : (b : Int) ≤ 131072 := by omega
    by_cases hlt : b < m + 4
    · have hltI : (b : Int) < (m : Int) + 4 := by omega
      have Hn := Lib.hid (hb.out.next hlt hm)
      have hn2 := Hn.out.le
      have hn2I : 2 * (b : Int) ≤ 131072 := by omega
      go_wp2
      refine ⟨⟨2 * b, by go_num, Hn.out, trivial⟩, by simp [intOf]; omega⟩
    · have hltI : ¬ (b : Int) < (m : Int) + 4 := by omega
      have He := Lib.hid (hb.out.end hlt)
      go_wp2
      go_ret
      exact ⟨ret_i64 (by rw [He.out, E.out]), rfl⟩
theorem buckets_walk (n : Int) (w : World) (hL : SLaid w) : Calls Tryd.prog 5 #[.int .i64 n] w fun e w' => e = .returned (.bool true) ∧ Below w.heap.size w w' := by
  obtain ⟨z, hz⟩ : ∃ z, z = bktI n := ⟨_, rfl⟩
  have h1 : Hid (∀ w, Calls Tryd.prog 13 #[.int .i64 n] w fun e w' => e = .returned (.int .i64 z) ∧ w = w') := fun w => by rw [hz]; exact bucket_any n w
  have h2 : Hid (∀ w, Calls Tryd.prog 14 #[.int .i64 n] w fun e w' => e = .returned (.int .i64 z) ∧ w = w') := fun w => by rw [hz]; exact rbucket_any n w
  have HL := Lib.hid hL
  clear hz hL
  go_enter Tryd.func5, Tryd.ntmps5
  go_wp2_with (first
    | (go_at_call 13; refine (h1.out _).mono ?_; rintro e w' ⟨rfl, rfl⟩)
    | (go_at_call 14; refine (h2.out _).mono ?_; rintro e w' ⟨rfl, rfl⟩)
    | (go_at_call 17; refine (most_any _).mono ?_; rintro e w' ⟨rfl, rfl⟩)
    | (go_at_call 10; refine (awake_any _ HL.out).mono ?_; rintro e w2 ⟨rfl, hb⟩; have Hb := Lib.hid hb; clear hb))
  go_ret
  exact ⟨rfl, Hb.out⟩
end Go.Proofs.YtkbkgbcdmhkicaaDoor.Seal
