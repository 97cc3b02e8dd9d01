/- DERIVED. label.Order leaves two boxes and no more: what slices.SortFunc asks of it; slices of labels compared. -/
import Derived.Test.YtmbcojpdigoojaaGreatDoorLabSortMath
import Derived.Sort.Grow
namespace Go.Proofs.YtmbcojpdigoojaaGreatDoor.Lab
open Go.RowKit Str
set_option maxHeartbeats 4000000 in
theorem order_world (a b : Int) (c d : Nat) (w : World) :
    Calls Tryz.prog 46 #[.agg (lab a c), .agg (lab b d)] w fun e w' => e = .returned (.int .i64 (ordL a c b d)) ∧ (w.alloc (.cells (lab a c) 34)).alloc (.cells (lab b d) 34) = w' := by
  by_cases h1 : a < b
  · have h1n : ¬ a = b := by omega
    have Hc : Hid (ordL a c b d = -1) := by show ordL a c b d = -1; unfold ordL; repeat (first | rw [if_pos (by omega)] | rw [if_neg (by omega)])
    go_enter Tryz.func46, Tryz.ntmps46
    go_wp2
    go_ret
    exact ⟨by rw [Hc.out]; rfl, rfl⟩
  · by_cases h2 : b < a
    · have h2n : ¬ a = b := by omega
      have Hc : Hid (ordL a c b d = 1) := by show ordL a c b d = 1; unfold ordL; repeat (first | rw [if_pos (by omega)] | rw [if_neg (by omega)])
      go_enter Tryz.func46, Tryz.ntmps46
      go_wp2
      go_ret
      exact ⟨by rw [Hc.out]; rfl, rfl⟩
    · obtain rfl : a = b := by omega
      by_cases h3 : c < d
      · have h3' : (c : Int) < d := by omega
        have Hc : Hid (ordL a c a d = -1) := by show ordL a c a d = -1; unfold ordL; repeat (first | rw [if_pos (by omega)] | rw [if_neg (by omega)])
        go_enter Tryz.func46, Tryz.ntmps46
        go_wp2
        go_ret
        exact ⟨by rw [Hc.out]; rfl, rfl⟩
      · have h3' : ¬ (c : Int) < d := by omega
        by_cases h4 : d < c
        · have h4' : (d : Int) < c := by omega
          have Hc : Hid (ordL a c a d = 1) := by show ordL a c a d = 1; unfold ordL; repeat (first | rw [if_pos (by omega)] | rw [if_neg (by omega)])
          go_enter Tryz.func46, Tryz.ntmps46
          go_wp2
          go_ret
          exact ⟨by rw [Hc.out]; rfl, rfl⟩
        · have h4' : ¬ (d : Int) < c := by omega
          have Hc : Hid (ordL a c a d = 0) := by show ordL a c a d = 0; unfold ordL; repeat (first | rw [if_pos (by omega)] | rw [if_neg (by omega)])
          go_enter Tryz.func46, Tryz.ntmps46
          go_wp2
          go_ret
          exact ⟨by rw [Hc.out]; rfl, rfl⟩
end Go.Proofs.YtmbcojpdigoojaaGreatDoor.Lab
