/- DERIVED. The contract of sha.Behind. -/
import Derived.Test.YtblgblhoolpmiaaDoorShaPad
namespace Go.Proofs.YtblgblhoolpmiaaDoor
open Go.RowKit
theorem behind_no (n : Int) (h : n < 0 ∨ 1152921504606846976 < n) (w : World) :
    Calls Tryd.prog 12 #[.int .i64 n] w fun e' w' => e' = .returned (.slice none 0 0) ∧ w' = w := by
  rcases h with h | h
  · go_enter Tryd.func12, Tryd.ntmps12
    go_wp2
    go_ret
    exact ⟨rfl, rfl⟩
  · have h' : ¬ n < 0 := by omega
    go_enter Tryd.func12, Tryd.ntmps12
    go_wp2
    go_ret
    exact ⟨rfl, rfl⟩
theorem behind_any (n : Nat) (h : n ≤ 1152921504606846976) (w : World) :
    Calls Tryd.prog 12 #[.int .i64 (n : Int)] w fun e' w' => e' = .returned (.slice (some ⟨w.heap.size, 0, none⟩) (padLen n) (padLen n)) ∧ w'.heap[w.heap.size]? = some (.cells (u8s (padL n)) 5 (0, 0)) ∧ Below w.heap.size w w' := by
  have Hc := Lib.hid (padding_any n (by omega) w)
  have h1 : ¬ (n : Int) < 0 := by omega
  have h2 : ¬ 1152921504606846976 < (n : Int) := by omega
  clear h
  go_enter Tryd.func12, Tryd.ntmps12
  go_wp2_with (go_at_call 32; refine Hc.out.mono ?_; rintro e w' ⟨rfl, hq⟩; have Hq := Lib.hid hq; clear hq)
  go_ret
  exact ⟨rfl, Hq.out⟩
end Go.Proofs.YtblgblhoolpmiaaDoor
