/- DERIVED. The contract of the statements' helper awake: it returns true. -/
import Derived.Test.YtdkfofnkacmliaaDoorChaQuarter
import Derived.Test.YtdkfofnkacmliaaDoorArrEq
namespace Go.Proofs.YtdkfofnkacmliaaDoor.Cha
open Go.RowKit
theorem eql_four (l m : List Int) (hl : l.length = 4) (hm : m.length = 4) (w : World) : (binOp .eql 23 (.agg (u32s l)) (.agg (u32s m))).run Tryd.prog w = .ok (.bool (decide (l = m))) w :=
  Arr.eql_arr (k := .u32) Tryd.underlying22 (by kernel_rfl) (fun _ => by kernel_rfl) Tryd.underlying23 (by kernel_rfl) l m hl hm w
theorem ex_quarter : quarterL [286331153, 16909060, 2609737539, 19088743] = [3928658676, 3407673550, 1166100270, 1484899515] := by kernel_rfl
theorem quarter_ex (w : World) :
    Calls Tryd.prog 8 #[.agg #[.int .u32 286331153, .int .u32 16909060, .int .u32 2609737539, .int .u32 19088743]] w fun e' w' => e' = .returned (.agg #[.int .u32 3928658676, .int .u32 3407673550, .int .u32 1166100270, .int .u32 1484899515]) ∧ Below w.heap.size w w' := by
  have h := quarter_any [286331153, 16909060, 2609737539, 19088743] rfl w
  rw [ex_quarter] at h
  exact h
theorem eql_ex (w : World) : (binOp .eql 23 (.agg #[.int .u32 3928658676, .int .u32 3407673550, .int .u32 1166100270, .int .u32 1484899515]) (.agg #[.int .u32 3928658676, .int .u32 3407673550, .int .u32 1166100270, .int .u32 1484899515])).run Tryd.prog w = .ok (.bool true) w := by
  have h := eql_four [3928658676, 3407673550, 1166100270, 1484899515] [3928658676, 3407673550, 1166100270, 1484899515] rfl rfl w
  rw [decide_eq_true rfl] at h
  exact h
set_option maxRecDepth 100000 in
set_option maxHeartbeats 1000000 in
theorem awake_any (w : World) :
    Calls Tryd.prog 11 #[] w fun e' w' => e' = .returned (.bool true) ∧ Below w.heap.size w w' := by
  have he := eql_ex
  go_enter Tryd.func11, Tryd.ntmps11
  go_wp2_with (go_at_call 8; refine (quarter_ex _).mono ?_; rintro e w1 ⟨rfl, low1⟩)
  go_ret
  exact ⟨rfl, low1.alloc low1.size _⟩
end Go.Proofs.YtdkfofnkacmliaaDoor.Cha
