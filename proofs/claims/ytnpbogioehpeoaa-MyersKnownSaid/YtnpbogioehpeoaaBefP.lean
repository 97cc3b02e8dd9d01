/- DERIVED. What a slot held before an operation of its region writes it. -/
import Derived.Test.YtnpbogioehpeoaaRegionCall
import Derived.Test.YtnpbogioehpeoaaBase2
namespace Go.Proofs.Ytnpbogioehpeoaa
open Go.RowKit
/-- until operation q comes, the slot holds its old value. -/
def BefP (l : Array Bool) (q : Nat) (z : Nat → Value) (slot : Nat) (val : Value) : Prop := l.getD q false = false → z slot = val
theorem BefP.keep {l : Array Bool} {z : Nat → Value} {q k d slot : Nat} {v val : Value} (h : BefP l q z slot val) (hd : slot ≠ d) : BefP (l.setIfInBounds k true) q (upd z d v) slot val := fun hl => by
  unfold upd
  rw [if_neg hd]
  refine h ?_
  cases e : l.getD q false with
  | false => rfl
  | true => rw [getD_set_true e] at hl; cases hl
theorem BefP.past {l : Array Bool} {z : Nat → Value} {q slot : Nat} {val : Value} (hq : q < l.size) : BefP (l.setIfInBounds q true) q z slot val := fun h => by simp [hq] at h
theorem BefP.ok {l : Array Bool} {q i : Nat} (h : l.getD q false = true → l.getD i false = true) (hu : l.getD i false = false) : l.getD q false = false := by
  cases e : l.getD q false with
  | false => rfl
  | true => rw [h e] at hu; cases hu
theorem BefP.start {l : Array Bool} {z : Nat → Value} {q slot : Nat} {val : Value} (h : z slot = val) : BefP l q z slot val := fun _ => h
end Go.Proofs.Ytnpbogioehpeoaa
