/- DERIVED. What the walk of RulesTouched wants. -/
import Derived.Test.YtikoaejfnggdbaaDoorRulTLawMath
import Derived.Test.YtikoaejfnggdbaaDoorRulLarge
import Derived.Test.YtikoaejfnggdbaaDoorSlUntil
import Derived.Test.YtikoaejfnggdbaaDoorRegionCall
import Derived.Test.YtikoaejfnggdbaaDoorRegionFix
namespace Go.Proofs.YtikoaejfnggdbaaDoor.Rul
open Go.RowKit Lab Pth
theorem rule_mid {w : World} {b o : Nat} {r : Rl} (h : w.rangeAt b o (rlc r).toList) : w.rangeAt b (o + 1) (lab r.a r.c).toList := fun j v hv => by
  have hj : j < 2 := by have := (List.getElem?_eq_some_iff.1 hv).1; simpa using this
  have h2 : j = 0 ∨ j = 1 := by omega
  rcases h2 with rfl | rfl
  · exact h 1 v hv
  · exact h 2 v hv
/-- until operation q comes, the slot holds its old value. -/
def BefP (l : Array Bool) (q : Nat) (z : Nat → Value) (slot : Nat) (val : Value) : Prop := l.getD q false = false → z slot = val
theorem BefP.keep {l : Array Bool} {z : Nat → Value} {q k d slot : Nat} {v val : Value} (h : BefP l q z slot val) (hd : slot ≠ d) : BefP (l.setIfInBounds k true) q (upd z d v) slot val := fun hl => by
  unfold upd
  rw [if_neg hd]
  refine h ?_
  cases e : l.getD q false with
  | false => rfl
  | true => rw [getD_set_true e] at hl; cases hl
theorem BefP.past {l : Array Bool} {z : Nat → Value} {q slot : Nat} {val : Value} (hq : q < l.size) : BefP (l.setIfInBounds q true) q z slot val := fun h => by simp [hq] at h
theorem BefP.ok {l : Array Bool} {q i : Nat} (h : l.getD q false = true → l.getD i false = true) (hu : l.getD i false = false) : l.getD q false = false := by
  cases e : l.getD q false with
  | false => rfl
  | true => rw [h e] at hu; cases hu
theorem BefP.start {l : Array Bool} {z : Nat → Value} {q slot : Nat} {val : Value} (h : z slot = val) : BefP l q z slot val := fun _ => h
theorem OwnL.max {base : Nat} {xs : List (Int × Nat)} {v : Value} {w : World} (h : OwnL base xs v w) : xs.length ≤ maxLen := by
  rcases h.2 with ⟨rfl, h0⟩ | ⟨g, cap, cur, hv, hb, hg, hn, hm, hs, ht⟩
  · rw [h0]; exact Nat.zero_le _
  · exact Nat.le_trans hn hm
end Go.Proofs.YtikoaejfnggdbaaDoor.Rul
