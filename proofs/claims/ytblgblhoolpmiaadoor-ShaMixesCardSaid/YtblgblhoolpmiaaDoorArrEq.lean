/- DERIVED. Two arrays of numbers, compared. -/
import Derived.Test.YtblgblhoolpmiaaDoorProg
import Derived.Test.YtblgblhoolpmiaaDoorBase
import Derived.ProofKit
import Derived.ChangeKeysEq
namespace Go.Proofs.YtblgblhoolpmiaaDoor.Arr
open Go.RowKit
/-- a row of numbers of the kind k. -/
def nums (k : IntKind) (l : List Int) : Array Value := (l.map (Value.int k)).toArray
theorem nums_get (k : IntKind) (l : List Int) (j : Nat) (h : j < l.length) : (nums k l)[j]? = some (.int k (l.getD j 0)) := by simp [nums, h]
section
variable {E : Nat} {k : IntKind} (hE : Tryd.prog.underlying E = some (.int k)) (hc : Tryd.prog.cellsOf E = 1) (hg : ∀ w' : World, (isAgg E).run Tryd.prog w' = .ok false w')
include hg in
theorem part_num (l : List Int) (i : Nat) (h : i < l.length) (w : World) : (part E (nums k l) i).run Tryd.prog w = .ok (.int k (l.getD i 0)) w := by
  simp [part, hg, nums_get k l i h]
include hE hc hg in
theorem eqItems_num (d n : Nat) (l m : List Int) (hl : l.length = n) (hm : m.length = n) : ∀ (is : List Nat) (w : World), (∀ i ∈ is, i < n) →
    (Op.eqItems (d + 1) E (Tryd.prog.cellsOf E) (nums k l) (nums k m) is).run Tryd.prog w = .ok (is.all fun i => l.getD i 0 == m.getD i 0) w
  | [], w, _ => by simp [Op.eqItems]
  | i :: is, w, h => by
    have hi := h i (List.mem_cons_self ..)
    have ih := eqItems_num d n l m hl hm is w (fun j hj => h j (List.mem_cons_of_mem _ hj))
    rw [hc] at ih ⊢
    simp only [Op.eqItems, Sem.run_bind, Nat.mul_one, part_num hg l i (by omega) w, part_num hg m i (by omega) w, Result.andThen_ok, run_equalIn_int w d E k k _ _ hE]
    by_cases e : (l.getD i 0 == m.getD i 0) = true
    · simp only [e, Bool.not_true, Bool.false_eq_true, if_false, List.all_cons, Bool.true_and]
      exact ih
    · have e' : (l.getD i 0 == m.getD i 0) = false := by simpa using e
      simp only [e', Bool.not_false, if_true, List.all_cons, Bool.false_and, Sem.run_pure]
theorem all_same (l m : List Int) (n : Nat) (hl : l.length = n) (hm : m.length = n) : ((List.range n).all fun i => l.getD i 0 == m.getD i 0) = decide (l = m) := by
  by_cases e : l = m
  · subst e; simp
  · rw [decide_eq_false e, Bool.eq_false_iff]
    intro h
    apply e
    apply List.ext_getElem (by omega)
    intro j h1 h2
    have := List.all_eq_true.1 h j (List.mem_range.2 (by omega))
    simpa [List.getD_eq_getElem?_getD, h1, h2] using this
include hE hc hg in
/-- ==, of two arrays of n numbers. -/
theorem eql_arr {T n : Nat} (hT : Tryd.prog.underlying T = some (.array n E)) (hi : (Tryd.prog.info? E).isSome = true) (l m : List Int) (hl : l.length = n) (hm : m.length = n) (w : World) :
    (binOp .eql T (.agg (nums k l)) (.agg (nums k m))).run Tryd.prog w = .ok (.bool (decide (l = m))) w := by
  obtain ⟨i, hq⟩ := Option.isSome_iff_exists.1 hi
  rw [run_eql_struct, run_equalIn_array w 9999 (nums k l) (nums k m) hT hq, eqItems_num hE hc hg 9998 n l m hl hm _ w (fun i hi => List.mem_range.1 hi), all_same l m n hl hm]
  rfl
end
end Go.Proofs.YtblgblhoolpmiaaDoor.Arr
