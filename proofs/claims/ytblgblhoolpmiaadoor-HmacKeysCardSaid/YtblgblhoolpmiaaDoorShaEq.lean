/- DERIVED. Two digests, compared. -/
import Derived.Test.YtblgblhoolpmiaaDoorShaCat
import Derived.ProofKit
import Derived.ChangeKeysEq
namespace Go.Proofs.YtblgblhoolpmiaaDoor
open Go.RowKit
theorem part5 (l : List Int) (i : Nat) (h : i < l.length) (w : World) : (part 5 (u8s l) i).run Tryd.prog w = .ok (.int .u8 (l.getD i 0)) w := by
  have ha : ∀ w', (isAgg 5).run Tryd.prog w' = .ok false w' := fun _ => by kernel_rfl
  simp [part, ha, u8s_get l i h]
theorem cellsOf5 : Tryd.prog.cellsOf 5 = 1 := by kernel_rfl
theorem eqItems_u8 (d n : Nat) (l m : List Int) (hl : l.length = n) (hm : m.length = n) : ∀ (is : List Nat) (w : World), (∀ i ∈ is, i < n) →
    (Op.eqItems (d + 1) 5 (Tryd.prog.cellsOf 5) (u8s l) (u8s m) is).run Tryd.prog w = .ok (is.all fun i => l.getD i 0 == m.getD i 0) w
  | [], w, _ => by simp [Op.eqItems]
  | i :: is, w, h => by
    have hi := h i (List.mem_cons_self ..)
    have ih := eqItems_u8 d n l m hl hm is w (fun j hj => h j (List.mem_cons_of_mem _ hj))
    rw [cellsOf5] at ih ⊢
    simp only [Op.eqItems, Sem.run_bind, Nat.mul_one, part5 l i (by omega) w, part5 m i (by omega) w, Result.andThen_ok, run_equalIn_int w d 5 .u8 .u8 _ _ Tryd.underlying5]
    by_cases e : (l.getD i 0 == m.getD i 0) = true
    · simp only [e, Bool.not_true, Bool.false_eq_true, if_false, List.all_cons, Bool.true_and]
      exact ih
    · have e' : (l.getD i 0 == m.getD i 0) = false := by simpa using e
      simp only [e', Bool.not_false, if_true, List.all_cons, Bool.false_and, Sem.run_pure]
theorem all_getD_self (l : List Int) (is : List Nat) : (is.all fun i => l.getD i 0 == l.getD i 0) = true := by simp
theorem equal35_same (l : List Int) (hl : l.length = 32) (w : World) : (Op.equalIn 10000 35 (.agg (u8s l)) (.agg (u8s l))).run Tryd.prog w = .ok true w := by
  cases hq : Tryd.prog.info? 5 with
  | none => have h5 := info5; rw [hq] at h5; cases h5
  | some i =>
    rw [run_equalIn_array w 9999 (u8s l) (u8s l) Tryd.underlying35 hq, eqItems_u8 9998 32 l l hl hl _ w (fun i hi => List.mem_range.1 hi), all_getD_self]
theorem eql35_same (l : List Int) (hl : l.length = 32) (w : World) : (binOp .eql 35 (.agg (u8s l)) (.agg (u8s l))).run Tryd.prog w = .ok (.bool true) w := by
  rw [run_eql_struct, equal35_same l hl w]
  rfl
end Go.Proofs.YtblgblhoolpmiaaDoor
