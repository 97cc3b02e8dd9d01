/- DERIVED. append of any slice of bytes to an own row; a digest loaded as a whole. -/
import Derived.Test.YtblgblhoolpmiaaDoorShaBytes
import Derived.Test.YtblgblhoolpmiaaDoorShaFoldsMath
import Derived.Test.YtblgblhoolpmiaaDoorShaEq
import Derived.StillTailTactics
namespace Go.Proofs.YtblgblhoolpmiaaDoor.lawAnybody
open Go.RowKit
/-- appending a slice of bytes, nil or not, to a row of the call's own. -/
theorem wpList_append_byt {w : World} {ops : Array Oper} {rest : List Oper} {o : Oper} {a : Act} {Q : Exit → Act → World → Prop} (hgd : o.guard = none) (s x : Operand)
    (ho : o.op = .call { callee := .builtin .append, args := #[s, x], argTypes := #[26, 26] }) (base : Nat) (v : Value) (n : Nat) (L : List Int) (hs : a.eval s = v) (hown : w.ownsRow base 5 1 v n (vals L))
    (A : Option Addr) (m c : Nat) (M : List Int) (hx : a.eval x = .slice A m c) (hm : M.length = m) (hB : Byt w A c M) (h63 : n + m ≤ 100000) (hbase : base ≤ w.heap.size)
    (h : ∀ v' w', w'.ownsRow base 5 1 v' (n + m) (vals (L ++ M)) → (∀ B u, Below B u w → B ≤ base → Below B u w') → (∀ k b, w.heap[k]? = some b → v.ownBlock ≠ some k → w'.heap[k]? = some b) →
      wpList Tryd.prog ops Q rest (a.put o.dst v') w') : wpList Tryd.prog ops Q (o :: rest) a w := by
  obtain ⟨i0, hi0, hz00, hz10, hz20⟩ := info_parts info5
  cases A with
  | none =>
    have hc := hB.2.1 rfl
    have hm0 : m = 0 := by have := hB.1; omega
    subst hc hm0
    obtain rfl : M = [] := List.eq_nil_of_length_eq_zero hm
    refine wpList_append_own_none hgd s x 26 ho base 5 i0 1 Tryd.underlying26 hi0 v n (vals L) hs hown hx ?_
    exact h v w (by rw [List.append_nil]; exact hown) (fun _ _ h _ => h) (fun _ _ h _ => h)
  | some ad =>
    refine wpList_append_own _ hgd s x 26 ho base 5 i0 (.int .u8 0) 1 1 Tryd.underlying26 hi0 hz00 hz10 hz20 rfl (by decide) v n (vals L) hs hown ad m c (vals M) hx (by rw [vals_length, hm]; omega)
      (hB.cells (fun _ _ => rfl) ad rfl) (vals_one _) (by unfold maxLen; omega) (by omega) hbase ?_
    intro v' w' hown' hgrow _
    rw [vals_append] at hown'
    exact h v' w' hown' (fun B u hb hB' => hb.grown hgrow (by omega) (fun k hk => Nat.le_trans hB' (own_ge hown k hk))) (fun k b hk hne => by
      rw [hgrow.block k (Array.getElem?_eq_some_iff.1 hk).1 (fun e => hne (by rw [e]))]; exact hk)
/-- a digest, loaded as a whole. -/
noncomputable def load35 (v : Value) : Sem Value := Instr.loadAt 35 v
theorem loadAt35 (v : Value) : Instr.loadAt 35 v = load35 v := rfl
theorem load35_eq {w : World} {g : Nat} {l : List Int} (hl : l.length = 32) (h : w.heap[g]? = some (.cells (u8s l) 35 (0, 0))) : (load35 (.pointer (some ⟨g, 0, none⟩))).run Tryd.prog w = .ok (.agg (u8s l)) w := by
  have hi : (Tryd.prog.info? 35).map (·.size) = some (u8s l).size := by rw [u8s_size, hl]; exact info35
  unfold load35
  simp only [Instr.loadAt, Instr.sureAddr, Sem.run_bind, Sem.run_pure, Result.andThen_ok, run_loadVar_row w g 35 35 _ (0, 0) _ h Tryd.underlying35 rfl hi]
/-- an append, run as a whole. -/
noncomputable def appendS (ts : Array TypeId) (ty : TypeId) (args : Array Value) : Sem Value := Builtin.append_ ts ty args
theorem appendS_eq (ts : Array TypeId) (ty : TypeId) (args : Array Value) : Builtin.append_ ts ty args = appendS ts ty args := rfl
theorem run_append_byt {w : World} (ty : TypeId) (base : Nat) (v : Value) (n : Nat) (L : List Int) (hown : w.ownsRow base 5 1 v n (vals L)) (A : Option Addr) (m c : Nat) (M : List Int) (hm : M.length = m) (hB : Byt w A c M) (h63 : n + m ≤ 100000) (hbase : base ≤ w.heap.size) :
    ∃ v' w', (appendS #[26, 26] ty #[v, .slice A m c]).run Tryd.prog w = .ok v' w' ∧ w'.ownsRow base 5 1 v' (n + m) (vals (L ++ M)) ∧ (∀ B u, Below B u w → B ≤ base → Below B u w') ∧ (∀ k b, w.heap[k]? = some b → v.ownBlock ≠ some k → w'.heap[k]? = some b) := by
  obtain ⟨i0, hi0, hz00, hz10, hz20⟩ := info_parts info5
  unfold appendS
  cases A with
  | none =>
    have hc := hB.2.1 rfl
    have hm0 : m = 0 := by have := hB.1; omega
    subst hc hm0
    obtain rfl : M = [] := List.eq_nil_of_length_eq_zero hm
    exact ⟨v, w, run_append_owned_none (P := Tryd.prog) (w := w) base 26 ty 5 i0 1 Tryd.underlying26 hi0 v n (vals L) hown, by rw [List.append_nil]; exact hown, fun _ _ h _ => h, fun _ _ h _ => h⟩
  | some ad =>
    obtain ⟨v', w', hr, hown', hgrow, _⟩ := run_append_own (P := Tryd.prog) w base 26 ty 5 i0 (.int .u8 0) 1 1 Tryd.underlying26 hi0 hz00 hz10 hz20 rfl (by decide) v n (vals L) hown ad m c (vals M) (by rw [vals_length, hm]; omega)
      (hB.cells (fun _ _ => rfl) ad rfl) (vals_one _) (by unfold maxLen; omega) (by omega) hbase
    rw [vals_append] at hown'
    exact ⟨v', w', hr, hown', fun B u hb hB' => hb.grown hgrow (by omega) (fun k hk => Nat.le_trans hB' (own_ge hown k hk)), fun k b hk hne => by
      rw [hgrow.block k (Array.getElem?_eq_some_iff.1 hk).1 (fun e => hne (by rw [e]))]; exact hk⟩
attribute [irreducible] load35 appendS
end Go.Proofs.YtblgblhoolpmiaaDoor.lawAnybody
