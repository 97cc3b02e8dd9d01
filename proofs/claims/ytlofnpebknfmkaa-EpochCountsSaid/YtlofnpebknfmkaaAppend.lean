/- DERIVED. append of any slice of bytes, nil let in, to a row of the call's own. -/
import Derived.Test.YtlofnpebknfmkaaProg
import Derived.Test.YtlofnpebknfmkaaBase2
import Derived.Maps.AppendAt
import Derived.Laws.AppendOwnNone
import Derived.OwnWalk
namespace Go.Proofs.Ytlofnpebknfmkaa
open Go.RowKit
theorem info8z : (Try.prog.info? 5).map (fun i => (i.zero, i.size, i.bytes)) = some (some (.int .u8 0), 1, 1) := by kernel_rfl
theorem vals_app (L M : List Int) : vals L ++ vals M = vals (L ++ M) := by simp [vals]
theorem wpList_append_any {w : World} {ops : Array Oper} {rest : List Oper} {o : Oper} {a : Act} {Q : Exit → Act → World → Prop} (hgd : o.guard = none) (s x : Operand)
    (ho : o.op = .call { callee := .builtin .append, args := #[s, x], argTypes := #[22, 22] }) (base : Nat) (v : Value) (n : Nat) (L : List Int) (hs : a.eval s = v) (hown : w.ownsRow base 5 1 v n (vals L))
    (A : Option Addr) (m c : Nat) (M : List Int) (hx : a.eval x = .slice A m c) (hm : M.length = m) (hB : Byt w A c M) (h63 : n + m ≤ 4294967296) (hbase : base ≤ w.heap.size)
    (h : ∀ v' w', w'.ownsRow base 5 1 v' (n + m) (vals (L ++ M)) → (∀ B u, Below B u w → B ≤ base → Below B u w') → wpList Try.prog ops Q rest (a.put o.dst v') w') : wpList Try.prog ops Q (o :: rest) a w := by
  obtain ⟨i0, hi0, hz00, hz10, hz20⟩ := info_parts info8z
  cases A with
  | none =>
    have hc := hB.2.1 rfl
    have hm0 : m = 0 := by have := hB.1; omega
    subst hc hm0
    obtain rfl : M = [] := List.eq_nil_of_length_eq_zero hm
    refine wpList_append_own_none hgd s x 22 ho base 5 i0 1 Try.underlying22 hi0 v n (vals L) hs hown hx ?_
    exact h v w (by simpa using hown) (fun _ _ h _ => h)
  | some ad =>
    refine wpList_append_own_at _ hgd s x 22 ho base 5 i0 (.int .u8 0) 1 1 Try.underlying22 hi0 hz00 hz10 hz20 rfl (by decide) v n (vals L) hs hown ad m c (vals M) hx (by rw [vals_length, hm]; omega)
      (hB.cells (fun _ _ => rfl) ad rfl) (vals_one _) (by unfold maxLen; omega) (by omega) hbase ?_
    intro v' w' hown' hgrow _ _
    rw [vals_app] at hown'
    exact h v' w' hown' (fun B u hu hB' => hu.grown hgrow (by omega) (fun k hk => by have := (hown.lt k hk).1; omega))
end Go.Proofs.Ytlofnpebknfmkaa
