/- DERIVED. An append of one Value to an own row of Values. -/
import Derived.Test.YtigfcmnknijobaaCodChanged
import Derived.Great.BuildSlice
import Derived.Maps.AppendAt
namespace Go.Proofs.Ytigfcmnknijobaa.Cod
open Go.RowKit Str
def valZero : Value := .agg ((Value.int .u8 0 :: Value.int .u64 0 :: Value.string ⟨#[]⟩ :: (List.replicate 32 (Value.int .u8 0) ++ [Value.int .i64 0, Value.int .u64 0, Value.int .i64 0, Value.int .i64 0])).toArray)
theorem infoVz : (Try.prog.info? 36).map (fun i => (i.zero, i.size, i.bytes)) = some (some valZero, 39, 96) := by kernel_rfl
theorem Val.ones (x : Val) : ∀ u ∈ x.cells.toList, u.oneCell' = true := by
  intro v hv
  simp only [Val.cells, List.mem_cons, List.mem_append, List.mem_map, List.mem_nil_iff, or_false] at hv
  rcases hv with rfl | rfl | rfl | ⟨_, _, rfl⟩ | rfl | rfl | rfl | rfl <;> rfl
/-- append(m, x), x laid in a block of its own. -/
theorem wpList_append_val {w : World} {ops : Array Oper} {rest : List Oper} {o : Oper} {a : Act} {Q : Exit → Act → World → Prop} (hgd : o.guard = none) (s y : Operand)
    (ho : o.op = .call { callee := .builtin .append, args := #[s, y], argTypes := #[23, 23] }) (base : Nat) (v : Value) (xs : List Val) (x : Val) (hl : x.h.length = 32) (hs : a.eval s = v) (hown : OwnV base xs v w)
    (g : Nat) (hy : a.eval y = .slice (some ⟨g, 0, none⟩) 1 1) (hg : w.heap[g]? = some (.cells x.cells 36 (0, 0))) (h63 : xs.length ≤ 1000) (hbase : base ≤ w.heap.size)
    (h : ∀ v' w', OwnV base (xs ++ [x]) v' w' → w.grownBy w' v.ownBlock → wpList Try.prog ops Q rest (a.put o.dst v') w') : wpList Try.prog ops Q (o :: rest) a w := by
  obtain ⟨i0, hi0, hz00, hz10, hz20⟩ := info_parts infoVz
  refine wpList_append_own_at _ hgd s y 23 ho base 36 i0 valZero 39 96 Try.underlying23 hi0 hz00 hz10 hz20 rfl (by decide) v xs.length (flatV xs) hs hown ⟨g, 0, none⟩ 1 1 x.cells.toList hy (by rw [Array.length_toList, x.size hl])
    (fun j u hu => by rw [Addr.add_mid, Nat.zero_add, cell_row hg]; simpa using hu) x.ones (by unfold maxLen; omega) (by omega) hbase ?_
  intro v' w' hown' hgrow _ _
  refine h v' w' ?_ hgrow
  unfold OwnV
  rw [flatV_app, List.length_append]
  exact hown'
end Go.Proofs.Ytigfcmnknijobaa.Cod
