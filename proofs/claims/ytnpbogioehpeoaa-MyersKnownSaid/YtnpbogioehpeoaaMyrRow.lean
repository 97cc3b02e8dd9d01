/- DERIVED. Rows of numbers that a make makes; the makes themselves. -/
import Derived.Test.YtnpbogioehpeoaaLnsOpen
import Derived.Test.YtnpbogioehpeoaaMyrSpec
import Derived.Deep.WholeRow
namespace Go.Proofs.Ytnpbogioehpeoaa.Myr
open Go.RowKit Lns
def iv (k : IntKind) (L : List Int) : Array Value := (L.map (Value.int k)).toArray
theorem iv_size (k : IntKind) (L : List Int) : (iv k L).size = L.length := by simp [iv]
theorem iv_get (k : IntKind) (L : List Int) (j : Nat) (h : j < L.length) : (iv k L)[j]? = some (.int k (L.getD j 0)) := by simp [iv, h]
theorem iv_set (k : IntKind) (L : List Int) (j : Nat) (v : Int) : (iv k L).setIfInBounds j (.int k v) = iv k (L.set j v) := by simp [iv, List.map_set]
/-- a block of numbers. -/
def RowI (k : IntKind) (T : TypeId) (w : World) (g : Nat) (L : List Int) : Prop := w.heap[g]? = some (.cells (iv k L) T (0, 0))
theorem RowI.lt {k : IntKind} {T : TypeId} {w : World} {g : Nat} {L : List Int} (h : RowI k T w g L) : g < w.heap.size := (Array.getElem?_eq_some_iff.1 h).1
theorem RowI.cell {k : IntKind} {T : TypeId} {w : World} {g : Nat} {L : List Int} (h : RowI k T w g L) (j : Nat) (hj : j < L.length) : w.cell? ⟨g, j, none⟩ = some (.int k (L.getD j 0)) := by
  rw [cell_row h, iv_get k L j hj]
theorem RowI.free {k : IntKind} {T : TypeId} {w : World} {g : Nat} {L : List Int} (h : RowI k T w g L) (j : Nat) : w.frozen? ⟨g, j, none⟩ = false := free_row h j
theorem RowI.set {k : IntKind} {T : TypeId} {w : World} {g : Nat} {L : List Int} (h : RowI k T w g L) (j : Nat) (v : Int) : RowI k T (w.setCell ⟨g, j, none⟩ (.int k v)) g (L.set j v) := by
  unfold RowI; rw [← iv_set]; exact heap_setCell_same _ _ _ _ _ _ h
theorem RowI.block {k : IntKind} {T : TypeId} {w w' : World} {g : Nat} {L : List Int} (h : RowI k T w g L) (e : w'.heap[g]? = w.heap[g]?) : RowI k T w' g L := e.trans h
theorem RowI.later {k : IntKind} {T : TypeId} {w w' : World} {g B : Nat} {L : List Int} (h : RowI k T w g L) (hb : Below B w w') (hB : g < B) : RowI k T w' g L := h.block (hb.block _ hB)
theorem made_iv (k : IntKind) (n : Nat) : madeCells (Value.cells (.int k 0)) n = iv k (List.replicate n 0) := by
  apply Array.ext_getElem?
  intro j
  by_cases h : j < n
  · simp [madeCells, iv, h, Value.cells, Nat.mod_one]
  · simp [madeCells, iv, h]
theorem infoIz : (Try.prog.info? 3).map (fun i => (i.zero, i.size, i.bytes)) = some (some (.int .i64 0), 1, 8) := by kernel_rfl
theorem mk_ints (n : Nat) (hn : n ≤ 4294967296) (w : World) : (Instr.makeSlice 47 (.int .i64 n) (.int .i64 n)).run Try.prog w = .ok (.slice (some ⟨w.heap.size, 0, none⟩) n n) (w.alloc (.cells (iv .i64 (List.replicate n 0)) 3)) := by
  obtain ⟨i0, hi, hz0, hz1, hz2⟩ := info_parts infoIz
  have h := run_make (P := Try.prog) w 47 3 i0 (.int .i64 0) Try.underlying47 hi hz0 .i64 .i64 n n (by omega) (by omega) (by rw [hz2]; omega) (by omega)
  rw [hz1] at h
  rw [h, Int.toNat_natCast, Nat.mul_one, made_iv]
theorem row_new (k : IntKind) (T : TypeId) (w : World) (L : List Int) : RowI k T (w.alloc (.cells (iv k L) T)) w.heap.size L := heap_alloc_new _ _
end Go.Proofs.Ytnpbogioehpeoaa.Myr
