/- DERIVED. More words on rows in memory; no program. -/
import Derived.Test.YtnpbogioehpeoaaBase
import Derived.Deep.Draws
namespace Go.Proofs.Ytnpbogioehpeoaa
open Go.RowKit
/-- a block that was new ahead of a call is there behind it. -/
theorem kept_new {w w1 : World} {C : Array Value} {T : Nat} (h : Below (w.alloc (.cells C T)).heap.size (w.alloc (.cells C T)) w1) : w.heap.size < w1.heap.size ∧ w1.heap[w.heap.size]? = some (.cells C T (0, 0)) := by
  have hs : w.heap.size < (w.alloc (.cells C T)).heap.size := by rw [World.size_alloc]; omega
  exact ⟨Nat.lt_of_lt_of_le hs h.size, (h.block _ hs).trans (Go.heap_alloc_new _ _)⟩
/-- four cells of a block. -/
theorem cells4 {w : World} {g T : Nat} {a b c d : Value} {fr : Nat × Nat} (h : w.heap[g]? = some (.cells #[a, b, c, d] T fr)) :
    w.cell? ⟨g, 0, none⟩ = some a ∧ w.cell? ⟨g, 1, none⟩ = some b ∧ w.cell? ⟨g, 2, none⟩ = some c ∧ w.cell? ⟨g, 3, none⟩ = some d :=
  ⟨cell_row h 0, cell_row h 1, cell_row h 2, cell_row h 3⟩
theorem u32s_set (l : List Int) (k : Nat) (v : Int) : (u32s l).setIfInBounds k (.int .u32 v) = u32s (l.set k v) := by
  simp [u32s, List.map_set]
theorem u8s_set (l : List Int) (k : Nat) (v : Int) : (u8s l).setIfInBounds k (.int .u8 v) = u8s (l.set k v) := by
  simp [u8s, List.map_set]
/-- a row of words, one word written. -/
theorem row32_set {w : World} {g T : Nat} {l : List Int} (h : w.heap[g]? = some (.cells (u32s l) T (0, 0))) (k : Nat) (v : Int) : (w.setCell ⟨g, k, none⟩ (.int .u32 v)).heap[g]? = some (.cells (u32s (l.set k v)) T (0, 0)) := by
  rw [← u32s_set]; exact heap_setCell_same _ _ _ _ _ _ h
theorem row8_set {w : World} {g T : Nat} {l : List Int} (h : w.heap[g]? = some (.cells (u8s l) T (0, 0))) (k : Nat) (v : Int) : (w.setCell ⟨g, k, none⟩ (.int .u8 v)).heap[g]? = some (.cells (u8s (l.set k v)) T (0, 0)) := by
  rw [← u8s_set]; exact heap_setCell_same _ _ _ _ _ _ h
theorem row32_cell {w : World} {g T : Nat} {l : List Int} {fr : Nat × Nat} (h : w.heap[g]? = some (.cells (u32s l) T fr)) (k : Nat) (hk : k < l.length) : w.cell? ⟨g, k, none⟩ = some (.int .u32 (l.getD k 0)) := by
  rw [cell_row h, u32s_get l k hk]
theorem row8_cell {w : World} {g T : Nat} {l : List Int} {fr : Nat × Nat} (h : w.heap[g]? = some (.cells (u8s l) T fr)) (k : Nat) (hk : k < l.length) : w.cell? ⟨g, k, none⟩ = some (.int .u8 (l.getD k 0)) := by
  rw [cell_row h, u8s_get l k hk]
theorem four_new (w : World) (A B C D : Obj) : ((((w.alloc A).alloc B).alloc C).alloc D).heap[w.heap.size]? = some A ∧ ((((w.alloc A).alloc B).alloc C).alloc D).heap[w.heap.size + 1]? = some B ∧ ((((w.alloc A).alloc B).alloc C).alloc D).heap[w.heap.size + 1 + 1]? = some C ∧ ((((w.alloc A).alloc B).alloc C).alloc D).heap[w.heap.size + 1 + 1 + 1]? = some D := by
  have h := three_new w A B C
  refine ⟨?_, ?_, ?_, ?_⟩
  · exact (Go.heap_alloc_old _ D (by simp; omega)).trans h.1
  · exact (Go.heap_alloc_old _ D (by simp)).trans h.2.1
  · exact (Go.heap_alloc_old _ D (by simp)).trans h.2.2
  · have := heap_alloc_new (((w.alloc A).alloc B).alloc C) D
    simpa using this
theorem below4 (w : World) (A B C D : Obj) : Below w.heap.size w ((((w.alloc A).alloc B).alloc C).alloc D) := (below3 w A B C).alloc (by simp; omega) _
theorem Below.drewN {B : Nat} {w w' : World} (h : Below B w w') (n : Nat) : Below B w (w'.drewN n) := ⟨h.os, h.tape, h.output, h.size, h.block⟩
end Go.Proofs.Ytnpbogioehpeoaa
