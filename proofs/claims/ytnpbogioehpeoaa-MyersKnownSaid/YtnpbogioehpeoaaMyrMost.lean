/- DERIVED. myers.mostKept: the table of L(i, j). -/
import Derived.Test.YtnpbogioehpeoaaMyrNum
import Derived.StillTailTactics
import Derived.BigQuiet
import Derived.Deep.DeepCutAuto
namespace Go.Proofs.Ytnpbogioehpeoaa.Myr
open Go.RowKit Lns
theorem lcs_at {x y : List Int} {i j : Nat} (hi : i < x.length) (hj : j < y.length) : lcs (x.drop i) (y.drop j) = if x.getD i 0 = y.getD j 0 then lcs (x.drop (i + 1)) (y.drop (j + 1)) + 1 else max (lcs (x.drop (i + 1)) (y.drop j)) (lcs (x.drop i) (y.drop (j + 1))) := by
  rw [List.drop_eq_getElem_cons hi, List.drop_eq_getElem_cons hj, lcs_cons]
  have e1 : x.getD i 0 = x[i] := by simp [List.getD_eq_getElem?_getD, hi]
  have e2 : y.getD j 0 = y[j] := by simp [List.getD_eq_getElem?_getD, hj]
  rw [e1, e2]
def rowL (x y : List Int) (i : Nat) : List Int := (List.range (y.length + 1)).map fun j => (lcs (x.drop i) (y.drop j) : Int)
def prtL (x y : List Int) (i q : Nat) : List Int := (List.range (y.length + 1)).map fun j => if q ≤ j then (lcs (x.drop i) (y.drop j) : Int) else 0
theorem rowL_len (x y : List Int) (i : Nat) : (rowL x y i).length = y.length + 1 := by simp [rowL]
theorem prtL_len (x y : List Int) (i q : Nat) : (prtL x y i q).length = y.length + 1 := by simp [prtL]
theorem rowL_get (x y : List Int) (i j : Nat) (h : j ≤ y.length) : (rowL x y i).getD j 0 = (lcs (x.drop i) (y.drop j) : Int) := by
  simp [rowL, List.getD_eq_getElem?_getD, show j < y.length + 1 by omega]
theorem prtL_get (x y : List Int) (i q j : Nat) (h : j ≤ y.length) (hq : q ≤ j) : (prtL x y i q).getD j 0 = (lcs (x.drop i) (y.drop j) : Int) := by
  simp [prtL, List.getD_eq_getElem?_getD, show j < y.length + 1 by omega, hq]
theorem prtL_start (x y : List Int) (i : Nat) : prtL x y i y.length = List.replicate (y.length + 1) 0 := by
  apply List.ext_getElem
  · simp [prtL]
  · intro j h1 h2
    simp only [prtL, List.getElem_map, List.getElem_range, List.getElem_replicate]
    split
    · rename_i h
      rw [List.drop_of_length_le h, lcs_nil]; rfl
    · rfl
theorem rowL_last (x y : List Int) : rowL x y x.length = List.replicate (y.length + 1) 0 := by
  apply List.ext_getElem
  · simp [rowL]
  · intro j h1 h2
    simp only [rowL, List.getElem_map, List.getElem_replicate, List.drop_length, lcs]
    rfl
theorem prtL_done (x y : List Int) (i : Nat) : prtL x y i 0 = rowL x y i := by simp [prtL, rowL]
theorem prtL_set (x y : List Int) (i q : Nat) : (prtL x y i (q + 1)).set q (lcs (x.drop i) (y.drop q) : Int) = prtL x y i q := by
  apply List.ext_getElem
  · simp [prtL]
  · intro j h1 h2
    rw [List.getElem_set]
    simp only [prtL, List.getElem_map, List.getElem_range]
    by_cases e : q = j
    · subst e; rw [if_pos rfl, if_pos (Nat.le_refl _)]
    · rw [if_neg e]
      by_cases h : q + 1 ≤ j
      · rw [if_pos h, if_pos (by omega)]
      · rw [if_neg h, if_neg (by omega)]
/-- the rows from i on stand. -/
structure MT (w : World) (x y : List Int) (i : Nat) (wr : World) : Prop where
  size : wr.heap.size = w.heap.size + 2 + (x.length - i)
  out : ∃ C : Array Value, C.size = x.length + 1 ∧ wr.heap[w.heap.size]? = some (.cells C 54 (0, 0)) ∧ ∀ q, i ≤ q → q ≤ x.length → C[q]? = some (.slice (some ⟨w.heap.size + 1 + (x.length - q), 0, none⟩) (y.length + 1) (y.length + 1))
  rows : ∀ q, i ≤ q → q ≤ x.length → RowI .u16 53 wr (w.heap.size + 1 + (x.length - q)) (rowL x y q)
  low : Below w.heap.size w wr
/-- row i stands from q on, those behind it whole. -/
structure MP (w : World) (x y : List Int) (i q : Nat) (wr : World) : Prop where
  size : wr.heap.size = w.heap.size + 2 + (x.length - i)
  out : ∃ C : Array Value, C.size = x.length + 1 ∧ wr.heap[w.heap.size]? = some (.cells C 54 (0, 0)) ∧ ∀ q, i ≤ q → q ≤ x.length → C[q]? = some (.slice (some ⟨w.heap.size + 1 + (x.length - q), 0, none⟩) (y.length + 1) (y.length + 1))
  rows : ∀ q, i + 1 ≤ q → q ≤ x.length → RowI .u16 53 wr (w.heap.size + 1 + (x.length - q)) (rowL x y q)
  cur : RowI .u16 53 wr (w.heap.size + 1 + (x.length - i)) (prtL x y i q)
  low : Below w.heap.size w wr
theorem MP.done {w wr : World} {x y : List Int} {i : Nat} (h : MP w x y i 0 wr) : MT w x y i wr :=
  ⟨h.size, h.out, fun q h1 h2 => by
    rcases Nat.lt_or_ge i q with k | k
    · exact h.rows q k h2
    · obtain rfl : q = i := by omega
      rw [← prtL_done]; exact h.cur, h.low⟩
theorem MP.step {w wr : World} {x y : List Int} {i q : Nat} (h : MP w x y i (q + 1) wr) (hi : i ≤ x.length) (v : Int) (hv : v = (lcs (x.drop i) (y.drop q) : Int)) : MP w x y i q (wr.setCell ⟨w.heap.size + 1 + (x.length - i), q, none⟩ (.int .u16 v)) := by
  subst hv
  obtain ⟨C, hC, ho, hq⟩ := h.out
  refine ⟨by simp [h.size], ⟨C, hC, by rw [heap_setCell_other _ _ _ _ (by simp; omega)]; exact ho, hq⟩, fun p h1 h2 => ?_, ?_, h.low.setCell (by simp; omega) _⟩
  · exact (h.rows p h1 h2).block (heap_setCell_other _ _ _ _ (by simp; omega))
  · have := h.cur.set q (lcs (x.drop i) (y.drop q) : Int)
    rwa [prtL_set] at this
theorem MP.drewN {w wr : World} {x y : List Int} {i q : Nat} (h : MP w x y i q wr) (k : Nat) : MP w x y i q (wr.drewN k) :=
  ⟨h.size, h.out, h.rows, h.cur, Below.drewN h.low k⟩
theorem MP.drew {w wr : World} {x y : List Int} {i q : Nat} (h : MP w x y i q wr) : MP w x y i q wr.drew := h.drewN 1
/-- what a round of the inner loop reads and writes. -/
structure MF (g0 n m p r a0 a1 : Nat) (vd vu vl : Nat) (wr : World) : Prop where
  co0 : wr.cell? ⟨g0, p, none⟩ = some (.slice (some ⟨a0, 0, none⟩) (m + 1) (m + 1))
  co1 : wr.cell? ⟨g0, p + 1, none⟩ = some (.slice (some ⟨a1, 0, none⟩) (m + 1) (m + 1))
  cd : wr.cell? ⟨a1, r + 1, none⟩ = some (.int .u16 (vd : Nat))
  cu : wr.cell? ⟨a1, r, none⟩ = some (.int .u16 (vu : Nat))
  cl : wr.cell? ⟨a0, r + 1, none⟩ = some (.int .u16 (vl : Nat))
  ct : ∃ tv : Int, wr.cell? ⟨a0, r, none⟩ = some (.int .u16 tv)
  cf : wr.frozen? ⟨a0, r, none⟩ = false
theorem MP.facts {w wr : World} {x y : List Int} {p r : Nat} (h : MP w x y p (r + 1) wr) (hp : p < x.length) (hr : r < y.length) :
    MF w.heap.size x.length y.length p r (w.heap.size + 1 + (x.length - p)) (w.heap.size + 1 + (x.length - (p + 1))) (lcs (x.drop (p + 1)) (y.drop (r + 1))) (lcs (x.drop (p + 1)) (y.drop r)) (lcs (x.drop p) (y.drop (r + 1))) wr := by
  obtain ⟨C, hC, ho, hq⟩ := h.out
  have hrow := h.rows (p + 1) (Nat.le_refl _) (by omega)
  refine ⟨by rw [cell_row ho]; exact hq p (Nat.le_refl _) (by omega), by rw [cell_row ho]; exact hq (p + 1) (by omega) (by omega), ?_, ?_, ?_, ⟨_, h.cur.cell r (by rw [prtL_len]; omega)⟩, h.cur.free r⟩
  · rw [hrow.cell _ (by rw [rowL_len]; omega), rowL_get _ _ _ _ (by omega)]
  · rw [hrow.cell _ (by rw [rowL_len]; omega), rowL_get _ _ _ _ (by omega)]
  · rw [h.cur.cell _ (by rw [prtL_len]; omega), prtL_get _ _ _ _ _ (by omega) (Nat.le_refl _)]
theorem MT.next {w wr : World} {x y : List Int} {i : Nat} (h : MT w x y (i + 1) wr) (hi : i < x.length) :
    MP w x y i y.length ((wr.alloc (.cells (iv .u16 (List.replicate (y.length + 1) 0)) 53)).setCell ⟨w.heap.size, i, none⟩ (.slice (some ⟨wr.heap.size, 0, none⟩) (y.length + 1) (y.length + 1))) := by
  obtain ⟨C, hC, ho, hq⟩ := h.out
  have hs := h.size
  have hlt : w.heap.size < wr.heap.size := by omega
  have e : wr.heap.size = w.heap.size + 1 + (x.length - i) := by omega
  refine ⟨by simp; omega, ⟨_, by simp; exact hC, heap_setCell_same _ _ _ _ _ _ ((Go.heap_alloc_old _ _ hlt).trans ho), fun q h1 h2 => ?_⟩, fun p h1 h2 => ?_, ?_, (h.low.alloc (by omega) _).setCell (Nat.le_refl _) _⟩
  · rw [Array.getElem?_setIfInBounds]
    by_cases k : i = q
    · subst k; rw [if_pos rfl, if_pos (by omega), e]
    · rw [if_neg k]; exact hq q (by omega) h2
  · exact (h.rows p h1 h2).block ((heap_setCell_other _ _ _ _ (by simp; omega)).trans (Go.heap_alloc_old _ _ (h.rows p h1 h2).lt))
  · rw [prtL_start]
    have := row_new .u16 53 wr (List.replicate (y.length + 1) 0)
    rw [← e]
    exact this.block (heap_setCell_other _ _ _ _ (by simp; omega))
theorem MT.start {w : World} {x y : List Int} {C : Array Value} (hC : C.size = x.length + 1) :
    MT w x y x.length ((w.alloc (.cells (C.setIfInBounds x.length (.slice (some ⟨w.heap.size + 1, 0, none⟩) (y.length + 1) (y.length + 1))) 54)).alloc (.cells (iv .u16 (List.replicate (y.length + 1) 0)) 53)) := by
  obtain ⟨t1, t2⟩ := two_new w (.cells (C.setIfInBounds x.length (.slice (some ⟨w.heap.size + 1, 0, none⟩) (y.length + 1) (y.length + 1))) 54) (.cells (iv .u16 (List.replicate (y.length + 1) 0)) 53)
  refine ⟨by simp, ⟨_, by simp; exact hC, t1, fun q h1 h2 => ?_⟩, fun p h1 h2 => ?_, ((Below.refl _ _).alloc (Nat.le_refl _) _).alloc (by simp) _⟩
  · obtain rfl : q = x.length := by omega
    rw [Array.getElem?_setIfInBounds, if_pos rfl, if_pos (by omega), Nat.sub_self]
  · obtain rfl : p = x.length := by omega
    rw [Nat.sub_self, rowL_last]
    exact t2
theorem infoUz : (Try.prog.info? 53).map (fun i => (i.zero, i.size, i.bytes)) = some (some (.int .u16 0), 1, 2) := by kernel_rfl
theorem infoVz : (Try.prog.info? 54).map (fun i => (i.zero, i.size, i.bytes)) = some (some (.slice none 0 0), 1, 24) := by kernel_rfl
theorem mk_row (n : Nat) (hn : n ≤ 1000000) (w : World) : (Instr.makeSlice 54 (.int .i64 ((n : Int) + 1)) (.int .i64 ((n : Int) + 1))).run Try.prog w = .ok (.slice (some ⟨w.heap.size, 0, none⟩) (n + 1) (n + 1)) (w.alloc (.cells (iv .u16 (List.replicate (n + 1) 0)) 53)) := by
  obtain ⟨i0, hi, hz0, hz1, hz2⟩ := info_parts infoUz
  have h := run_make (P := Try.prog) w 54 53 i0 (.int .u16 0) Try.underlying54 hi hz0 .i64 .i64 ((n + 1 : Nat) : Int) ((n + 1 : Nat) : Int) (by omega) (by omega) (by rw [hz2]; omega) (by omega)
  rw [hz1, Int.toNat_natCast, Nat.mul_one, made_iv] at h
  exact h
theorem mk_rows (n : Nat) (hn : n ≤ 1000000) : ∃ C : Array Value, C.size = n + 1 ∧ (∀ j, j < n + 1 → C[j]? = some (.slice none 0 0)) ∧ ∀ w, (Instr.makeSlice 51 (.int .i64 ((n : Int) + 1)) (.int .i64 ((n : Int) + 1))).run Try.prog w = .ok (.slice (some ⟨w.heap.size, 0, none⟩) (n + 1) (n + 1)) (w.alloc (.cells C 54)) := by
  obtain ⟨i0, hi, hz0, hz1, hz2⟩ := info_parts infoVz
  refine ⟨madeCells (Value.cells (.slice none 0 0)) (n + 1), by simp [madeCells, Value.cells], fun j hj => by simp [madeCells, Value.cells, hj, Nat.mod_one], fun w => ?_⟩
  have h := run_make (P := Try.prog) w 51 54 i0 (.slice none 0 0) Try.underlying51 hi hz0 .i64 .i64 ((n + 1 : Nat) : Int) ((n + 1 : Nat) : Int) (by omega) (by omega) (by rw [hz2]; omega) (by omega)
  rw [hz1, Int.toNat_natCast, Nat.mul_one] at h
  exact h
end Go.Proofs.Ytnpbogioehpeoaa.Myr
