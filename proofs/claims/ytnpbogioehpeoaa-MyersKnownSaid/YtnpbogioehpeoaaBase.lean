/- DERIVED. Words on rows of numbers in memory that every layer uses; no program, no number of a type. -/
import Derived.Laws.BitsAllLaws
import Derived.WalkKit
import Derived.KernelRfl
import Derived.Below
import Derived.Lib.Hide
import Derived.IntWalk
import Derived.Laws.ResultCell
import Derived.Laws.Rows
import Derived.Deep.MidRow
namespace Go.Proofs.Ytnpbogioehpeoaa
open Go.RowKit
def u32s (l : List Int) : Array Value := (l.map (Value.int .u32)).toArray
def u8s (l : List Int) : Array Value := (l.map (Value.int .u8)).toArray
theorem u32s_size (l : List Int) : (u32s l).size = l.length := by simp [u32s]
theorem u8s_size (l : List Int) : (u8s l).size = l.length := by simp [u8s]
theorem u32s_get (l : List Int) (j : Nat) (h : j < l.length) : (u32s l)[j]? = some (.int .u32 (l.getD j 0)) := by simp [u32s, h]
theorem u8s_get (l : List Int) (j : Nat) (h : j < l.length) : (u8s l)[j]? = some (.int .u8 (l.getD j 0)) := by simp [u8s, h]
/-- the first k cells of S hold the words f 0 .. f (k-1). -/
def Holds (S : Array Value) (n k : Nat) (f : Nat → Int) : Prop := S.size = n ∧ ∀ j, j < k → S[j]? = some (.int .u32 (f j))
theorem Holds.nil (S : Array Value) (n : Nat) (f : Nat → Int) (h : S.size = n) : Holds S n 0 f := ⟨h, fun _ h => absurd h (Nat.not_lt_zero _)⟩
theorem Holds.set {S : Array Value} {n k : Nat} {f : Nat → Int} (h : Holds S n k f) (hk : k < n) (v : Int) (hv : v = f k) : Holds (S.setIfInBounds k (.int .u32 v)) n (k + 1) f := by
  refine ⟨by simp [h.1], fun j hj => ?_⟩
  rw [Array.getElem?_setIfInBounds]
  by_cases e : k = j
  · subst e; rw [if_pos rfl, if_pos (by rw [h.1]; exact hk), hv]
  · rw [if_neg e]; exact h.2 j (by omega)
theorem Holds.whole {S : Array Value} {n : Nat} {f : Nat → Int} {l : List Int} (h : Holds S n n f) (hl : l.length = n) (hf : ∀ j, j < n → f j = l.getD j 0) : S = u32s l := by
  apply Array.ext_getElem?
  intro j
  by_cases hj : j < n
  · rw [h.2 j hj, u32s_get l j (by omega), hf j hj]
  · rw [Array.getElem?_eq_none (by rw [h.1]; omega), Array.getElem?_eq_none (by rw [u32s_size]; omega)]

def InB (l : List Int) : Prop := ∀ j, 0 ≤ l.getD j 0 ∧ l.getD j 0 < 256
theorem u32s_one (l : List Int) : (u32s l).all (·.oneCell') = true := by
  rw [Array.all_eq_true_iff_forall_mem]
  intro v hv
  simp only [u32s, List.mem_toArray, List.mem_map] at hv
  obtain ⟨x, _, rfl⟩ := hv
  rfl
theorem cell_row {w : World} {g : Nat} {C : Array Value} {t : TypeId} {fr : Nat × Nat} (h : w.heap[g]? = some (.cells C t fr)) (j : Nat) : w.cell? ⟨g, j, none⟩ = C[j]? := by
  simp [World.cell?, h]
theorem free_row {w : World} {g : Nat} {C : Array Value} {t : TypeId} (h : w.heap[g]? = some (.cells C t (0, 0))) (j : Nat) : w.frozen? ⟨g, j, none⟩ = false := by
  simp [World.frozen?, h]
theorem three_new (w : World) (A B C : Obj) : (((w.alloc A).alloc B).alloc C).heap[w.heap.size]? = some A ∧ (((w.alloc A).alloc B).alloc C).heap[w.heap.size + 1]? = some B ∧ (((w.alloc A).alloc B).alloc C).heap[w.heap.size + 1 + 1]? = some C := by
  refine ⟨?_, ?_, ?_⟩
  · exact (Go.heap_alloc_old ((w.alloc A).alloc B) C (by simp; omega)).trans (heap_alloc2_old w A B)
  · exact (Go.heap_alloc_old ((w.alloc A).alloc B) C (by simp)).trans (heap_alloc2_new w A B)
  · have := heap_alloc_new ((w.alloc A).alloc B) C
    simpa using this
theorem below3 (w : World) (A B C : Obj) : Below w.heap.size w (((w.alloc A).alloc B).alloc C) :=
  (((Below.refl _ _).alloc (Nat.le_refl _) _).alloc (by simp) _).alloc (by simp; omega) _
/-- the first k cells of S hold the bytes f 0 .. f (k-1). -/
def HoldsB (S : Array Value) (n k : Nat) (f : Nat → Int) : Prop := S.size = n ∧ ∀ j, j < k → S[j]? = some (.int .u8 (f j))
theorem HoldsB.nil (S : Array Value) (n : Nat) (f : Nat → Int) (h : S.size = n) : HoldsB S n 0 f := ⟨h, fun _ h => absurd h (Nat.not_lt_zero _)⟩
theorem HoldsB.set {S : Array Value} {n k : Nat} {f : Nat → Int} (h : HoldsB S n k f) (hk : k < n) (v : Int) (hv : v = f k) : HoldsB (S.setIfInBounds k (.int .u8 v)) n (k + 1) f := by
  refine ⟨by simp [h.1], fun j hj => ?_⟩
  rw [Array.getElem?_setIfInBounds]
  by_cases e : k = j
  · subst e; rw [if_pos rfl, if_pos (by rw [h.1]; exact hk), hv]
  · rw [if_neg e]; exact h.2 j (by omega)
theorem HoldsB.whole {S : Array Value} {n : Nat} {f : Nat → Int} {l : List Int} (h : HoldsB S n n f) (hl : l.length = n) (hf : ∀ j, j < n → f j = l.getD j 0) : S = u8s l := by
  apply Array.ext_getElem?
  intro j
  by_cases hj : j < n
  · rw [h.2 j hj, u8s_get l j (by omega), hf j hj]
  · rw [Array.getElem?_eq_none (by rw [h.1]; omega), Array.getElem?_eq_none (by rw [u8s_size]; omega)]
theorem u8s_one (l : List Int) : (u8s l).all (·.oneCell') = true := by
  rw [Array.all_eq_true_iff_forall_mem]
  intro v hv
  simp only [u8s, List.mem_toArray, List.mem_map] at hv
  obtain ⟨x, _, rfl⟩ := hv
  rfl
/-- the slice (A, L.length, c) reads as the bytes L. -/
def Byt (w : World) (A : Option Addr) (c : Nat) (L : List Int) : Prop := L.length ≤ c ∧ (A = none → c = 0) ∧ (0 < L.length → ∃ g off, A = some ⟨g, off, none⟩ ∧ g < w.heap.size ∧ ∀ j, j < L.length → w.cell? ⟨g, off + j, none⟩ = some (.int .u8 (L.getD j 0)))
def vals (L : List Int) : List Value := L.map (Value.int .u8)
theorem vals_one (L : List Int) : ∀ u ∈ vals L, u.oneCell' = true := by
  intro u hu
  simp only [vals, List.mem_map] at hu
  obtain ⟨x, _, rfl⟩ := hu
  rfl
theorem vals_length (L : List Int) : (vals L).length = L.length := by simp [vals]
theorem vals_get {L : List Int} {j : Nat} {u : Value} (h : (vals L)[j]? = some u) : j < L.length ∧ u = .int .u8 (L.getD j 0) := by
  have hj : j < L.length := by have := (List.getElem?_eq_some_iff.1 h).1; rwa [vals_length] at this
  refine ⟨hj, ?_⟩
  simp [vals, hj] at h
  simp [← h, hj]
theorem Byt.cells {w w' : World} {A : Option Addr} {c : Nat} {L : List Int} (h : Byt w A c L) (hb : ∀ p : Addr, p.block < w.heap.size → w'.cell? p = w.cell? p) (ad : Addr) (hA : A = some ad) :
    ∀ j u, (vals L)[j]? = some u → w'.cell? (ad.add j) = some u := by
  intro j u hu
  obtain ⟨hj, rfl⟩ := vals_get hu
  obtain ⟨g, off, hA', hg, hc⟩ := h.2.2 (by omega)
  rw [hA] at hA'
  obtain rfl := Option.some.inj hA'
  rw [Addr.add_mid, hb _ hg]
  exact hc j hj
theorem Byt.below {w w' : World} {B c : Nat} {A : Option Addr} {L : List Int} (h : Byt w A c L) (hb : Below B w w') (hB : w.heap.size ≤ B) : Byt w' A c L :=
  ⟨h.1, h.2.1, fun hl => by
    obtain ⟨g, off, hA, hg, hc⟩ := h.2.2 hl
    exact ⟨g, off, hA, Nat.lt_of_lt_of_le hg hb.size, fun j hj => (hb.cell (p := ⟨g, off + j, none⟩) (Nat.lt_of_lt_of_le hg hB)).trans (hc j hj)⟩⟩
theorem two_new (w : World) (A B : Obj) : ((w.alloc A).alloc B).heap[w.heap.size]? = some A ∧ ((w.alloc A).alloc B).heap[w.heap.size + 1]? = some B := ⟨heap_alloc2_old w A B, heap_alloc2_new w A B⟩
theorem getD_out (L : List Int) (j : Nat) (h : L.length ≤ j) : L.getD j 0 = 0 := by simp [List.getD_eq_getElem?_getD, List.getElem?_eq_none h]
theorem InB.drop {L : List Int} (h : InB L) (n : Nat) : InB (L.drop n) := by
  intro j
  have := h (n + j)
  simpa [List.getD_eq_getElem?_getD, List.getElem?_drop] using this
theorem InB.take {L : List Int} (h : InB L) (n : Nat) : InB (L.take n) := by
  intro j
  by_cases hj : j < n
  · have := h j
    simpa [List.getD_eq_getElem?_getD, List.getElem?_take, hj] using this
  · simp [List.getD_eq_getElem?_getD, List.getElem?_take, hj]
theorem Byt.cut {w : World} {A : Option Addr} {c n : Nat} {L : List Int} (h : Byt w A c L) (hn : n ≤ L.length) : Byt w (if c = n then A else A.map (·.add n)) (c - n) (L.drop n) := by
  refine ⟨by have := h.1; simp; omega, fun hA => ?_, fun hl => ?_⟩
  · have h1 := h.1
    by_cases e : c = n
    · omega
    · rw [if_neg e] at hA
      have : A = none := by cases A <;> simp_all
      have := h.2.1 this
      omega
  · have h1 := h.1
    simp at hl
    obtain ⟨g, off, rfl, hg, hc⟩ := h.2.2 (by omega)
    rw [if_neg (by omega)]
    refine ⟨g, off + n, by simp [Addr.add_mid], hg, fun j hj => ?_⟩
    rw [show off + n + j = off + (n + j) by omega, hc (n + j) (by simp at hj; omega)]
    simp [List.getD_eq_getElem?_getD, List.getElem?_drop]
theorem results_row_tmp {P : Program} {fn : Func} {p u : Tmp} {ty : TypeId} (h : fn.results = #[.cell p ty, .tmp u]) (tmps : Array Value) (w : World) (g : Nat) (t : TypeId) (cs : Array Value) (fr : Nat × Nat) (d : TypeDesc) (x : Value)
    (hp : tmps.getD p undef = .pointer (some ⟨g, 0, none⟩)) (hx : tmps.getD u undef = x) (hg : w.heap[g]? = some (.cells cs t fr))
    (hu : P.underlying ty = some d) (hd : (match d with | .struct _ | .array _ _ => true | _ => false) = true) (hi : (P.info? ty).map (·.size) = some cs.size) :
    (results fn tmps).run P w = .ok (.tuple #[.agg cs, x]) w := by
  rw [results_cell_tmp h, hp, hx]
  simp [asAddr, run_loadVar_row w g t ty cs fr d hg hu hd hi]
theorem Byt.alloc {w : World} {A : Option Addr} {c : Nat} {l : List Int} (h : Byt w A c l) (o : Obj) : Byt (w.alloc o) A c l := h.below ((Below.refl w.heap.size w).alloc (Nat.le_refl _) o) (Nat.le_refl _)
theorem InB.append {L M : List Int} (h : InB L) (k : InB M) : InB (L ++ M) := by
  intro j
  by_cases hj : j < L.length
  · have := h j; simpa [List.getD_eq_getElem?_getD, List.getElem?_append_left hj] using this
  · have := k (j - L.length); simpa [List.getD_eq_getElem?_getD, List.getElem?_append_right (Nat.le_of_not_lt hj)] using this
end Go.Proofs.Ytnpbogioehpeoaa
