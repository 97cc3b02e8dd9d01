/- DERIVED. The records that come up, and the sectors that they use; a log behind the turn of a block that is no cells. -/
import Derived.Test.YthjjkbgkfikglaaSltOpen
namespace Go.Proofs.Ythjjkbgkfikglaa.Slt
open Go.RowKit Dsk
/-- the sectors of the i-th record. -/
def secR (cs : List (List Int)) (i : Nat) : Nat := tk (lenB (cs.getD i []))
def useR (cs : List (List Int)) (pre : List Nat) : Nat := (pre.map (secR cs)).sum
def txtR (cs : List (List Int)) (pre : List Nat) : List (List Int) := pre.map fun i => textC (cs.getD i [])
theorem useR_next (cs : List (List Int)) (pre : List Nat) (x : Nat) : useR cs (pre ++ [x]) = useR cs pre + secR cs x := by
  unfold useR
  rw [List.map_append, List.sum_append, List.map_cons, List.map_nil, List.sum_cons, List.sum_nil, Nat.add_zero]
theorem txtR_next (cs : List (List Int)) (pre : List Nat) (x : Nat) : txtR cs (pre ++ [x]) = txtR cs pre ++ [textC (cs.getD x [])] := by
  unfold txtR
  rw [List.map_append, List.map_cons, List.map_nil]
theorem useR_le {cs : List (List Int)} (hg : ∀ c ∈ cs, Good c) : ∀ pre : List Nat, (∀ x ∈ pre, x < cs.length) → useR cs pre ≤ pre.length * 2100 := by
  intro pre
  induction pre with
  | nil => intro _; exact Nat.zero_le _
  | cons x pre ih =>
    intro h
    have h1 := ih (fun y hy => h y (by simp [hy]))
    have h2 := (hg _ (getD_mem (h x (by simp)))).2.1
    have h3 : secR cs x ≤ 2100 := by unfold secR tk; omega
    have h4 : useR cs (x :: pre) = secR cs x + useR cs pre := by unfold useR; rw [List.map_cons, List.sum_cons]
    rw [h4, List.length_cons]
    omega
theorem useR_ge (cs : List (List Int)) : ∀ pre : List Nat, pre.length ≤ useR cs pre := by
  intro pre
  induction pre with
  | nil => exact Nat.zero_le _
  | cons x pre ih =>
    have h3 : 1 ≤ secR cs x := tk_pos _
    have h4 : useR cs (x :: pre) = secR cs x + useR cs pre := by unfold useR; rw [List.map_cons, List.sum_cons]
    rw [h4, List.length_cons]
    omega
theorem useR_range {cs : List (List Int)} (hg : ∀ c ∈ cs, Good c) : ∀ n, n ≤ cs.length → useR cs (List.range n) * 128 = posC cs n := by
  intro n
  induction n with
  | zero => intro _; rw [posC_zero]; rfl
  | succ n ih =>
    intro h
    rw [range_next, useR_next, posC_next (by omega), Nat.add_mul, ih (by omega), secR, (hg _ (getD_mem (show n < cs.length by omega))).2.2]
theorem txtR_all (cs : List (List Int)) : txtR cs (List.range cs.length) = cs.map textC := by
  apply List.ext_getElem
  · simp [txtR]
  · intro i h1 h2
    simp only [txtR, List.length_map, List.length_range] at h1
    simp [txtR, List.getD_eq_getElem?_getD, h1]
theorem good_len {cs : List (List Int)} (hg : ∀ c ∈ cs, Good c) : cs.length * 128 ≤ cs.flatten.length := by
  induction cs with
  | nil => simp
  | cons c cs ih =>
    have h1 := (hg c (by simp)).len
    have h2 := ih (fun x hx => hg x (by simp [hx]))
    rw [List.flatten_cons, List.length_append, List.length_cons]
    omega
/-- cells stay where a block that is no cells turns. -/
theorem row_stays {W W' : World} {row : Option Nat} {k : Nat} {cs : Array Value} {t : TypeId} {fr : Nat × Nat} (h : W.heap[k]? = some (.cells cs t fr)) (hg : W.grownBy W' row) (hrow : ∀ r, row = some r → ∃ o : Obj, W.heap[r]? = some o ∧ o.isCells = false) : W'.heap[k]? = some (.cells cs t fr) :=
  (hg.block k (Array.getElem?_eq_some_iff.1 h).1 (fun e => by obtain ⟨o, ho, hc⟩ := hrow k e.symm; rw [h] at ho; cases ho; cases hc)).trans h
theorem byt_stays {W W' : World} {row : Option Nat} {A : Option Addr} {c : Nat} {L : List Int} (h : Byt W A c L) (hg : W.grownBy W' row) (hrow : ∀ r, row = some r → ∃ o : Obj, W.heap[r]? = some o ∧ o.isCells = false) : Byt W' A c L := by
  refine ⟨h.1, h.2.1, fun hl => ?_⟩
  obtain ⟨g, off, hA, hlt, hb⟩ := h.2.2 hl
  exact ⟨g, off, hA, Nat.lt_of_lt_of_le hlt hg.size, fun j hj => cell_kept (hb j hj) hg hrow⟩
theorem own_kept {W W' : World} {row : Option Nat} {base s n : Nat} {t : TypeId} {v : Value} {L : List Value} (h : W.ownsRow base t s v n L) (hg : W.grownBy W' row) (hrow : ∀ r, row = some r → ∃ o : Obj, W.heap[r]? = some o ∧ o.isCells = false) : W'.ownsRow base t s v n L := by
  obtain ⟨h1, h⟩ := h
  refine ⟨h1, ?_⟩
  rcases h with h | ⟨g, cap, cur, h1, h2, h3, h4, h5, h6, h7⟩
  · exact .inl h
  · exact .inr ⟨g, cap, cur, h1, h2, row_stays h3 hg hrow, h4, h5, h6, h7⟩
theorem Lg0.stays {W W' : World} {row : Option Nat} {K : DK} {J : LK} {S : LS} (h : Lg0 W K J S) (hg : W.grownBy W' row) (hrow : ∀ r, row = some r → ∃ o : Obj, W.heap[r]? = some o ∧ o.isCells = false) : Lg0 W' K J S where
  row := row_stays h.row hg hrow
  own := own_kept h.own hg hrow
  gv := h.gv
  txt i hi := by
    obtain ⟨A, c, e, hB⟩ := h.txt i hi
    exact ⟨A, c, e, byt_stays hB hg hrow⟩
  tlt q hq := Nat.lt_of_lt_of_le (h.tlt q hq) hg.size
  tap := h.tap
  kap := h.kap
  inb := h.inb
/-- between two rounds of Open's loop. -/
structure OI (w : World) (K : DK) (a b : Nat) (cs : List (List Int)) (L : List Int) (gb cap G : Nat) (pre : List Nat) (W : World) : Prop where
  r1 : W.heap[w.heap.size]? = some (.cells #[.pointer none] 37 (0, 0))
  r2 : W.heap[w.heap.size + 1]? = some (.cells #[.int .i64 0] 28 (0, 0))
  bl : W.heap[G + 1]? = some (.cells #[.pointer (some ⟨G, 0, none⟩)] 37 (0, 0))
  bb : W.heap[G + 1 + 1]? = some (.cells #[.slice (some ⟨gb, 0, none⟩) (b * 128) cap] 33 (0, 0))
  by_ : Byt W (some ⟨gb, 0, none⟩) cap L
  all : ∀ x ∈ pre, x < cs.length
  lg : ∃ J, J.g = G ∧ Lg0 W K J ⟨a, b, useR cs pre, txtR cs pre, false⟩ ∧ (∀ q ∈ J.bl, q = G ∨ G + 3 ≤ q) ∧ (∀ q ∈ J.tx, G + 3 ≤ q)
  low : Below w.heap.size w W
theorem OI.own {w : World} {K : DK} {a b : Nat} {cs : List (List Int)} {L : List Int} {gb cap G B : Nat} (hB : w.heap.size ≤ B) : OwnFrom B (fun pre W => OI w K a b cs L gb cap G pre W) := by
  intro pre X Y row hs hg hr
  have hr' : ∀ r, row = some r → ∃ o : Obj, X.heap[r]? = some o ∧ o.isCells = false := fun r e => (hr r e).2
  obtain ⟨J, e, hJ, h1, h2⟩ := hs.lg
  exact ⟨row_stays hs.r1 hg hr', row_stays hs.r2 hg hr', row_stays hs.bl hg hr', row_stays hs.bb hg hr', byt_stays hs.by_ hg hr', hs.all, ⟨J, e, hJ.stays hg hr', h1, h2⟩, (ownFrom_below (β := Unit) (w₀ := w) (Nat.le_refl _) hB) () X Y row hs.low hg hr⟩
/-- a round has found the fault. -/
structure OX2 (w : World) (cs : List (List Int)) (c : Code) (pre : List Nat) (W : World) : Prop where
  ret : c = .ret
  r1 : W.heap[w.heap.size]? = some (.cells #[.pointer none] 37 (0, 0))
  r2 : W.heap[w.heap.size + 1]? = some (.cells #[.int .i64 9] 28 (0, 0))
  bad : ∃ x ∈ pre, cs.length ≤ x
  low : Below w.heap.size w W
theorem OX2.own {w : World} {cs : List (List Int)} {c : Code} {B : Nat} (hB : w.heap.size ≤ B) : OwnFrom B (fun pre W => OX2 w cs c pre W) := by
  intro pre X Y row hs hg hr
  have hr' : ∀ r, row = some r → ∃ o : Obj, X.heap[r]? = some o ∧ o.isCells = false := fun r e => (hr r e).2
  exact ⟨hs.ret, row_stays hs.r1 hg hr', row_stays hs.r2 hg hr', hs.bad, (ownFrom_below (β := Unit) (w₀ := w) (Nat.le_refl _) hB) () X Y row hs.low hg hr⟩
end Go.Proofs.Ythjjkbgkfikglaa.Slt
