/- DERIVED. Rows of slices of bytes that a call makes by append. -/
import Derived.Test.YtblgblhoolpmiaaDoorRef2Sum
import Derived.Test.YtblgblhoolpmiaaDoorHmacDerive
namespace Go.Proofs.YtblgblhoolpmiaaDoor
open Go.RowKit
theorem infoSl : (Tryd.prog.info? 26).map (fun i => (i.zero, i.size, i.bytes)) = some (some (.slice none 0 0), 1, 24) := by kernel_rfl
def valP (ps : List Part) : List Value := ps.map Part.val
theorem valP_length (ps : List Part) : (valP ps).length = ps.length := by simp [valP]
theorem valP_one (ps : List Part) : ∀ u ∈ valP ps, u.oneCell' = true := by
  intro u hu
  simp only [valP, List.mem_map] at hu
  obtain ⟨x, _, rfl⟩ := hu
  rfl
/-- a row of the call's own, one or more slices longer. -/
structure GrewP (base n : Nat) (L : List Part) (wr : World) (v v' : Value) (w' : World) : Prop where
  own : w'.ownsRow base 26 1 v' n (valP L)
  low : ∀ B u, Below B u wr → B ≤ base → Below B u w'
  keep : ∀ q b, wr.heap[q]? = some b → v.ownBlock ≠ some q → w'.heap[q]? = some b
  size : wr.heap.size ≤ w'.heap.size
theorem wpList_append_part {wr : World} {ops : Array Oper} {rest : List Oper} {o : Oper} {a : Act} {Q : Exit → Act → World → Prop} (hgd : o.guard = none) (s x : Operand)
    (ho : o.op = .call { callee := .builtin .append, args := #[s, x], argTypes := #[47, 47] }) (base : Nat) (v : Value) (n : Nat) (L : List Part) (p : Part) (hs : a.eval s = v) (hown : wr.ownsRow base 26 1 v n (valP L)) (y : Value) (hy : y = p.val) (hx : a.eval x = .slice (some ⟨wr.heap.size, 0, none⟩) 1 1)
    (hn : n ≤ 100000) (hbase : base ≤ wr.heap.size) (h : ∀ v' w', GrewP base (n + 1) (L ++ [p]) wr v v' w' → wpList Tryd.prog ops Q rest (a.put o.dst v') w') : wpList Tryd.prog ops Q (o :: rest) a (wr.alloc (.cells #[y] 26)) := by
  obtain ⟨i, hi, hz, hsize, hby⟩ := partsK infoSl
  have hsz : (wr.alloc (.cells #[y] 26)).heap.size = wr.heap.size + 1 := by rw [World.size_alloc]
  have hge : ∀ q, v.ownBlock = some q → base ≤ q := fun q hq => (hown.lt q hq).1
  have hlt : ∀ q, v.ownBlock = some q → q < wr.heap.size := fun q hq => (hown.lt q hq).2
  subst hy
  refine wpList_append_own_at _ hgd s x 47 ho base 26 i (.slice none 0 0) 1 24 Tryd.underlying47 hi hz hsize hby rfl (by decide) v n (valP L) hs (own_alloc hown _) ⟨wr.heap.size, 0, none⟩ 1 1 [p.val] hx rfl (cell_one_new _ _ _) (valP_one [p]) (by unfold maxLen; omega) (by omega) (by omega) ?_
  intro v' w' hown' hgrow _ _
  rw [show valP L ++ [p.val] = valP (L ++ [p]) by simp [valP]] at hown'
  have hs2 := hgrow.size
  exact h v' w' ⟨hown', fun B u hb hB => (hb.alloc (Nat.le_trans hB hbase) _).grown hgrow (by omega) (fun q hq => Nat.le_trans hB (hge q hq)), fun q b hq hne => by
    have hq2 := (Array.getElem?_eq_some_iff.1 hq).1
    rw [hgrow.block q (by omega) (fun e => hne (by rw [e]))]
    exact (Go.heap_alloc_old _ _ hq2).trans hq, by omega⟩
theorem wpList_append_parts {wr wb : World} {ops : Array Oper} {rest : List Oper} {o : Oper} {a : Act} {Q : Exit → Act → World → Prop} (hgd : o.guard = none) (s x : Operand)
    (ho : o.op = .call { callee := .builtin .append, args := #[s, x], argTypes := #[47, 47] }) (base : Nat) (v : Value) (n : Nat) (L : List Part) (hs : a.eval s = v) (hown : wr.ownsRow base 26 1 v n (valP L))
    (Ap : Option Addr) (m cp : Nat) (ps : List Part) (hx : a.eval x = .slice Ap m cp) (hm : ps.length = m) (hc : Ap = none → cp = 0) (hP : PartsAt wb Ap ps) (hwb : Below wb.heap.size wb wr)
    (hn : n + m ≤ 100000) (hbase : base ≤ wr.heap.size) (h : ∀ v' w', GrewP base (n + m) (L ++ ps) wr v v' w' → wpList Tryd.prog ops Q rest (a.put o.dst v') w') : wpList Tryd.prog ops Q (o :: rest) a wr := by
  obtain ⟨i, hi, hz, hsize, hby⟩ := partsK infoSl
  have hge : ∀ q, v.ownBlock = some q → base ≤ q := fun q hq => (hown.lt q hq).1
  cases Ap with
  | none =>
    have hm0 : m = 0 := by
      by_cases h0 : 0 < ps.length
      · obtain ⟨g, off, he, _⟩ := hP.row 0 h0
        cases he
      · omega
    have hc0 := hc rfl
    subst hm0 hc0
    obtain rfl : ps = [] := List.eq_nil_of_length_eq_zero hm
    refine wpList_append_own_none hgd s x 47 ho base 26 i 1 Tryd.underlying47 hi v n (valP L) hs hown hx ?_
    exact h v wr ⟨by rw [List.append_nil]; exact hown, fun _ _ h _ => h, fun _ _ h _ => h, Nat.le_refl _⟩
  | some ad =>
    refine wpList_append_own_at _ hgd s x 47 ho base 26 i (.slice none 0 0) 1 24 Tryd.underlying47 hi hz hsize hby rfl (by decide) v n (valP L) hs hown ad m cp (valP ps) hx (by rw [valP_length, hm]; omega) ?_ (valP_one ps) (by unfold maxLen; omega) (by omega) hbase ?_
    · intro j u hu
      have hj : j < ps.length := by have := (List.getElem?_eq_some_iff.1 hu).1; rwa [valP_length] at this
      obtain ⟨g, off, he, hg, hcell⟩ := hP.row j hj
      injection he with he
      rw [he, Addr.add_mid, hwb.cell (p := ⟨g, off + j, none⟩) hg, hcell]
      simp [valP, hj] at hu
      rw [hu]
    · intro v' w' hown' hgrow _ _
      rw [show valP L ++ valP ps = valP (L ++ ps) by simp [valP]] at hown'
      exact h v' w' ⟨hown', fun B u hb hB => hb.grown hgrow (by omega) (fun q hq => Nat.le_trans hB (hge q hq)), fun q b hq hne => by
        rw [hgrow.block q (Array.getElem?_eq_some_iff.1 hq).1 (fun e => hne (by rw [e]))]; exact hq, hgrow.size⟩
/-- the cells of such a row. -/
theorem own_parts {w : World} {base n : Nat} {v : Value} {L : List Part} (h : w.ownsRow base 26 1 v n (valP L)) (hl : L.length = n) (h0 : 0 < n) : ∃ g c, v = .slice (some ⟨g, 0, none⟩) n c ∧ n ≤ c ∧ base ≤ g ∧ g < w.heap.size ∧ ∀ j (hj : j < L.length), w.cell? ⟨g, j, none⟩ = some L[j].val := by
  obtain ⟨_, h⟩ := h
  rcases h with ⟨_, h⟩ | ⟨g, cap, cur, hv, hb, hh, hcap, _, hs, ht⟩
  · omega
  · refine ⟨g, cap, hv, hcap, hb, (Array.getElem?_eq_some_iff.1 hh).1, fun j hj => ?_⟩
    rw [cell_row hh]
    have h2 : cur[j]? = cur.toList[j]? := by simp
    have h3 : (cur.toList.take (n * 1))[j]? = cur.toList[j]? := by rw [List.getElem?_take, if_pos (by omega)]
    rw [h2, ← h3, ht]
    simp [valP, hj]
theorem byt_len4 (w : World) (n : Nat) (a b c d : Int) (h : [a, b, c, d] = lenL n) : Byt (w.alloc (.cells #[.int .u8 a, .int .u8 b, .int .u8 c, .int .u8 d] 5)) (some ⟨w.heap.size, 0, none⟩) 4 (lenL n) := h ▸ byt_four w a b c d
/-- the parts, one behind the other. -/
def flatM (ps : List Part) : List Int := ps.flatMap fun p => partL p.M
theorem flatM_next (ps : List Part) (j : Nat) (h : j < ps.length) : flatM (ps.take (j + 1)) = flatM (ps.take j) ++ (lenL ps[j].M.length ++ ps[j].M) := by
  unfold flatM
  rw [List.take_succ_eq_append_getElem h, List.flatMap_append]
  simp [partL]
theorem flatM_le (ps : List Part) (j : Nat) : (flatM (ps.take j)).length ≤ (flatM ps).length := by
  have : flatM ps = flatM (ps.take j) ++ flatM (ps.drop j) := by
    unfold flatM
    rw [← List.flatMap_append, List.take_append_drop]
  rw [this, List.length_append]
  omega
theorem canon_flat (s : List Int) (p : Part) (ps : List Part) (h : p.M = s) : flatM (p :: ps) = canonL s ps := by
  unfold flatM canonL
  rw [List.flatMap_cons, h]
theorem flatM_pos (ps : List Part) : ps.length ≤ (flatM ps).length := by
  unfold flatM
  induction ps with
  | nil => simp
  | cons p ps ih => rw [List.flatMap_cons, List.length_append, partL_length, List.length_cons]; omega
attribute [irreducible] flatM
end Go.Proofs.YtblgblhoolpmiaaDoor
