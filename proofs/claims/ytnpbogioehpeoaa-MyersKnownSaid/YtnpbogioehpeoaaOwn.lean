/- DERIVED. Rows of numbers of any kind that a call makes by append: what they hold, how they grow, what stays. No program. -/
import Derived.Test.YtnpbogioehpeoaaBase2
import Derived.Maps.AppendAt
import Derived.OwnWalk
import Derived.Deep.DeepCutAuto
namespace Go.Proofs.Ytnpbogioehpeoaa
open Go.RowKit
def valsK (k : IntKind) (L : List Int) : List Value := L.map (Value.int k)
theorem valsK_length (k : IntKind) (L : List Int) : (valsK k L).length = L.length := by simp [valsK]
theorem valsK_one (k : IntKind) (L : List Int) : ∀ u ∈ valsK k L, u.oneCell' = true := by
  intro u hu
  simp only [valsK, List.mem_map] at hu
  obtain ⟨x, _, rfl⟩ := hu
  rfl
theorem one_oneK (k : IntKind) (x : Int) : ∀ u ∈ [Value.int k x], u.oneCell' = true := by
  intro u hu
  simp at hu
  subst hu
  rfl
theorem valsK_u8 (L : List Int) : valsK .u8 L = vals L := rfl
theorem moreK (k : IntKind) (L : List Int) (x : Int) : valsK k L ++ [.int k x] = valsK k (L ++ [x]) := by simp [valsK]
theorem take_moreK (k : IntKind) {L : List Int} {j : Nat} (h : j < L.length) : valsK k (L.take j) ++ [.int k (L.getD j 0)] = valsK k (L.take (j + 1)) := by
  have e : L.getD j 0 = L[j] := by simp [List.getD_eq_getElem?_getD, h]
  rw [e, List.take_succ_eq_append_getElem h]
  simp only [valsK, List.map_append, List.map_cons, List.map_nil]
theorem take_getD {L : List Int} {j : Nat} (h : j < L.length) : L.take j ++ [L.getD j 0] = L.take (j + 1) := by
  have e : L.getD j 0 = L[j] := by simp [List.getD_eq_getElem?_getD, h]
  rw [e, List.take_succ_eq_append_getElem h]
/-- numbers that lie in a row, from its beginning on. -/
def RowK (k : IntKind) (w : World) (g : Nat) (L : List Int) : Prop := g < w.heap.size ∧ ∀ j, j < L.length → w.cell? ⟨g, j, none⟩ = some (.int k (L.getD j 0))
theorem RowK.below {k : IntKind} {w w' : World} {g B : Nat} {L : List Int} (h : RowK k w g L) (hb : Below B w w') (hB : g < B) : RowK k w' g L :=
  ⟨Nat.lt_of_lt_of_le h.1 hb.size, fun j hj => (World.cell?_of_block (hb.block _ hB)).trans (h.2 j hj)⟩
theorem RowK.later {k : IntKind} {w w' : World} {g : Nat} {L : List Int} (h : RowK k w g L) (hb : Below w.heap.size w w') : RowK k w' g L := h.below hb h.1
/-- what a value of the call's own holds: nothing, or a row of its own. -/
theorem own_rowK {k : IntKind} {w : World} {base n : Nat} {t : TypeId} {v : Value} {L : List Int} (h : w.ownsRow base t 1 v n (valsK k L)) (hl : L.length = n) (h0 : 0 < n) : ∃ g c, v = .slice (some ⟨g, 0, none⟩) n c ∧ n ≤ c ∧ base ≤ g ∧ RowK k w g L := by
  obtain ⟨_, h⟩ := h
  rcases h with ⟨_, h⟩ | ⟨g, cap, cur, hv, hb, hh, hcap, _, hs, ht⟩
  · omega
  · refine ⟨g, cap, hv, hcap, hb, (Array.getElem?_eq_some_iff.1 hh).1, fun j hj => ?_⟩
    rw [cell_row hh]
    have h2 : cur[j]? = cur.toList[j]? := by simp
    have h3 : (cur.toList.take (n * 1))[j]? = cur.toList[j]? := by rw [List.getElem?_take, if_pos (by omega)]
    rw [h2, ← h3, ht]
    simp [valsK, show j < L.length by omega]
theorem own_nilK {w : World} {base : Nat} {t : TypeId} {v : Value} {L : List Value} {n : Nat} (h : w.ownsRow base t 1 v n L) : ∃ A c, v = .slice A n c := by
  obtain ⟨_, h⟩ := h
  rcases h with ⟨h, h0⟩ | ⟨g, cap, cur, hv, _⟩
  · subst h0; exact ⟨none, 0, h⟩
  · exact ⟨_, cap, hv⟩
theorem RowK.byt {w : World} {g c : Nat} {L : List Int} (h : RowK .u8 w g L) (hc : L.length ≤ c) : Byt w (some ⟨g, 0, none⟩) c L :=
  ⟨hc, (fun h => by cases h), fun _ => ⟨g, 0, rfl, h.1, fun j hj => by rw [Nat.zero_add]; exact h.2 j hj⟩⟩
/-- a row of the call's own stays where nothing below a bound above it turns. -/
theorem own_stays {w w' : World} {base n s : Nat} {t : TypeId} {v : Value} {L : List Value} (h : w.ownsRow base t s v n L) (hb : Below w.heap.size w w') : w'.ownsRow base t s v n L := by
  obtain ⟨h1, h⟩ := h
  refine ⟨h1, ?_⟩
  rcases h with h | ⟨g, cap, cur, h1, h2, h3, h4, h5, h6, h7⟩
  · exact .inl h
  · exact .inr ⟨g, cap, cur, h1, h2, (hb.block _ (Array.getElem?_eq_some_iff.1 h3).1).trans h3, h4, h5, h6, h7⟩
theorem partsK {P : Program} {t : TypeId} {z : Value} {s b : Nat} (h : (P.info? t).map (fun i => (i.zero, i.size, i.bytes)) = some (some z, s, b)) : ∃ i, P.info? t = some i ∧ i.zero = some z ∧ i.size = s ∧ i.bytes = b := by
  cases hq : P.info? t with
  | none => rw [hq] at h; cases h
  | some i =>
    rw [hq] at h
    simp at h
    exact ⟨i, rfl, h.1, h.2.1, h.2.2⟩
theorem own_alloc {w : World} {base n s : Nat} {t : TypeId} {v : Value} {L : List Value} (h : w.ownsRow base t s v n L) (o : Obj) : (w.alloc o).ownsRow base t s v n L :=
  own_stays h ((Below.refl w.heap.size w).alloc (Nat.le_refl _) o)
/-- a row of the call's own, one number longer: what it holds then, what is as it was. -/
structure Grew (k : IntKind) (base : Nat) (e : TypeId) (n : Nat) (L : List Int) (y : Int) (wr : World) (v v' : Value) (w' : World) : Prop where
  own : w'.ownsRow base e 1 v' (n + 1) (valsK k (L ++ [y]))
  low : ∀ B u, Below B u wr → B ≤ base → Below B u w'
  keep : ∀ q b, wr.heap[q]? = some b → v.ownBlock ≠ some q → w'.heap[q]? = some b
  size : wr.heap.size ≤ w'.heap.size
theorem wpList_append_mine {P : Program} {k : IntKind} {wr : World} {ops : Array Oper} {rest : List Oper} {o : Oper} {a : Act} {Q : Exit → Act → World → Prop} (hgd : o.guard = none) (s x : Operand) (t : TypeId)
    (ho : o.op = .call { callee := .builtin .append, args := #[s, x], argTypes := #[t, t] }) (base : Nat) (e : TypeId) (i : TypeInfo) (z : Value) (bytes : Nat) (ht : P.underlying t = some (.slice e)) (hi : P.info? e = some i) (hz : i.zero = some z)
    (hsize : i.size = 1) (hby : i.bytes = bytes) (hzs : z.cells.size = 1) (hb8 : bytes ≤ 8) (v : Value) (n : Nat) (L : List Int) (y : Int) (hs : a.eval s = v) (hown : wr.ownsRow base e 1 v n (valsK k L)) (hx : a.eval x = .slice (some ⟨wr.heap.size, 0, none⟩) 1 1)
    (hn : n ≤ 100000) (hbase : base ≤ wr.heap.size) (h : ∀ v' w', Grew k base e n L y wr v v' w' → wpList P ops Q rest (a.put o.dst v') w') : wpList P ops Q (o :: rest) a (wr.alloc (.cells #[.int k y] e)) := by
  have hsz : (wr.alloc (.cells #[.int k y] e)).heap.size = wr.heap.size + 1 := by rw [World.size_alloc]
  have hge : ∀ q, v.ownBlock = some q → base ≤ q := fun q hq => (hown.lt q hq).1
  have hlt : ∀ q, v.ownBlock = some q → q < wr.heap.size := fun q hq => (hown.lt q hq).2
  refine wpList_append_own_at _ hgd s x t ho base e i z 1 bytes ht hi hz hsize hby hzs (by decide) v n (valsK k L) hs (own_alloc hown _) ⟨wr.heap.size, 0, none⟩ 1 1 [.int k y] hx rfl (cell_one_new _ _ _) (one_oneK k y) (by unfold maxLen; omega) (by have : (n + 1) * bytes ≤ (n + 1) * 8 := Nat.mul_le_mul_left _ hb8; omega) (by omega) ?_
  intro v' w' hown' hgrow _ _
  rw [moreK] at hown'
  have hs2 := hgrow.size
  exact h v' w' ⟨hown', fun B u hb hB => (hb.alloc (Nat.le_trans hB hbase) _).grown hgrow (by omega) (fun q hq => Nat.le_trans hB (hge q hq)), fun q b hq hne => by
    have hq2 := (Array.getElem?_eq_some_iff.1 hq).1
    rw [hgrow.block q (by omega) (fun e => hne (by rw [e]))]
    exact (Go.heap_alloc_old _ _ hq2).trans hq, by omega⟩
end Go.Proofs.Ytnpbogioehpeoaa
