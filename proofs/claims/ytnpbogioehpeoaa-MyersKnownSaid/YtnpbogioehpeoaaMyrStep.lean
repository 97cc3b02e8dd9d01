/- DERIVED. Slices of steps: how they read, rows of the call's own, an append of one; how far selected has come. -/
import Derived.Test.YtnpbogioehpeoaaMyrMost
namespace Go.Proofs.Ytnpbogioehpeoaa.Myr
open Go.RowKit Lns
abbrev Sti := Int × Int × Int
def up (s : St) : Sti := (s.1, s.2.1, s.2.2)
def c3 (s : Sti) : List Value := [.int .i64 s.1, .int .i64 s.2.1, .int .i64 s.2.2]
def flatS (S : List Sti) : List Value := (S.map c3).flatten
def sth (S : List Sti) (j : Nat) : Sti := S.getD j (0, 0, 0)
theorem sth_lt {S : List Sti} {j : Nat} (h : j < S.length) : sth S j = S[j] := by
  rw [sth, List.getD_eq_getElem?_getD, List.getElem?_eq_getElem h]; rfl
theorem flatS_len (S : List Sti) : (flatS S).length = S.length * 3 := by
  induction S with
  | nil => rfl
  | cons s S ih =>
    simp only [flatS, List.map_cons, List.flatten_cons, List.length_append] at ih ⊢
    simp only [c3, List.length_cons, List.length_nil] at ih ⊢
    omega
theorem flatS_app (S T : List Sti) : flatS (S ++ T) = flatS S ++ flatS T := by simp [flatS]
theorem flatS_at : ∀ (S : List Sti) (j : Nat), j < S.length → (flatS S)[j * 3]? = some (.int .i64 (sth S j).1) ∧ (flatS S)[j * 3 + 1]? = some (.int .i64 (sth S j).2.1) ∧ (flatS S)[j * 3 + 2]? = some (.int .i64 (sth S j).2.2)
  | s :: S, 0, _ => ⟨rfl, rfl, rfl⟩
  | s :: S, j + 1, h => by
    have ih := flatS_at S j (by simpa using h)
    have e : flatS (s :: S) = c3 s ++ flatS S := rfl
    have e2 : sth (s :: S) (j + 1) = sth S j := by simp [sth]
    have el : (c3 s).length = 3 := rfl
    rw [e, e2]
    refine ⟨?_, ?_, ?_⟩
    · rw [List.getElem?_append_right (by rw [el]; omega), el, show (j + 1) * 3 - 3 = j * 3 by omega]; exact ih.1
    · rw [List.getElem?_append_right (by rw [el]; omega), el, show (j + 1) * 3 + 1 - 3 = j * 3 + 1 by omega]; exact ih.2.1
    · rw [List.getElem?_append_right (by rw [el]; omega), el, show (j + 1) * 3 + 2 - 3 = j * 3 + 2 by omega]; exact ih.2.2
/-- a slice that reads as steps. -/
def RdS (S : List Sti) (v : Value) (w : World) : Prop :=
  ∃ A c, v = .slice A S.length c ∧ S.length ≤ c ∧ (0 < S.length → ∃ g off, A = some ⟨g, off, none⟩ ∧ g < w.heap.size ∧ ∀ j, j < S.length → w.cell? ⟨g, off + j * 3, none⟩ = some (.int .i64 (sth S j).1) ∧ w.cell? ⟨g, off + j * 3 + 1, none⟩ = some (.int .i64 (sth S j).2.1) ∧ w.cell? ⟨g, off + j * 3 + 2, none⟩ = some (.int .i64 (sth S j).2.2))
theorem RdS.below {S : List Sti} {v : Value} {B : Nat} {w w' : World} (h : RdS S v w) (hb : Below B w w') (hB : w.heap.size ≤ B) : RdS S v w' := by
  obtain ⟨A, c, e, hc, k⟩ := h
  refine ⟨A, c, e, hc, fun h0 => ?_⟩
  obtain ⟨g, off, e', hg, k⟩ := k h0
  have hB' : g < B := Nat.lt_of_lt_of_le hg hB
  exact ⟨g, off, e', Nat.lt_of_lt_of_le hg hb.size, fun j hj => ⟨(hb.cell (p := ⟨g, off + j * 3, none⟩) hB').trans (k j hj).1, (hb.cell (p := ⟨g, off + j * 3 + 1, none⟩) hB').trans (k j hj).2.1, (hb.cell (p := ⟨g, off + j * 3 + 2, none⟩) hB').trans (k j hj).2.2⟩⟩
theorem RdS.later {S : List Sti} {v : Value} {w w' : World} (h : RdS S v w) (hb : Below w.heap.size w w') : RdS S v w' := h.below hb (Nat.le_refl _)
/-- a row of steps of the call's own (e: the steps' type). -/
def OwnS (e : TypeId) (base : Nat) (S : List Sti) (v : Value) (w : World) : Prop := w.ownsRow base e 3 v S.length (flatS S)
theorem OwnS.nil (e : TypeId) (w : World) (base : Nat) : OwnS e base [] (.slice none 0 0) w := World.ownsRow_nil w base e 3
theorem OwnS.rd {e : TypeId} {base : Nat} {S : List Sti} {v : Value} {w : World} (h : OwnS e base S v w) : RdS S v w := by
  rcases h.2 with ⟨e, h0⟩ | ⟨g, cap, cur, hv, hb, hg, hn, hm, hs, ht⟩
  · have : S = [] := List.length_eq_zero_iff.1 h0
    subst this
    exact ⟨none, 0, e, Nat.le_refl _, fun h => absurd h (Nat.lt_irrefl _)⟩
  · refine ⟨_, cap, hv, hn, fun h0 => ⟨g, 0, rfl, (Array.getElem?_eq_some_iff.1 hg).1, fun j hj => ?_⟩⟩
    obtain ⟨k1, k2, k3⟩ := flatS_at S j hj
    rw [← ht, List.getElem?_take, if_pos (by omega), Array.getElem?_toList] at k1 k2 k3
    rw [cell_row hg, cell_row hg, cell_row hg, Nat.zero_add]
    exact ⟨k1, k2, k3⟩
theorem OwnS.later {e : TypeId} {base : Nat} {S : List Sti} {v : Value} {w w' : World} (h : OwnS e base S v w) (hb : Below w.heap.size w w') : OwnS e base S v w' := own_stays h hb
theorem OwnS.mono {e : TypeId} {base base' : Nat} {S : List Sti} {v : Value} {w : World} (h : OwnS e base S v w) (hb : base' ≤ base) : OwnS e base' S v w := by
  refine ⟨h.1, ?_⟩
  rcases h.2 with h | ⟨g, cap, cur, h1, h2, h3⟩
  · exact .inl h
  · exact .inr ⟨g, cap, cur, h1, Nat.le_trans hb h2, h3⟩
def stepZ : Value := .agg #[.int .i64 0, .int .i64 0, .int .i64 0]
theorem infoSz : (Try.prog.info? 43).map (fun i => (i.zero, i.size, i.bytes)) = some (some stepZ, 3, 24) := by kernel_rfl
/-- append(l, s), s laid in a block of its own. -/
theorem wpList_append_step {w : World} {ops : Array Oper} {rest : List Oper} {o : Oper} {a : Act} {Q : Exit → Act → World → Prop} (hgd : o.guard = none) (s y : Operand) (T e : TypeId) (hT : Try.prog.underlying T = some (.slice e))
    (hz : (Try.prog.info? e).map (fun i => (i.zero, i.size, i.bytes)) = some (some stepZ, 3, 24))
    (ho : o.op = .call { callee := .builtin .append, args := #[s, y], argTypes := #[T, T] }) (base : Nat) (v : Value) (S : List Sti) (x : Sti) (hs : a.eval s = v) (hown : OwnS e base S v w)
    (hy : a.eval y = .slice (some ⟨w.heap.size, 0, none⟩) 1 1) (h63 : S.length ≤ 100000) (hbase : base ≤ w.heap.size)
    (h : ∀ v' w', OwnS e base (S ++ [x]) v' w' → (∀ B u, Below B u w → B ≤ base → Below B u w') → wpList Try.prog ops Q rest (a.put o.dst v') w') : wpList Try.prog ops Q (o :: rest) a (w.alloc (.cells #[.int .i64 x.1, .int .i64 x.2.1, .int .i64 x.2.2] e)) := by
  obtain ⟨i0, hi0, hz00, hz10, hz20⟩ := info_parts hz
  refine wpList_append_own_at _ hgd s y T ho base e i0 stepZ 3 24 hT hi0 hz00 hz10 hz20 rfl (by decide) v S.length (flatS S) hs (own_alloc hown _) ⟨w.heap.size, 0, none⟩ 1 1 (c3 x) hy rfl
    (fun j u hu => ?_) (fun u hu => ?_) (by unfold maxLen; omega) (by omega) (by rw [World.size_alloc]; omega) ?_
  · have hg : (w.alloc (.cells #[.int .i64 x.1, .int .i64 x.2.1, .int .i64 x.2.2] e)).heap[w.heap.size]? = some (.cells #[.int .i64 x.1, .int .i64 x.2.1, .int .i64 x.2.2] e (0, 0)) := heap_alloc_new _ _
    rw [Addr.add_mid, Nat.zero_add, cell_row hg]
    simpa [c3] using hu
  · simp only [c3, List.mem_cons, List.mem_nil_iff, or_false] at hu
    rcases hu with rfl | rfl | rfl <;> rfl
  · intro v' w' hown' hgrow _ _
    refine h v' w' ?_ (fun B u hu hB => ?_)
    · unfold OwnS
      rw [List.length_append, flatS_app]
      exact hown'
    · refine (hu.alloc (by omega) _).grown hgrow (by rw [World.size_alloc]; omega) (fun k hk => ?_)
      have := (World.ownsRow.lt hown k hk).1; omega
/-- how far the script has come. -/
def AtS (x y : List Int) (S : List Sti) (i j : Nat) : Prop := S ++ (selF (x.length - i + (y.length - j)) (x.drop i) (y.drop j) i j).map up = (sel x y).map up
theorem AtS.start (x y : List Int) : AtS x y [] 0 0 := rfl
theorem AtS.len {x y : List Int} {S : List Sti} {i j : Nat} (h : AtS x y S i j) : S.length ≤ x.length + y.length := by
  have e := congrArg List.length h
  simp only [List.length_append, List.length_map] at e
  have := sel_len x y
  omega
theorem AtS.done {x y : List Int} {S : List Sti} (h : AtS x y S x.length y.length) : S = (sel x y).map up := by
  unfold AtS at h
  rwa [Nat.sub_self, Nat.sub_self, List.drop_length, List.drop_length, selF_nil, List.map_nil, List.append_nil] at h
theorem getD_at {x : List Int} {i : Nat} (h : i < x.length) : x.getD i 0 = x[i] := by simp [List.getD_eq_getElem?_getD, h]
theorem AtS.keep {x y : List Int} {S : List Sti} {i j : Nat} (h : AtS x y S i j) (hi : i < x.length) (hj : j < y.length) (he : x.getD i 0 = y.getD j 0) : AtS x y (S ++ [(0, (i : Int), (j : Int))]) (i + 1) (j + 1) := by
  unfold AtS at h ⊢
  rw [← h, List.drop_eq_getElem_cons hi, List.drop_eq_getElem_cons hj, show x.length - i + (y.length - j) = x.length - (i + 1) + (y.length - (j + 1)) + 1 + 1 by omega, selF, if_pos (by rw [← getD_at hi, ← getD_at hj]; exact he), selF_more _ _ _ _ _ (by simp)]
  simp [up]
theorem AtS.gone {x y : List Int} {S : List Sti} {i j : Nat} (h : AtS x y S i j) (hi : i < x.length) (hj : j < y.length) (he : x.getD i 0 ≠ y.getD j 0) (hl : lcs (x.drop i) (y.drop (j + 1)) ≤ lcs (x.drop (i + 1)) (y.drop j)) : AtS x y (S ++ [(1, (i : Int), 0)]) (i + 1) j := by
  unfold AtS at h ⊢
  rw [← h]
  have e1 := List.drop_eq_getElem_cons hi
  have e2 := List.drop_eq_getElem_cons hj
  rw [e1, e2] at hl
  rw [e1, e2, show x.length - i + (y.length - j) = x.length - (i + 1) + (y.length - j) + 1 by omega, selF, if_neg (by rw [← getD_at hi, ← getD_at hj]; exact he), if_pos hl, ← e2]
  simp [up]
theorem AtS.goneEnd {x y : List Int} {S : List Sti} {i : Nat} (h : AtS x y S i y.length) (hi : i < x.length) : AtS x y (S ++ [(1, (i : Int), 0)]) (i + 1) y.length := by
  unfold AtS at h ⊢
  rw [← h, List.drop_eq_getElem_cons hi, List.drop_length, show x.length - i + (y.length - y.length) = x.length - (i + 1) + (y.length - y.length) + 1 by omega, selF]
  simp [up]
theorem AtS.new {x y : List Int} {S : List Sti} {i j : Nat} (h : AtS x y S i j) (hi : i < x.length) (hj : j < y.length) (he : x.getD i 0 ≠ y.getD j 0) (hl : ¬ lcs (x.drop i) (y.drop (j + 1)) ≤ lcs (x.drop (i + 1)) (y.drop j)) : AtS x y (S ++ [(2, 0, (j : Int))]) i (j + 1) := by
  unfold AtS at h ⊢
  rw [← h]
  have e1 := List.drop_eq_getElem_cons hi
  have e2 := List.drop_eq_getElem_cons hj
  rw [e1, e2] at hl
  rw [e1, e2, show x.length - i + (y.length - j) = x.length - i + (y.length - (j + 1)) + 1 by omega, selF, if_neg (by rw [← getD_at hi, ← getD_at hj]; exact he), if_neg hl, ← e1]
  simp [up]
theorem AtS.newEnd {x y : List Int} {S : List Sti} {j : Nat} (h : AtS x y S x.length j) (hj : j < y.length) : AtS x y (S ++ [(2, 0, (j : Int))]) x.length (j + 1) := by
  unfold AtS at h ⊢
  rw [← h, List.drop_eq_getElem_cons hj, List.drop_length, show x.length - x.length + (y.length - j) = x.length - x.length + (y.length - (j + 1)) + 1 by omega, selF]
  simp [up]
/-- what a round reads of the table. -/
theorem MT.facts {w wr : World} {x y : List Int} {p r : Nat} (h : MT w x y 0 wr) (hp : p < x.length) (hr : r < y.length) :
    ∃ a0 a1 : Nat, a0 < wr.heap.size ∧ a1 < wr.heap.size ∧ w.heap.size < wr.heap.size ∧ wr.cell? ⟨w.heap.size, p, none⟩ = some (.slice (some ⟨a0, 0, none⟩) (y.length + 1) (y.length + 1)) ∧ wr.cell? ⟨w.heap.size, p + 1, none⟩ = some (.slice (some ⟨a1, 0, none⟩) (y.length + 1) (y.length + 1)) ∧
      wr.cell? ⟨a1, r, none⟩ = some (.int .u16 (lcs (x.drop (p + 1)) (y.drop r) : Nat)) ∧ wr.cell? ⟨a0, r + 1, none⟩ = some (.int .u16 (lcs (x.drop p) (y.drop (r + 1)) : Nat)) := by
  obtain ⟨C, hC, ho, hq⟩ := h.out
  have h0 := h.rows p (Nat.zero_le _) (by omega)
  have h1 := h.rows (p + 1) (Nat.zero_le _) (by omega)
  refine ⟨_, _, h0.lt, h1.lt, by have := h.size; omega, by rw [cell_row ho]; exact hq p (Nat.zero_le _) (by omega), by rw [cell_row ho]; exact hq (p + 1) (Nat.zero_le _) (by omega), ?_, ?_⟩
  · rw [h1.cell _ (by rw [rowL_len]; omega), rowL_get _ _ _ _ (by omega)]
  · rw [h0.cell _ (by rw [rowL_len]; omega), rowL_get _ _ _ _ (by omega)]
end Go.Proofs.Ytnpbogioehpeoaa.Myr
