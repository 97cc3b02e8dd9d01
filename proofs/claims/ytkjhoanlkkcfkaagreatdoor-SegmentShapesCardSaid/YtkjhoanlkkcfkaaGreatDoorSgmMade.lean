/- DERIVED. Rows of slices of one's own that a law makes by append, each of bytes of its own. -/
import Derived.Test.YtkjhoanlkkcfkaaGreatDoorSgmBox
import Derived.Test.YtkjhoanlkkcfkaaGreatDoorSgmTwin
import Derived.Test.YtkjhoanlkkcfkaaGreatDoorSgmFill
import Derived.Test.YtkjhoanlkkcfkaaGreatDoorSgmShape
namespace Go.Proofs.YtkjhoanlkkcfkaaGreatDoor.Sgm
open Go.RowKit Dsk Slt Epo
theorem own_grown {w w' : World} {base n s : Nat} {t : TypeId} {v : Value} {L : List Value} {row : Option Nat} (h : w.ownsRow base t s v n L) (hg : w.grownBy w' row) (hne : ∀ g, v.ownBlock = some g → row ≠ some g) : w'.ownsRow base t s v n L := by
  obtain ⟨h1, h⟩ := h
  refine ⟨h1, ?_⟩
  rcases h with h | ⟨g, cap, cur, h1, h2, h3, h4, h5, h6, h7⟩
  · exact .inl h
  · exact .inr ⟨g, cap, cur, h1, h2, (hg.block _ (Array.getElem?_eq_some_iff.1 h3).1 (fun e => hne g (by rw [h1]; rfl) e.symm)).trans h3, h4, h5, h6, h7⟩
theorem own_apart {w : World} {b1 n1 b2 n2 : Nat} {t1 t2 : TypeId} {v1 v2 : Value} {L1 L2 : List Value} (h1 : w.ownsRow b1 t1 1 v1 n1 L1) (h2 : w.ownsRow b2 t2 1 v2 n2 L2) (hne : t1 ≠ t2) : ∀ g, v1.ownBlock = some g → v2.ownBlock ≠ some g := by
  intro g hg1 hg2
  rcases h1.2 with ⟨e, _⟩ | ⟨g1, c1, cur1, e1, _, hh1, _⟩
  · rw [e] at hg1; cases hg1
  · rcases h2.2 with ⟨e, _⟩ | ⟨g2, c2, cur2, e2, _, hh2, _⟩
    · rw [e] at hg2; cases hg2
    · rw [e1] at hg1
      rw [e2] at hg2
      cases hg1
      cases hg2
      rw [hh1] at hh2
      have := Option.some.inj hh2
      simp only [Obj.cells.injEq] at this
      exact hne this.2.1
/-- a byte of a row of one's own, written. -/
theorem own_setB {w : World} {base n cap g : Nat} {M : List Int} (h : w.ownsRow base 5 1 (.slice (some ⟨g, 0, none⟩) n cap) n (vals M)) (j : Nat) (x : Int) : (w.setCell ⟨g, j, none⟩ (.int .u8 x)).ownsRow base 5 1 (.slice (some ⟨g, 0, none⟩) n cap) n (vals (M.set j x)) := by
  obtain ⟨h1, h⟩ := h
  refine ⟨by rw [vals_length, List.length_set]; rw [vals_length] at h1; exact h1, ?_⟩
  rcases h with ⟨e, _⟩ | ⟨g', cap', cur, e, h2, h3, h4, h5, h6, h7⟩
  · cases e
  · cases e
    refine .inr ⟨g, cap, cur.setIfInBounds j (.int .u8 x), rfl, h2, heap_setCell_same _ _ _ _ _ _ h3, h4, h5, by rw [Array.size_setIfInBounds]; exact h6, ?_⟩
    rw [Array.toList_setIfInBounds, List.take_set, h7]
    simp [vals, List.map_set]
theorem own_cellB {w : World} {base n cap g : Nat} {M : List Int} (h : w.ownsRow base 5 1 (.slice (some ⟨g, 0, none⟩) n cap) n (vals M)) (j : Nat) (hj : j < n) : w.cell? ⟨g, j, none⟩ = some (.int .u8 (M.getD j 0)) ∧ w.frozen? ⟨g, j, none⟩ = false := by
  have hl : M.length = n := by have := h.1; rw [vals_length] at this; omega
  rcases h.2 with ⟨e, _⟩ | ⟨g', cap', cur, e, h2, h3, h4, h5, h6, h7⟩
  · cases e
  · cases e
    refine ⟨?_, by simp [World.frozen?, h3]⟩
    have k : (vals M)[j]? = some (.int .u8 (M.getD j 0)) := by simp [vals, List.getD_eq_getElem?_getD, hl, hj]
    rw [← h7, List.getElem?_take, if_pos (by omega)] at k
    rw [cell_row h3]
    simpa using k
theorem own_bytB {w : World} {base n : Nat} {v : Value} {M : List Int} (h : w.ownsRow base 5 1 v n (vals M)) : ∃ A c, v = .slice A n c ∧ Byt w A c M ∧ (0 < n → ∃ g, A = some ⟨g, 0, none⟩ ∧ base ≤ g ∧ g < w.heap.size) := by
  have hl : M.length = n := by have := h.1; rw [vals_length] at this; omega
  rcases h.2 with ⟨e, h0⟩ | ⟨g, cap, cur, e, h2, h3, h4, h5, h6, h7⟩
  · exact ⟨none, 0, by rw [e, h0], ⟨by omega, fun _ => rfl, fun h => absurd h (by omega)⟩, fun h => absurd h (by omega)⟩
  · have hlt := (Array.getElem?_eq_some_iff.1 h3).1
    refine ⟨_, cap, e, ⟨by omega, (fun h => by cases h), fun h0 => ⟨g, 0, rfl, hlt, fun j hj => ?_⟩⟩, fun _ => ⟨g, rfl, h2, hlt⟩⟩
    rw [e] at h
    rw [Nat.zero_add]
    exact (own_cellB h j (by omega)).1
theorem own_emptyB (w : World) : (w.alloc (.cells #[] 5)).ownsRow w.heap.size 5 1 (.slice (some ⟨w.heap.size, 0, none⟩) 0 0) 0 (vals []) :=
  ⟨by simp [vals], .inr ⟨w.heap.size, 0, #[], rfl, Nat.le_refl _, Go.heap_alloc_new w _, Nat.le_refl _, Nat.zero_le _, rfl, by simp [vals]⟩⟩
/-- what the row of slices holds. -/
structure MB (w1 : World) (v : Value) (qs : List Value) (ms : List (List Int)) (W : World) : Prop where
  ql : qs.length = ms.length
  own : W.ownsRow w1.heap.size 38 1 v ms.length qs
  each : ∀ i, i < ms.length → W.ownsRow w1.heap.size 5 1 (qs.getD i undef) (ms.getD i []).length (vals (ms.getD i []))
  inb : ∀ x ∈ ms, InB x
  low : Below w1.heap.size w1 W
theorem MB.start (w1 : World) : MB w1 (.slice none 0 0) [] [] w1 := ⟨rfl, World.ownsRow_nil _ _ _ _, fun i h => absurd h (Nat.not_lt_zero _), (fun x h => by cases h), Below.refl _ _⟩
theorem MB.later {w1 : World} {v : Value} {qs : List Value} {ms : List (List Int)} {W W' : World} (h : MB w1 v qs ms W) (hb : Below W.heap.size W W') : MB w1 v qs ms W' :=
  ⟨h.ql, own_stays h.own hb, fun i hi => own_stays (h.each i hi) hb, h.inb, h.low.trans (hb.mono h.low.size)⟩
theorem MB.tx {w1 : World} {v : Value} {qs : List Value} {ms : List (List Int)} {W : World} (h : MB w1 v qs ms W) : ∃ A c, v = .slice A ms.length c ∧ TxAt W A ms := by
  obtain ⟨A, c, hv⟩ := own_nilK h.own
  refine ⟨A, c, hv, ⟨fun i hi => ?_⟩⟩
  have ho := h.own
  rw [hv] at ho
  obtain ⟨g, hA, _, hg, hc⟩ := own_cellS ho i hi
  obtain ⟨B, cc, hq, hB, _⟩ := own_bytB (h.each i hi)
  rw [hq] at hc
  exact ⟨g, 0, B, cc, hA, hg, by rw [Nat.zero_add]; exact hc, hB, h.inb _ (by rw [List.getD_eq_getElem?_getD, List.getElem?_eq_getElem hi]; exact List.getElem_mem hi)⟩
/-- append(m, c). -/
theorem wpList_app_mb {w1 W : World} {v : Value} {qs : List Value} {ms : List (List Int)} {ops : Array Oper} {rest : List Oper} {o : Oper} {a : Act} {Q : Exit → Act → World → Prop} (hgd : o.guard = none) (s y : Operand)
    (ho : o.op = .call { callee := .builtin .append, args := #[s, y], argTypes := #[51, 51] }) (hw : MB w1 v qs ms W) (cA : Option Addr) (m cc : Nat) (M : List Int) (hm : M.length = m) (hc : W.ownsRow w1.heap.size 5 1 (.slice cA m cc) m (vals M)) (hin : InB M) (hs : a.eval s = v)
    (hy : a.eval y = .slice (some ⟨W.heap.size, 0, none⟩) 1 1) (h63 : ms.length ≤ 1000)
    (h : ∀ v' w', MB w1 v' (qs ++ [.slice cA m cc]) (ms ++ [M]) w' → wpList Tryz.prog ops Q rest (a.put o.dst v') w') : wpList Tryz.prog ops Q (o :: rest) a (W.alloc (.cells #[.slice cA m cc] 38)) := by
  obtain ⟨i0, hi0, hz00, hz10, hz20⟩ := info_parts info_slz
  have hb : Below W.heap.size W (W.alloc (.cells #[.slice cA m cc] 38)) := (Below.refl _ _).alloc (Nat.le_refl _) _
  have h2 := hw.later hb
  have hc2 := own_stays hc hb
  refine wpList_append_own_at _ hgd s y 51 ho w1.heap.size 38 i0 (.slice none 0 0) 1 24 Tryz.underlying51 hi0 hz00 hz10 hz20 rfl (by decide) v ms.length qs hs h2.own ⟨W.heap.size, 0, none⟩ 1 1 [.slice cA m cc] hy rfl
    (fun j u hu => ?_) (fun u hu => ?_) (by unfold maxLen; omega) (by omega) h2.low.size ?_
  · have hg : (W.alloc (.cells #[.slice cA m cc] 38)).heap[W.heap.size]? = some (.cells #[.slice cA m cc] 38 (0, 0)) := heap_alloc_new _ _
    rw [Addr.add_mid, Nat.zero_add, cell_row hg]
    simpa using hu
  · simp only [List.mem_cons, List.mem_nil_iff, or_false] at hu
    subst hu; rfl
  · intro v' w' hown' hgrow _ hblk
    refine h v' w' ⟨by simp [hw.ql], by rw [List.length_append]; exact hown', fun i hi => ?_, fun x hx => ?_, h2.low.grown hgrow h2.low.size (fun k hk => (h2.own.lt k hk).1)⟩
    · by_cases hil : i < ms.length
      · have e1 : (qs ++ [Value.slice cA m cc]).getD i undef = qs.getD i undef := by simp [List.getD_eq_getElem?_getD, List.getElem?_append, hw.ql, hil]
        have e2 : (ms ++ [M]).getD i [] = ms.getD i [] := by simp [List.getD_eq_getElem?_getD, List.getElem?_append, hil]
        rw [e1, e2]
        exact own_grown (h2.each i hil) hgrow (fun g hg e => own_apart (h2.each i hil) h2.own (by decide) g hg e)
      · have hie : i = ms.length := by rw [List.length_append, List.length_singleton] at hi; omega
        have e1 : (qs ++ [Value.slice cA m cc]).getD i undef = .slice cA m cc := by simp [List.getD_eq_getElem?_getD, hw.ql, hie]
        have e2 : (ms ++ [M]).getD i [] = M := by simp [List.getD_eq_getElem?_getD, hie]
        rw [e1, e2, hm]
        exact own_grown hc2 hgrow (fun g hg e => own_apart hc2 h2.own (by decide) g hg e)
    · rcases List.mem_append.1 hx with hx | hx
      · exact hw.inb x hx
      · rw [List.mem_singleton] at hx; rw [hx]; exact hin
/-- a text and what the law makes of it. -/
def PRT (u m : List Int) : Prop := InB u ∧ u.length ≤ 2000 ∧ InB m ∧ m.length ≤ 2001 ∧ Seal.bkt u.length = Seal.bkt (m.take 2000).length
theorem own_lower {w : World} {base base' n s : Nat} {t : TypeId} {v : Value} {L : List Value} (h : w.ownsRow base t s v n L) (hb : base' ≤ base) : w.ownsRow base' t s v n L := by
  refine ⟨h.1, ?_⟩
  rcases h.2 with h | ⟨g, cap, cur, h1, h2, h3⟩
  · exact .inl h
  · exact .inr ⟨g, cap, cur, h1, Nat.le_trans hb h2, h3⟩
theorem inB_set {M : List Int} {j : Nat} {x : Int} (h : InB M) (hx : 0 ≤ x ∧ x < 256) : InB (M.set j x) := by
  intro i
  have := h i
  simp only [List.getD_eq_getElem?_getD, List.getElem?_set] at this ⊢
  split
  · split
    · exact hx
    · exact ⟨by decide, by decide⟩
  · exact this
theorem prt_snoc {us ms : List (List Int)} {i : Nat} {m : List Int} (h : ∀ j, j < i → PRT (us.getD j []) (ms.getD j [])) (hl : ms.length = i) (hm : PRT (us.getD i []) m) : ∀ j, j < i + 1 → PRT (us.getD j []) ((ms ++ [m]).getD j []) := by
  intro j hj
  by_cases hji : j < i
  · have e : (ms ++ [m]).getD j [] = ms.getD j [] := by simp [List.getD_eq_getElem?_getD, List.getElem?_append, hl, hji]
    rw [e]; exact h j hji
  · obtain rfl : j = i := by omega
    have e : (ms ++ [m]).getD j [] = m := by simp [List.getD_eq_getElem?_getD, ← hl]
    rw [e]; exact hm
theorem pairs_of {us ms : List (List Int)} {i : Nat} (h : ∀ j, j < i → PRT (us.getD j []) (ms.getD j [])) (hu : us.length = i) (hm : ms.length = i) (hi : i ≤ 10) : Pairs us (cutT ms) := by
  refine ⟨by rw [cutT_len]; omega, fun j hj => ?_⟩
  obtain ⟨p1, p2, p3, p4, p5⟩ := h j (by omega)
  rw [cutT_get (by omega) (by omega)]
  exact ⟨p1, p3.take 2000, by omega, by rw [List.length_take]; omega, p5⟩
theorem used_none {D : DS} {S : LS} {V : GV} (h : SGd D S V []) : S.used = 0 := by
  have hl := h.log
  rw [h.txs] at hl
  obtain ⟨cs, R, hr, ht, hc⟩ := hl
  cases cs with
  | nil => simp at hc; omega
  | cons a b => cases ht
theorem next_zero (n : Nat) (hn : 9 ≤ n) : ∀ j, 1024 ≤ j → (nextD (newD n) 0 0).1.data.getD j 0 = 0 := by
  intro j hj
  have hN := next_q (newD n) 0 0 rfl (by simp [newD]; omega)
  rw [hN.at_, if_neg (by omega)]
  simp only [newD, List.getD_eq_getElem?_getD, List.getElem?_replicate]
  split <;> rfl
/-- two fillings in step. -/
theorem st_fill {n : Nat} {k1 k2 C1 C2 : List Int} {D0 E0 D E : DS} {S0 T0 S T : LS} {V U : GV} {us ss : List (List Int)} (hn : 9 ≤ n) (h1 : F0 n k1 C1 D0 S0) (h2 : F0 n k2 C2 E0 T0) (f1 : FL us.length n k1 C1 D0 S0 us D S V) (f2 : FL ss.length n k2 C2 E0 T0 ss E T U) (hp : Pairs us ss) : ∃ R Q bs, ST D S V R E T U Q bs := by
  have hd : D0.data = E0.data := h1.data.trans h2.data.symm
  have h0 : ST D0 S0 ⟨k1, C1, 1, [], false⟩ [] E0 T0 ⟨k2, C2, 1, [], false⟩ [] [] :=
    ⟨h1.sg, h2.sg, h1.calm, h2.calm, rfl, (show 1 < 4294967296 by decide), rfl, rfl, used_none h1.sg, used_none h2.sg, by rw [hd], fun j _ => by rw [hd], fun j hj => by rw [h1.data]; exact next_zero n hn j (by simp [usd] at hj; omega), fun j hj => by rw [h2.data]; exact next_zero n hn j (by simp [usd] at hj; omega)⟩
  obtain ⟨R, Q, bs, h⟩ := ST.all (x := (D0, S0, ⟨k1, C1, 1, [], false⟩)) (y := (E0, T0, ⟨k2, C2, 1, [], false⟩)) h0 hp us.length (Nat.le_refl _)
  have e1 := f1.eq
  have e2 := f2.eq
  rw [← hp.1] at e2
  rw [← e1, ← e2] at h
  exact ⟨R, Q, bs, h⟩
theorem ris_all {most : Nat} : ∀ {r : List (List Int × Nat)} {least : Nat}, Ris most least r → ∀ x ∈ r, InB x.1 ∧ x.1.length ≤ 131068
  | [], _, _, x, hx => by cases hx
  | y :: r, _, h, x, hx => by
    rcases List.mem_cons.1 hx with rfl | hx
    · exact h.1
    · exact ris_all h.2.2.2 x hx
/-- the zeros put in. -/
noncomputable def zsL (X : List Int) (p : Nat → Prop) : List Int := (List.range X.length).map fun j => @ite _ (p j) (Classical.propDecidable _) 0 (X.getD j 0)
theorem range_get (f : Nat → Int) {n j : Nat} (hj : j < n) : ((List.range n).map f).getD j 0 = f j := by simp [List.getD_eq_getElem?_getD, hj]
theorem zsL_get {X : List Int} {p : Nat → Prop} {j : Nat} (hj : j < X.length) : (zsL X p).getD j 0 = @ite _ (p j) (Classical.propDecidable _) 0 (X.getD j 0) := by
  exact range_get _ hj
theorem zs_is {M X : List Int} {p : Nat → Prop} (h : ZS M X p) : M = zsL X p := by
  refine list_eq (by rw [h.1]; simp [zsL]) (fun j hj => ?_)
  rw [h.1] at hj
  rw [zsL_get hj]
  by_cases hp : p j
  · rw [(h.2 j).1 hp, if_pos hp]
  · rw [(h.2 j).2 hp, if_neg hp]
theorem zs_same {X Y : List Int} {p : Nat → Prop} (hl : X.length = Y.length) (h : ∀ j, ¬ p j → X.getD j 0 = Y.getD j 0) : zsL X p = zsL Y p := by
  unfold zsL
  rw [hl]
  refine List.map_congr_left fun j _ => ?_
  by_cases hp : p j
  · rw [if_pos hp, if_pos hp]
  · rw [if_neg hp, if_neg hp, h j hp]
theorem shape_is {w0 w : World} {K : DK} {D : DS} (h : SD w0 w K D) (bs : List Nat) (v : Value) (hv : RdI bs v w) (hb : ∀ b ∈ bs, b ≤ 131072) (hn : bs.length ≤ 20) (hl : 1024 ≤ D.data.length) (hl2 : D.data.length ≤ 100000) :
    Calls Tryz.prog 25 #[.pointer (some ⟨K.g, 0, none⟩), v] w fun e w' => ∃ z, e = .returned z ∧ SlB (zsL D.data (inZ 1024 bs)) z w' ∧ Below w.heap.size w w' :=
  (shape_any h bs v hv hb hn hl hl2).mono fun e w' ⟨M, ⟨A, c, he, hB⟩, hz, hb⟩ => ⟨_, he, by rw [← zs_is hz]; exact ⟨A, c, rfl, hB⟩, hb⟩
def kSeven : List Int := 7 :: List.replicate 31 0
def kEight : List Int := 8 :: List.replicate 31 0
theorem kSeven_in : InB kSeven := inB_of (by decide)
theorem kEight_in : InB kEight := inB_of (by decide)
theorem key_lit7 : Value.agg (u8s kSeven) = .agg #[.int .u8 7, .int .u8 0, .int .u8 0, .int .u8 0, .int .u8 0, .int .u8 0, .int .u8 0, .int .u8 0, .int .u8 0, .int .u8 0, .int .u8 0, .int .u8 0, .int .u8 0, .int .u8 0, .int .u8 0, .int .u8 0, .int .u8 0, .int .u8 0, .int .u8 0, .int .u8 0, .int .u8 0, .int .u8 0, .int .u8 0, .int .u8 0, .int .u8 0, .int .u8 0, .int .u8 0, .int .u8 0, .int .u8 0, .int .u8 0, .int .u8 0, .int .u8 0] := rfl
theorem key_lit8 : Value.agg (u8s kEight) = .agg #[.int .u8 8, .int .u8 0, .int .u8 0, .int .u8 0, .int .u8 0, .int .u8 0, .int .u8 0, .int .u8 0, .int .u8 0, .int .u8 0, .int .u8 0, .int .u8 0, .int .u8 0, .int .u8 0, .int .u8 0, .int .u8 0, .int .u8 0, .int .u8 0, .int .u8 0, .int .u8 0, .int .u8 0, .int .u8 0, .int .u8 0, .int .u8 0, .int .u8 0, .int .u8 0, .int .u8 0, .int .u8 0, .int .u8 0, .int .u8 0, .int .u8 0, .int .u8 0] := rfl
theorem infoInt : (Tryz.prog.info? 3).map (fun i => (i.zero, i.size, i.bytes)) = some (some (.int .i64 0), 1, 8) := by kernel_rfl
theorem rows_below {B n k g : Nat} {L : List (List Int)} {w w' : World} (h : Slt.Rows B L n k g w) (hb : Below w.heap.size w w') : Slt.Rows B L n k g w' := by
  obtain ⟨⟨C, h1, h2, h3⟩, h4⟩ := h
  refine ⟨⟨C, (hb.block _ (Array.getElem?_eq_some_iff.1 h1).1).trans h1, h2, fun i hi => ?_⟩, h4⟩
  obtain ⟨v, a, b, c⟩ := h3 i hi
  exact ⟨v, a, b.later hb, c⟩
theorem RdI.later {L : List Nat} {v : Value} {w w' : World} (h : RdI L v w) (hb : Below w.heap.size w w') : RdI L v w' := by
  obtain ⟨A, c, e, hc, k⟩ := h
  refine ⟨A, c, e, hc, fun h0 => ?_⟩
  obtain ⟨g, off, e', hg, k⟩ := k h0
  exact ⟨g, off, e', Nat.lt_of_lt_of_le hg hb.size, fun j hj => (hb.cell (p := ⟨g, off + j, none⟩) hg).trans (k j hj)⟩
theorem rdI_of {w : World} {base n : Nat} {v : Value} {bs : List Nat} (h : w.ownsRow base 3 1 v n (valsK .i64 (bs.map fun (b : Nat) => (b : Int)))) (hn : bs.length = n) : RdI bs v w := by
  by_cases h0 : 0 < n
  · obtain ⟨g, c, hv, hc, _, hr⟩ := own_rowK h (by rw [List.length_map]; exact hn) h0
    refine ⟨_, c, by rw [hv, hn], by omega, fun _ => ⟨g, 0, rfl, hr.1, fun j hj => ?_⟩⟩
    rw [Nat.zero_add]
    have := hr.2 j (by rw [List.length_map]; exact hj)
    rw [this]
    simp [List.getD_eq_getElem?_getD, hj]
  · obtain ⟨A, c, hv⟩ := own_nilK h
    exact ⟨A, c, by rw [hv, hn], by omega, fun h1 => absurd h1 (by omega)⟩
/-- what stands when both segments are filled. -/
structure FinS (w0 w1 w : World) (K1 K2 : DK) (D E : DS) (X Y : List (List Int)) (bs : List Nat) (g1 g2 m1 m2 : Nat) : Prop where
  sd1 : SD w0 w K1 D
  sd2 : SD w1 w K2 E
  blen : bs.length = m1
  lens : m1 = m2
  few : m1 ≤ 10
  at_ : ∀ j, j < m1 → ∃ (b lx ly : Nat) (X1 : Option Addr) (cx : Nat) (Y1 : Option Addr) (cy : Nat), (g1 < w.heap.size ∧ w.cell? ⟨g1, j, none⟩ = some (.slice X1 lx cx)) ∧ (g2 < w.heap.size ∧ w.cell? ⟨g2, j, none⟩ = some (.slice Y1 ly cy)) ∧ b = Seal.bkt lx ∧ b = Seal.bkt ly ∧ lx ≤ 131068 ∧ ly ≤ 131068 ∧ bs.take (j + 1) = bs.take j ++ [b]
  bsm : ∀ b ∈ bs, b ≤ 131072
  big : 1024 ≤ D.data.length ∧ D.data.length ≤ 100000
  len : D.data.length = E.data.length
  same : zsL D.data (inZ 1024 bs) = zsL E.data (inZ 1024 bs)
theorem rows_cell {B g m j : Nat} {L : List (List Int)} {w : World} (h : Slt.Rows B L m m g w) (hj : j < m) : ∃ X c, g < w.heap.size ∧ w.cell? ⟨g, j, none⟩ = some (.slice X (L.getD j []).length c) := by
  obtain ⟨⟨C, hC, _, hx⟩, _⟩ := h
  obtain ⟨v, hv, ⟨A, c, rfl, _⟩, _⟩ := hx j hj
  exact ⟨A, c, (Array.getElem?_eq_some_iff.1 hC).1, by rw [cell_row hC, hv]⟩
theorem FinS.of {w0 w1 w : World} {K1 K2 : DK} {D E : DS} {S T : LS} {V U : GV} {R Q : List (List Int × Nat)} {bs : List Nat} {B1 B2 g1 g2 m1 m2 : Nat} (h : ST D S V R E T U Q bs) (s1 : SD w0 w K1 D) (s2 : SD w1 w K2 E) (r1 : Slt.Rows B1 V.T m1 m1 g1 w) (r2 : Slt.Rows B2 U.T m2 m2 g2 w) (e1 : V.T.length = m1) (e2 : U.T.length = m2) (hn : 9 ≤ D.secs ∧ D.secs ≤ 72) (hm : V.T.length ≤ 10) : FinS w0 w1 w K1 K2 D E V.T U.T bs g1 g2 m1 m2 := by
  have l1 : R.length = m1 := by rw [← e1, h.g1.T, List.length_map]
  have l2 : Q.length = m2 := by rw [← e2, h.g2.T, List.length_map]
  have b1 : bs.length = m1 := by rw [← h.b1, List.length_map, l1]
  have b2 : bs.length = m2 := by rw [← h.b2, List.length_map, l2]
  have hw := h.g1.dg.w128
  have hbj : ∀ j (hj : j < bs.length), ∃ x ∈ R, ∃ y ∈ Q, V.T.getD j [] = x.1 ∧ U.T.getD j [] = y.1 ∧ bs[j] = Seal.bkt x.1.length ∧ bs[j] = Seal.bkt y.1.length := fun j hj => by
    have c1 : bs[j]? = (R.map (fun x => Seal.bkt x.1.length))[j]? := by rw [h.b1]
    have c2 : bs[j]? = (Q.map (fun x => Seal.bkt x.1.length))[j]? := by rw [h.b2]
    have hj1 : j < R.length := by omega
    have hj2 : j < Q.length := by omega
    refine ⟨R[j], List.getElem_mem hj1, Q[j], List.getElem_mem hj2, ?_, ?_, ?_, ?_⟩
    · rw [h.g1.T]; simp [List.getD_eq_getElem?_getD, hj1]
    · rw [h.g2.T]; simp [List.getD_eq_getElem?_getD, hj2]
    · rw [List.getElem?_eq_getElem hj, List.getElem?_map, List.getElem?_eq_getElem hj1] at c1
      exact Option.some.inj c1
    · rw [List.getElem?_eq_getElem hj, List.getElem?_map, List.getElem?_eq_getElem hj2] at c2
      exact Option.some.inj c2
  refine ⟨s1, s2, b1, by omega, by omega, fun j hj => ?_, fun b hb => ?_, by omega, h.len, zs_same h.len h.same⟩
  · have hjb : j < bs.length := by omega
    obtain ⟨x, hx, y, hy, t1, t2, q1, q2⟩ := hbj j hjb
    obtain ⟨X1, cx, gx, hcx⟩ := rows_cell r1 hj
    obtain ⟨Y1, cy, gy, hcy⟩ := rows_cell r2 (show j < m2 by omega)
    rw [t1] at hcx
    rw [t2] at hcy
    exact ⟨bs[j], _, _, X1, cx, Y1, cy, ⟨gx, hcx⟩, ⟨gy, hcy⟩, q1, q2, (ris_all h.g1.dg.ris x hx).2, (ris_all h.g2.dg.ris y hy).2, by rw [List.take_succ_eq_append_getElem hjb]⟩
  · obtain ⟨j, hj, rfl⟩ := List.getElem_of_mem hb
    obtain ⟨x, hx, _, _, _, _, q1, _⟩ := hbj j hj
    rw [q1]
    exact (Seal.bkt_le (ris_all h.g1.dg.ris x hx).2).1
theorem FinS.later {w0 w1 w w' : World} {K1 K2 : DK} {D E : DS} {X Y : List (List Int)} {bs : List Nat} {g1 g2 m1 m2 : Nat} (h : FinS w0 w1 w K1 K2 D E X Y bs g1 g2 m1 m2) (hb : Below w.heap.size w w') : FinS w0 w1 w' K1 K2 D E X Y bs g1 g2 m1 m2 :=
  ⟨h.sd1.later hb, h.sd2.later hb, h.blen, h.lens, h.few, fun j hj => by
    obtain ⟨b, lx, ly, X1, cx, Y1, cy, ⟨a1, a2⟩, ⟨a3, a4⟩, a5⟩ := h.at_ j hj
    exact ⟨b, lx, ly, X1, cx, Y1, cy, ⟨Nat.lt_of_lt_of_le a1 hb.size, (hb.cell (p := ⟨g1, j, none⟩) a1).trans a2⟩, ⟨Nat.lt_of_lt_of_le a3 hb.size, (hb.cell (p := ⟨g2, j, none⟩) a3).trans a4⟩, a5⟩, h.bsm, h.big, h.len, h.same⟩
theorem FinS.shape1 {w0 w1 w W : World} {K1 K2 : DK} {D E : DS} {X Y : List (List Int)} {bs : List Nat} {g1 g2 m1 m2 : Nat} {v : Value} (h : FinS w0 w1 w K1 K2 D E X Y bs g1 g2 m1 m2) (hv : RdI bs v W) (hW : Below w.heap.size w W) : Calls Tryz.prog 25 #[.pointer (some ⟨K1.g, 0, none⟩), v] W fun e w' => ∃ z, e = .returned z ∧ SlB (zsL D.data (inZ 1024 bs)) z w' ∧ Below W.heap.size W w' :=
  shape_is (h.sd1.later hW) bs v hv h.bsm (by have := h.blen; have := h.few; omega) h.big.1 h.big.2
theorem FinS.shape2 {w0 w1 w W : World} {K1 K2 : DK} {D E : DS} {X Y : List (List Int)} {bs : List Nat} {g1 g2 m1 m2 : Nat} {v : Value} (h : FinS w0 w1 w K1 K2 D E X Y bs g1 g2 m1 m2) (hv : RdI bs v W) (hW : Below w.heap.size w W) : Calls Tryz.prog 25 #[.pointer (some ⟨K2.g, 0, none⟩), v] W fun e w' => ∃ z, e = .returned z ∧ SlB (zsL D.data (inZ 1024 bs)) z w' ∧ Below W.heap.size W w' := by
  rw [h.same]
  exact shape_is (h.sd2.later hW) bs v hv h.bsm (by have := h.blen; have := h.few; omega) (by rw [← h.len]; exact h.big.1) (by rw [← h.len]; exact h.big.2)
end Go.Proofs.YtkjhoanlkkcfkaaGreatDoor.Sgm
