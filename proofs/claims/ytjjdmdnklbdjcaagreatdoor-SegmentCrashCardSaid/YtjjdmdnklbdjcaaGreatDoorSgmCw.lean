/- DERIVED. What the walk of SegmentCrash keeps: the disk, the segment, the texts that are sure. -/
import Derived.Test.YtjjdmdnklbdjcaaGreatDoorSgmReopen
namespace Go.Proofs.YtjjdmdnklbdjcaaGreatDoor.Sgm
open Go.RowKit Dsk Slt Epo
structure CW (w0 wr : World) (K : DK) (J : LK) (G : GK) (D : DS) (S : LS) (V : GV) (v : Value) (qs : List Tp) : Prop where
  se : SE w0 wr K D J G S V
  own : wr.ownsRow w0.heap.size 38 1 v qs.length (qs.map Tp.val)
  ok : ∀ q ∈ qs, Byt w0 q.A q.c q.M ∧ InB q.M
  vap : ∀ g, v.ownBlock = some g → g ∉ K.bl ∧ g ∉ J.bl ∧ g ∉ J.tx ∧ g ∉ G.bl ∧ g ∉ G.tx
section
variable {w0 wr w' : World} {K : DK} {J J' : LK} {G G' : GK} {D D' : DS} {S S' : LS} {V V' : GV} {v v' : Value} {qs : List Tp}
theorem CW.later (h : CW w0 wr K J G D S V v qs) (hb : Below wr.heap.size wr w') : CW w0 w' K J G D S V v qs :=
  ⟨h.se.later hb, own_chg (S := []) h.own (Chg.of_below hb) (fun _ _ => by simp), h.ok, h.vap⟩
theorem CW.low (h : CW w0 wr K J G D S V v qs) : Below w0.heap.size w0 wr := h.se.sd.low
theorem CW.disk (h : CW w0 wr K J G D S V v qs) (hc : Chg K.bl wr w') (hd : Dsk w' K D') : CW w0 w' K J G D' S V v qs :=
  ⟨h.se.disk hd hc, own_chg h.own hc (fun q hq => (h.vap q hq).1), h.ok, h.vap⟩
theorem CW.app (h : CW w0 wr K J G D S V v qs) (hs : SE w0 w' K D' J' G' S' V') (q : AR wr K J G (K.bl ++ J.bl ++ G.bl) D' S' V' J' G' w') : CW w0 w' K J' G' D' S' V' v qs where
  se := hs
  own := own_chg h.own q.chg (fun g hg hm => by
    obtain ⟨h1, h2, h3, h4, h5⟩ := h.vap g hg
    rcases List.mem_append.1 hm with hm | hm
    · rcases List.mem_append.1 hm with hm | hm
      · exact h1 hm
      · exact h2 hm
    · exact h4 hm)
  ok := h.ok
  vap g hg := by
    have hlt := (h.own.lt g hg).2
    obtain ⟨h1, h2, h3, h4, h5⟩ := h.vap g hg
    exact ⟨h1, fun hm => (q.jbl g hm).elim h2 (fun h6 => by omega), fun hm => (q.jtx g hm).elim h3 (fun h6 => by omega), fun hm => (q.gbl g hm).elim h4 (fun h6 => by omega), fun hm => (q.gtx g hm).elim h5 (fun h6 => by omega)⟩
theorem CW.open (h : CW w0 wr K J G D S V v qs) (hs : SE w0 w' K D' J' G' S' V') (f : Fresh wr w' K J' G') : CW w0 w' K J' G' D' S' V' v qs where
  se := hs
  own := own_chg h.own f.chg (fun q hq => (h.vap q hq).1)
  ok := h.ok
  vap g hg := by
    have hlt := (h.own.lt g hg).2
    exact ⟨(h.vap g hg).1, fun hm => by have := f.jn g hm; omega, fun hm => by have := f.jt g hm; omega, fun hm => by have := f.gn g hm; omega, fun hm => by have := f.gt g hm; omega⟩
theorem CW.more (h : CW w0 wr K J G D S V v qs) (t : Tp) (ht : Byt w0 t.A t.c t.M ∧ InB t.M) (hown : w'.ownsRow w0.heap.size 38 1 v' (qs.length + 1) (qs.map Tp.val ++ [t.val])) (hg : wr.grownBy w' v.ownBlock) (ho : v'.ownBlock = v.ownBlock ∨ v'.ownBlock = some wr.heap.size) : CW w0 w' K J G D S V v' (qs ++ [t]) where
  se := by
    have hc := chg_grown hg
    have hK := fun q (hq : q ∈ K.bl) (hm : q ∈ v.ownBlock.toList) => (h.vap q (by simpa using hm)).1 hq
    refine ⟨h.se.sd.chg (h.se.sd.dsk.chg hc (hK _ (by simp [DK.bl])) (hK _ (by simp [DK.bl]))) hc (fun k hk => (h.own.lt k (by simpa using hk)).1), h.se.sg.chg hc (fun q hq hm => (h.vap q (by simpa using hm)).2.1 hq) (fun q hq hm => (h.vap q (by simpa using hm)).2.2.1 hq) (fun q hq hm => (h.vap q (by simpa using hm)).2.2.2.1 hq) (fun q hq hm => (h.vap q (by simpa using hm)).2.2.2.2 hq), h.se.jn, h.se.jt, h.se.gn, h.se.gt⟩
  own := by
    rw [List.length_append, List.map_append]
    exact hown
  ok q hq := by
    rcases List.mem_append.1 hq with hq | hq
    · exact h.ok q hq
    · rw [List.mem_singleton] at hq; rw [hq]; exact ht
  vap g hg' := by
    rcases ho with e | e
    · exact h.vap g (by rw [← e]; exact hg')
    · rw [hg'] at e
      cases e
      exact ⟨fun hm => Nat.lt_irrefl _ (h.se.sd.kl _ hm), fun hm => Nat.lt_irrefl _ (jbl_lt h.se.sg.lg _ hm), fun hm => absurd (h.se.sg.lg.tlt _ hm) (Nat.lt_irrefl _), fun hm => Nat.lt_irrefl _ (gbl_lt h.se.sg _ hm), fun hm => absurd (h.se.sg.tlt _ hm) (Nat.lt_irrefl _)⟩
theorem CW.tx (h : CW w0 wr K J G D S V v qs) : ∃ A c, v = .slice A qs.length c ∧ TxAt wr A (qs.map (·.M)) := by
  obtain ⟨A, c, hv⟩ := own_nilK h.own
  refine ⟨A, c, hv, ⟨fun i hi => ?_⟩⟩
  rw [List.length_map] at hi
  have ho := h.own
  rw [hv] at ho
  obtain ⟨g, hA, _, hg, hc⟩ := own_cellS ho i hi
  obtain ⟨hB, hin⟩ := h.ok qs[i] (List.getElem_mem hi)
  have e2 : (qs.map (·.M)).getD i [] = qs[i].M := by simp [List.getD_eq_getElem?_getD, hi]
  have e3 : (qs.map Tp.val).getD i undef = qs[i].val := by simp [List.getD_eq_getElem?_getD, hi]
  rw [e3] at hc
  exact ⟨g, 0, qs[i].A, qs[i].c, hA, hg, by rw [e2, Nat.zero_add]; exact hc, by rw [e2]; exact hB.below h.low (Nat.le_refl _), by rw [e2]; exact hin⟩
end
/-- append(sure, t), t laid in a block of its own. -/
theorem wpList_app_cw {w0 wr : World} {K : DK} {J : LK} {G : GK} {D : DS} {S : LS} {V : GV} {v : Value} {qs : List Tp} {ops : Array Oper} {rest : List Oper} {o : Oper} {a : Act} {Q : Exit → Act → World → Prop} (hgd : o.guard = none) (s y : Operand)
    (ho : o.op = .call { callee := .builtin .append, args := #[s, y], argTypes := #[54, 54] }) (hw : CW w0 wr K J G D S V v qs) (t : Tp) (ht : Byt w0 t.A t.c t.M ∧ InB t.M) (m : Nat) (hm : t.M.length = m) (hs : a.eval s = v)
    (hy : a.eval y = .slice (some ⟨wr.heap.size, 0, none⟩) 1 1) (h63 : qs.length ≤ 1000)
    (h : ∀ v' w', CW w0 w' K J G D S V v' (qs ++ [t]) → Chg v.ownBlock.toList wr w' → wpList Tryz.prog ops Q rest (a.put o.dst v') w') : wpList Tryz.prog ops Q (o :: rest) a (wr.alloc (.cells #[.slice t.A m t.c] 38)) := by
  obtain ⟨i0, hi0, hz00, hz10, hz20⟩ := info_parts info_slz
  have hb : Below wr.heap.size wr (wr.alloc (.cells #[.slice t.A m t.c] 38)) := (Below.refl _ _).alloc (Nat.le_refl _) _
  have h2 := hw.later hb
  have hv : (Value.slice t.A m t.c) = t.val := by rw [Tp.val, hm]
  refine wpList_append_own_at _ hgd s y 54 ho w0.heap.size 38 i0 (.slice none 0 0) 1 24 Tryz.underlying54 hi0 hz00 hz10 hz20 rfl (by decide) v qs.length (qs.map Tp.val) hs h2.own ⟨wr.heap.size, 0, none⟩ 1 1 [.slice t.A m t.c] hy rfl
    (fun j u hu => ?_) (fun u hu => ?_) (by unfold maxLen; omega) (by omega) h2.low.size ?_
  · have hg : (wr.alloc (.cells #[.slice t.A m t.c] 38)).heap[wr.heap.size]? = some (.cells #[.slice t.A m t.c] 38 (0, 0)) := heap_alloc_new _ _
    rw [Addr.add_mid, Nat.zero_add, cell_row hg]
    simpa using hu
  · simp only [List.mem_cons, List.mem_nil_iff, or_false] at hu
    subst hu; rfl
  · intro v' w' hown' hgrow _ hblk
    rw [hv] at hown'
    exact h v' w' (h2.more t ht hown' hgrow hblk) ((Chg.of_below hb).trans (chg_grown hgrow))
theorem app_shape (D : DS) (S : LS) (t : List Int) : (appD D S t).2.1.from_ = S.from_ ∧ (appD D S t).2.1.secs = S.secs := by
  unfold appD
  split
  · exact ⟨rfl, rfl⟩
  split
  · exact ⟨rfl, rfl⟩
  split
  · exact ⟨rfl, rfl⟩
  split <;> exact ⟨rfl, rfl⟩
theorem appG_shape (D : DS) (S : LS) (V : GV) (t : List Int) : (appG D S V t).2.1.from_ = S.from_ ∧ (appG D S V t).2.1.secs = S.secs := by
  unfold appG
  split
  · exact ⟨rfl, rfl⟩
  split <;> exact app_shape _ _ _
theorem cut_off (D : DS) (x : Int) (m : List Int) : (cutD D x m).off = D.off ∧ (cutD D x m).writes = D.writes := by
  unfold cutD; split <;> exact ⟨rfl, rfl⟩
theorem SGd.of_data {D D' : DS} {S : LS} {V : GV} {R : List (List Int × Nat)} (h : SGd D S V R) (e : D'.data = D.data) (ho : D'.off = D.off) : SGd D' S V R := by
  have e2 : D'.secs = D.secs := by unfold DS.secs; rw [e]
  refine ⟨h.dg.of_data e, h.from_, by rw [e2]; exact h.secs, h.txs, h.T, ?_, h.slost, h.vlost, by rw [ho]; exact h.off, h.ep⟩
  have := h.log
  unfold reg at this ⊢
  rw [e, e2]
  exact this
/-- the numbers of the law, behind i acts. -/
structure CI (i n : Nat) (key C : List Int) (D : DS) (S : LS) (V : GV) (qs : List Tp) (mb : Tp) : Prop where
  secs : D.secs = n
  from_ : S.from_ = 8
  ss : S.secs = D.secs - 8
  n9 : 9 ≤ n
  wr : D.writes ≤ 3000 * ((i : Int) + 1)
  ep : V.ep ≤ i + 1
  ep0 : V.ep ≠ 0
  ke : V.key = key
  ce : V.C = C
  tn : V.T.length ≤ i
  qn : qs.length ≤ i ∧ (V.lost = true → qs.length + 1 ≤ i)
  good : V.lost = false → ∃ R, SGd D S V R ∧ R.map (·.1) = qs.map (·.M)
  bad : V.lost = true → ∃ R, DG D key C V.ep R ∧ (R.map (·.1) = qs.map (·.M) ∨ R.map (·.1) = qs.map (·.M) ++ [mb.M])
section
variable {i n : Nat} {key C : List Int} {D D' : DS} {S : LS} {V : GV} {qs : List Tp} {mb t : Tp}
theorem CI.next (h : CI i n key C D S V qs mb) : CI (i + 1) n key C D S V qs mb :=
  ⟨h.secs, h.from_, h.ss, h.n9, by have := h.wr; push_cast; omega, by have := h.ep; omega, h.ep0, h.ke, h.ce, Nat.le_succ_of_le h.tn, ⟨Nat.le_succ_of_le h.qn.1, fun e => Nat.le_succ_of_le (h.qn.2 e)⟩, h.good, h.bad⟩
theorem CI.cut (h : CI i n key C D S V qs mb) (x : Int) (m : List Int) : CI (i + 1) n key C (cutD D x m) S V qs mb := by
  have e := cut_data D x m
  have e2 : (cutD D x m).secs = D.secs := by unfold DS.secs; rw [e]
  obtain ⟨e3, e4⟩ := cut_off D x m
  refine ⟨by rw [e2]; exact h.secs, h.from_, by rw [e2]; exact h.ss, h.n9, by have := h.wr; rw [e4]; push_cast; omega, by have := h.ep; omega, h.ep0, h.ke, h.ce, Nat.le_succ_of_le h.tn, ⟨Nat.le_succ_of_le h.qn.1, fun e => Nat.le_succ_of_le (h.qn.2 e)⟩, fun hl => ?_, fun hl => ?_⟩
  · obtain ⟨R, h1, h2⟩ := h.good hl
    exact ⟨R, h1.of_data e e3, h2⟩
  · obtain ⟨R, h1, h2⟩ := h.bad hl
    exact ⟨R, h1.of_data e, h2⟩
/-- what an append does to them. -/
theorem CI.app (h : CI i n key C D S V qs mb) (ht : InB t.M) (hl : t.M.length ≤ 3000) (hi : i < 20) :
    ((appG D S V t.M).2.2.2 = 0 ∧ V.lost = false ∧ (appG D S V t.M).2.2.1.lost = false ∧ CI (i + 1) n key C (appG D S V t.M).1 (appG D S V t.M).2.1 (appG D S V t.M).2.2.1 (qs ++ [t]) mb) ∨
    ((appG D S V t.M).2.2.2 = 7 ∧ V.lost = false ∧ (appG D S V t.M).2.2.1.lost = false ∧ CI (i + 1) n key C (appG D S V t.M).1 (appG D S V t.M).2.1 (appG D S V t.M).2.2.1 qs mb) ∨
    ((appG D S V t.M).2.2.2 = 12 ∧ V.lost = false ∧ (appG D S V t.M).2.2.1.lost = true ∧ CI (i + 1) n key C (appG D S V t.M).1 (appG D S V t.M).2.1 (appG D S V t.M).2.2.1 qs t) ∨
    ((appG D S V t.M).2.2.2 = 12 ∧ V.lost = true ∧ (appG D S V t.M).2.2.1.lost = true ∧ CI (i + 1) n key C (appG D S V t.M).1 (appG D S V t.M).2.1 (appG D S V t.M).2.2.1 qs mb) := by
  cases hlo : V.lost with
  | true =>
    have e := app_lost (D := D) (S := S) (t := t.M) h.ep0 (by omega) hlo
    rw [e]
    exact .inr (.inr (.inr ⟨rfl, rfl, hlo, h.next⟩))
  | false =>
    obtain ⟨R, hg, hR⟩ := h.good hlo
    obtain ⟨a1, a2, a3⟩ := app_good hg ht (by omega) (by have := h.ep; omega)
    obtain ⟨s1, s2⟩ := appG_shape D S V t.M
    have hwr := h.wr
    have hep := h.ep
    rcases a3 with ⟨c1, c2, c3, c4⟩ | ⟨c1, c2, c3⟩ | ⟨c1, c2, c3⟩
    · refine .inr (.inl ⟨c1, rfl, by rw [c4]; exact hlo, ?_⟩)
      rw [c2, c3, c4]
      exact h.next
    · refine .inl ⟨c1, rfl, by rw [c3]; exact hlo, ?_⟩
      have hev : (appG D S V t.M).2.2.1.ep = V.ep ∧ (appG D S V t.M).2.2.1.key = V.key ∧ (appG D S V t.M).2.2.1.C = V.C ∧ (appG D S V t.M).2.2.1.T = V.T ++ [t.M] ∧ (appG D S V t.M).2.2.1.lost = V.lost := by rw [c3]; exact ⟨rfl, rfl, rfl, rfl, rfl⟩
      obtain ⟨v1, v2, v3, v4, v5⟩ := hev
      refine ⟨by rw [a1]; exact h.secs, by rw [s1]; exact h.from_, by rw [s2, a1]; exact h.ss, h.n9, by push_cast; omega, by rw [v1]; omega, by rw [v1]; exact h.ep0, by rw [v2]; exact h.ke, by rw [v3]; exact h.ce, ?_, ⟨?_, fun e => ?_⟩, fun _ => ⟨_, c2, ?_⟩, fun e => ?_⟩
      · rw [v4, List.length_append]; have := h.tn; simp; omega
      · rw [List.length_append]; have := h.qn.1; simp; omega
      · rw [v5, hlo] at e; cases e
      · rw [List.map_append, List.map_append, hR]; rfl
      · rw [v5, hlo] at e; cases e
    · refine .inr (.inr (.inl ⟨c1, rfl, by rw [c2], ?_⟩))
      have hev : (appG D S V t.M).2.2.1.ep = V.ep ∧ (appG D S V t.M).2.2.1.key = V.key ∧ (appG D S V t.M).2.2.1.C = V.C ∧ (appG D S V t.M).2.2.1.T = V.T ∧ (appG D S V t.M).2.2.1.lost = true := by rw [c2]; exact ⟨rfl, rfl, rfl, rfl, rfl⟩
      obtain ⟨v1, v2, v3, v4, v5⟩ := hev
      refine ⟨by rw [a1]; exact h.secs, by rw [s1]; exact h.from_, by rw [s2, a1]; exact h.ss, h.n9, by push_cast; omega, by rw [v1]; omega, by rw [v1]; exact h.ep0, by rw [v2]; exact h.ke, by rw [v3]; exact h.ce, by rw [v4]; have := h.tn; omega, ⟨by have := h.qn.1; omega, fun _ => by have := h.qn.1; omega⟩, fun e => (by rw [v5] at e; cases e), fun _ => ?_⟩
      rw [v1, ← h.ke, ← h.ce]
      rcases c3 with c3 | c3
      · exact ⟨_, c3, .inl hR⟩
      · exact ⟨_, c3, .inr (by rw [List.map_append, hR]; rfl)⟩
end
end Go.Proofs.YtjjdmdnklbdjcaaGreatDoor.Sgm
