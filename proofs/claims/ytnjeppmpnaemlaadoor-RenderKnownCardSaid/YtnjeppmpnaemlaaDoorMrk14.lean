/- DERIVED. Texts of ours, merged: XGrfEdges XGrfIO. -/
import Derived.Test.YtnjeppmpnaemlaaDoorMrk13
/- DERIVED. edges: all chains' edges. Written by mkedges.py. -/
set_option maxRecDepth 100000
namespace Go.Proofs.YtnjeppmpnaemlaaDoor.Grf
open Go.RowKit Str Go.Maps
attribute [local go_sem ↓ high] loadAtVx
/-- where a vertex's line lies. -/
def blS (S : GS) (v : Vx) : Nat := (lineB S v).getD 0
def EdQ (w : World) (S : GS) (e : Ending) (w' : World) : Prop := ∃ bb ab mb ma E, e = .returned (.tuple #[.map (some mb), .map (some ma)]) ∧ EM w bb ab mb ma (blS S) none E E w' ∧ (∀ e, e ∈ E ↔ e ∈ edges (ds S.ps)) ∧ E.length ≤ 200000
/-- the edges of the frame and of these parts. -/
def EQ (Q : List PA) : List (Vx × Vx) := (root, fin) :: Q.flatMap fun p => pairs (chain p.d)
theorem EQ_snoc (Q : List PA) (p : PA) : EQ (Q ++ [p]) = EQ Q ++ pairs (chain p.d) := by simp [EQ]
theorem mem_edges : ∀ {ps : List PD} {e : Vx × Vx}, e ∈ edges ps ↔ e = (root, fin) ∨ ∃ p ∈ ps, e ∈ pairs (chain p) := by
  intro ps
  induction ps with
  | nil => intro e; simp [edges]
  | cons q t ih =>
    intro e
    rw [edges, List.mem_append, ih]
    simp only [List.mem_cons, exists_eq_or_imp]
    constructor
    · rintro (h | h | h)
      · exact .inr (.inl h)
      · exact .inl h
      · exact .inr (.inr h)
    · rintro (h | h | h)
      · exact .inr (.inl h)
      · exact .inl h
      · exact .inr (.inr h)
theorem EQ_mem {S : GS} {Q : List PA} (h1 : ∀ p ∈ Q, p ∈ S.ps) (h2 : ∀ p ∈ S.ps, p ∈ Q) (e : Vx × Vx) : e ∈ EQ Q ↔ e ∈ edges (ds S.ps) := by
  rw [mem_edges, EQ, List.mem_cons, List.mem_flatMap]
  constructor
  · rintro (h | ⟨p, hp, h⟩)
    · exact .inl h
    · exact .inr ⟨p.d, List.mem_map.2 ⟨p, h1 p hp, rfl⟩, h⟩
  · rintro (h | ⟨d, hd, h⟩)
    · exact .inl h
    · obtain ⟨p, hp, rfl⟩ := List.mem_map.1 hd
      exact .inr ⟨p, h2 p hp, h⟩
theorem EQ_len {Q : List PA} {m : Nat} (h : ∀ p ∈ Q, p.d.lines.length ≤ m) : (EQ Q).length ≤ 1 + Q.length * (m + 1) := by
  unfold EQ
  rw [List.length_cons]
  induction Q with
  | nil => simp
  | cons p t ih =>
    rw [List.flatMap_cons, List.length_append, pairs_len, List.length_cons]
    have h1 := h p (by simp)
    have h2 := ih (fun q hq => h q (by simp [hq]))
    have h3 : (chain p.d).length = p.d.lines.length + 2 := by simp [chain, own_len]
    rw [h3, Nat.add_mul]
    omega
/-- a part's chain, by where its lines lie. -/
theorem chain_bl {w : World} {S : GS} {us : Nat → Int} {gn : Vx → Int} (h : GM w S us gn) (hok : GOk S) {p : PA} (hp : p ∈ S.ps) : Ptrs w p.chv ((chain p.d).map (blS S)) ∧ ∀ v ∈ chain p.d, w.rangeAt (blS S v) 0 v.c.toList ∧ ∃ b, lineB S v = some b := by
  obtain ⟨u, dn, hu, hd, hpt⟩ := h.chn p hp
  have e : (chain p.d).map (blS S) = u :: (p.ls ++ [dn]) := by
    have e1 : (own p.d).map (blS S) = p.ls := by
      apply List.ext_getElem?
      intro i
      have hl := h.lsl p hp
      by_cases hi : i < p.d.lines.length
      · have hi2 : i < (own p.d).length := by rw [own_len]; exact hi
        rw [List.getElem?_map, List.getElem?_eq_getElem hi2, own_at hi2]
        have hb : p.ls[i]? = some p.ls[i] := List.getElem?_eq_getElem (by omega)
        rw [hb]
        show some (blS S (vert p.d i)) = _
        unfold blS
        rw [lineB_own hok hp hi hb]
        rfl
      · rw [List.getElem?_eq_none (by rw [List.length_map, own_len]; omega), List.getElem?_eq_none (by omega)]
    unfold chain
    rw [List.map_cons, List.map_append, e1]
    unfold blS
    rw [hu]
    simp [hd]
  rw [e]
  refine ⟨hpt, fun v hv => ?_⟩
  have hin : ∃ b, lineB S v = some b := by
    simp only [chain, List.mem_cons, List.mem_append, List.mem_nil_iff, or_false] at hv
    rcases hv with rfl | hv | rfl
    · exact ⟨u, hu⟩
    · obtain ⟨i, hi, rfl⟩ := mem_own.1 hv
      exact ⟨_, lineB_own hok hp hi (List.getElem?_eq_getElem (by rw [h.lsl p hp]; exact hi))⟩
    · exact ⟨dn, hd⟩
  refine ⟨?_, hin⟩
  obtain ⟨b, hb⟩ := hin
  obtain ⟨s, pb, at_, hr, _⟩ := h.line hb
  unfold blS
  rw [hb]
  exact hr.vx
theorem ranges_stay {H : Type} {P : Program} {k : TypeId} {R : Value → Option (DataW H × List MemPlace)} {w w' : World} {b r n : Nat} {D : DataW H} {left : Lit → Bool} {cnt : Nat} (h : w.ranges P k R b r n D left cnt) (hb : w'.heap[b]? = w.heap[b]?) (hr : w'.heap[r]? = w.heap[r]?) : w'.ranges P k R b r n D left cnt := by
  obtain ⟨es, clock, since, seen, c0, h1, h2, h3, h4, h5, h6⟩ := h
  exact ⟨es, clock, since, seen, c0, hb.trans h1, h2, h3, h4, hr.trans h5, h6⟩
theorem ranges_it {H : Type} {P : Program} {k : TypeId} {R : Value → Option (DataW H × List MemPlace)} {w : World} {b r n : Nat} {D : DataW H} {left : Lit → Bool} {cnt : Nat} (h : w.ranges P k R b r n D left cnt) : ∃ o, w.heap[r]? = some o ∧ ∃ a b c d, o = .mapIter a b c d := by
  obtain ⟨es, clock, since, seen, c0, h1, h2, h3, h4, h5, h6⟩ := h
  exact ⟨_, h5, _, _, _, _, rfl⟩
/-- the iterator alone turns. -/
theorem EM.turn {w0 w w' : World} {bb ab mb ma r : Nat} {bl : Vx → Nat} {it : Option (Nat × Obj)} {E E2 : List (Vx × Vx)} {o o' : Obj} (h : EM w0 bb ab mb ma bl it E E2 w) (hr : w0.heap.size ≤ r) (ho : (∃ a b c d, o = .mapIter a b c d) ∧ (w.heap[r]? = some o ∨ w.heap[r]? = none)) (hg : w.grownBy w' (some r)) (ho' : w'.heap[r]? = some o' ∧ ∃ a b c d, o' = .mapIter a b c d) : EM w0 bb ab mb ma bl (some (r, o')) E E2 w' := by
  obtain ⟨⟨k1, k2, k3, k4, rfl⟩, ho⟩ := ho
  have nc : ∀ {c T : Nat} {C : Array Value}, w.heap[c]? = some (.cells C T (0, 0)) → c ≠ r := fun {c T C} hc e => by
    rw [e] at hc
    rcases ho with ho | ho <;> rw [ho] at hc <;> cases hc
  have nm : ∀ {c m : Nat} {f : Vx → Option Value}, MapF 27 w c m f → c ≠ r := fun {c m f} hc e => by
    obtain ⟨D, ⟨es, clock, hb, _⟩, _⟩ := hc
    rw [e] at hb
    rcases ho with ho | ho <;> rw [ho] at hb <;> cases hb
  have st : ∀ {c : Nat} {o : Obj}, w.heap[c]? = some o → c ≠ r → w'.heap[c]? = some o := fun {c o} hc hn => (hg.block c (Array.getElem?_eq_some_iff.1 hc).1 (fun e => hn (Option.some.inj e))).trans hc
  obtain ⟨sv, nb, hnb, hB, hrow, hdis⟩ := h.out
  obtain ⟨na, hna, hA⟩ := h.ahd
  refine ⟨st h.boxB (nc h.boxB), st h.boxA (nc h.boxA), ?_, h.mbN, h.maN, h.ne, fun r1 o1 e => ?_, ⟨sv, nb, hnb, hB.stay (hg.block _ hB.lt (fun e => nm hB (Option.some.inj e))), fun v hv => World.ownsRow.kept (hrow v hv) hg (.inr (fun e => ?_)), hdis⟩, na, hna, hA.stay (hg.block _ hA.lt (fun e => nm hA (Option.some.inj e)))⟩
  · exact h.low.grown hg h.low.size (fun k hk => by obtain rfl := Option.some.inj hk; exact hr)
  · cases e
    exact ho'
  · rcases (hrow v hv).2 with ⟨h9, _⟩ | ⟨g, cap, cur, h9, _, hgc, _⟩
    · rw [h9] at e; simp [Value.ownBlock] at e
    · rw [h9] at e
      simp only [Value.ownBlock, Option.some.injEq] at e
      exact nc hgc e
theorem EM.same {w0 w w' : World} {bb ab mb ma : Nat} {bl : Vx → Nat} {it : Option (Nat × Obj)} {E E2 : List (Vx × Vx)} (h : EM w0 bb ab mb ma bl it E E2 w) (hb : Below w.heap.size w w') : EM w0 bb ab mb ma bl it E E2 w' := by
  obtain ⟨sv, nb, hnb, hB, hrow, hdis⟩ := h.out
  obtain ⟨na, hna, hA⟩ := h.ahd
  exact ⟨at_below h.boxB hb, at_below h.boxA hb, h.low.trans (hb.mono h.low.size), h.mbN, h.maN, h.ne, fun r o e => ⟨at_below (h.itr r o e).1 hb, (h.itr r o e).2⟩, ⟨sv, nb, hnb, hB.stay (hb.block _ hB.lt), fun v hv => own_stays (hrow v hv) hb, hdis⟩, na, hna, hA.stay (hb.block _ hA.lt)⟩
/-- the iterator is no more asked for. -/
theorem EM.drop {w0 w : World} {bb ab mb ma : Nat} {bl : Vx → Nat} {it : Option (Nat × Obj)} {E E2 : List (Vx × Vx)} (h : EM w0 bb ab mb ma bl it E E2 w) : EM w0 bb ab mb ma bl none E E2 w :=
  ⟨h.boxB, h.boxA, h.low, h.mbN, h.maN, h.ne, fun _ _ e => (by cases e), h.out, h.ahd⟩
/-- two new boxes, two new maps. -/
theorem EM.start (w : World) (bl : Vx → Nat) (W : World) (hW : W = ((((w.alloc (.cells #[.map (some (w.heap.size + 1 + 1))] 129)).alloc (.cells #[.map (some (w.heap.size + 1 + 1 + 1))] 130)).alloc (.map #[] 0)).alloc (.map #[] 0))) :
    EM w w.heap.size (w.heap.size + 1) (w.heap.size + 1 + 1) (w.heap.size + 1 + 1 + 1) bl none [] [] W := by
  obtain ⟨A, hA⟩ : ∃ A, A = w.alloc (.cells #[.map (some (w.heap.size + 1 + 1))] 129) := ⟨_, rfl⟩
  obtain ⟨B, hB⟩ : ∃ B, B = A.alloc (.cells #[.map (some (w.heap.size + 1 + 1 + 1))] 130) := ⟨_, rfl⟩
  obtain ⟨C, hC⟩ : ∃ C, C = B.alloc (.map #[] 0) := ⟨_, rfl⟩
  rw [← hA, ← hB, ← hC] at hW
  have sA : A.heap.size = w.heap.size + 1 := by rw [hA, World.size_alloc]
  have sB : B.heap.size = w.heap.size + 1 + 1 := by rw [hB, World.size_alloc, sA]
  have sC : C.heap.size = w.heap.size + 1 + 1 + 1 := by rw [hC, World.size_alloc, sB]
  have lA : Below w.heap.size w A := by rw [hA]; exact (Below.refl _ _).alloc (Nat.le_refl _) _
  have lB : Below A.heap.size A B := by rw [hB]; exact (Below.refl _ _).alloc (Nat.le_refl _) _
  have lC : Below B.heap.size B C := by rw [hC]; exact (Below.refl _ _).alloc (Nat.le_refl _) _
  have lW : Below C.heap.size C W := by rw [hW]; exact (Below.refl _ _).alloc (Nat.le_refl _) _
  have a1 : A.heap[w.heap.size]? = some (.cells #[.map (some (w.heap.size + 1 + 1))] 129 (0, 0)) := by rw [hA]; exact Go.heap_alloc_new _ _
  have b1 : B.heap[w.heap.size + 1]? = some (.cells #[.map (some (w.heap.size + 1 + 1 + 1))] 130 (0, 0)) := by rw [hB, ← sA]; exact Go.heap_alloc_new _ _
  have c1 : C.heap[w.heap.size + 1 + 1]? = some (.map #[] 0) := by rw [hC, ← sB]; exact Go.heap_alloc_new _ _
  have d1 : W.heap[w.heap.size + 1 + 1 + 1]? = some (.map #[] 0) := by rw [hW, ← sC]; exact Go.heap_alloc_new _ _
  refine ⟨at_below (at_below (at_below a1 lB) lC) lW, at_below (at_below b1 lC) lW, lA.trans ((lB.trans ((lC.trans (lW.mono lC.size)).mono lB.size)).mono lA.size), by omega, by omega, by omega, fun _ _ e => (by cases e), ⟨fun _ => nils, 0, Nat.le_refl _, ?_, fun v hv => absurd rfl hv, fun u v _ hu => absurd rfl hu⟩, 0, Nat.le_refl _, ?_⟩
  · exact MapF.empty _ (at_below c1 lW)
  · exact MapF.empty _ d1
theorem EM.setB {w0 w : World} {bb ab mb ma : Nat} {bl : Vx → Nat} {it : Option (Nat × Obj)} {E E2 : List (Vx × Vx)} (h : EM w0 bb ab mb ma bl it E E2 w) : EM w0 bb ab mb ma bl it E E2 (w.setCell ⟨bb, 0, none⟩ (.map (some mb))) := h.same (below_same h.boxB rfl _)
theorem EM.setA {w0 w : World} {bb ab mb ma : Nat} {bl : Vx → Nat} {it : Option (Nat × Obj)} {E E2 : List (Vx × Vx)} (h : EM w0 bb ab mb ma bl it E E2 w) : EM w0 bb ab mb ma bl it E E2 (w.setCell ⟨ab, 0, none⟩ (.map (some ma))) := h.same (below_same h.boxA rfl _)
theorem results_two {P : Program} {fn : Func} {p q : Tmp} {tp tq : TypeId} (h : fn.results = #[.cell p tp, .cell q tq]) (tmps : Array Value) (w : World) (gp gq : Nat) (x y : Value) (hp : tmps.getD p undef = .pointer (some ⟨gp, 0, none⟩)) (hq : tmps.getD q undef = .pointer (some ⟨gq, 0, none⟩))
    (hx : (loadVar tp ⟨gp, 0, none⟩).run P w = .ok x w) (hy : (loadVar tq ⟨gq, 0, none⟩).run P w = .ok y w) : (results fn tmps).run P w = .ok (.tuple #[x, y]) w := by
  have hp' : tmps[p]?.getD undef = .pointer (some ⟨gp, 0, none⟩) := by simpa using hp
  have hq' : tmps[q]?.getD undef = .pointer (some ⟨gq, 0, none⟩) := by simpa using hq
  simp [results, h, hp', hq', asAddr, hx, hy]
theorem loadB {w : World} {b : Nat} {v : Value} (h : w.cell? ⟨b, 0, none⟩ = some v) : (loadVar 129 ⟨b, 0, none⟩).run Tryd.prog w = .ok v w := by simp [loadVar, h]
theorem loadA {w : World} {b : Nat} {v : Value} (h : w.cell? ⟨b, 0, none⟩ = some v) : (loadVar 130 ⟨b, 0, none⟩).run Tryd.prog w = .ok v w := by simp [loadVar, h]
structure RGQ (w : World) (S : GS) (bb ab mb ma r : Nat) (D : DataW Unit) (left : Lit → Bool) (cnt : Nat) (Q : List PA) (o : Obj) (wr : World) : Prop where
  em : EM w bb ab mb ma (blS S) (some (r, o)) (EQ Q) (EQ Q) wr
  rg : wr.ranges Tryd.prog 95 rdV S.mp r S.ps.length D left cnt
  sub : ∀ p ∈ Q, p ∈ S.ps
  lf : ∀ p ∈ S.ps, left (kl 95 p.d.nm) = false → p ∈ Q
  cn : Q.length + cnt ≤ S.ps.length
  rN : w.heap.size ≤ r
theorem names_inj : ∀ {ps : List PA}, Adm (ds ps) → ∀ {p q : PA}, p ∈ ps → q ∈ ps → p.d.nm = q.d.nm → p = q := by
  intro ps
  induction ps with
  | nil => intro _ p q h; simp at h
  | cons r t ih =>
    intro ha p q hp hq e
    obtain ⟨h1, f, _⟩ := adm_tail ha
    rcases List.mem_cons.1 hp with e1 | hp2
    · rcases List.mem_cons.1 hq with e2 | hq2
      · rw [e1, e2]
      · rw [e1] at e
        exact absurd e.symm (f.name q.d (List.mem_map.2 ⟨q, hq2, rfl⟩))
    · rcases List.mem_cons.1 hq with e2 | hq2
      · rw [e2] at e
        exact absurd e (f.name p.d (List.mem_map.2 ⟨p, hp2, rfl⟩))
      · exact ih h1 hp2 hq2 e
theorem find_nm {ps : List PA} {x : Vx} {v : Value} (h : (ps.find? fun p => decide (p.d.nm = x)).map (fun p => ptr p.b) = some v) : ∃ p ∈ ps, p.d.nm = x ∧ v = ptr p.b := by
  obtain ⟨p, hp, rfl⟩ := Option.map_eq_some_iff.1 h
  exact ⟨p, List.mem_of_find?_eq_some hp, by have := List.find?_some hp; simpa using this, rfl⟩
theorem nm_find {ps : List PA} {p : PA} (hp : p ∈ ps) : (ps.find? fun q => decide (q.d.nm = p.d.nm)).map (fun p => ptr p.b) ≠ none := by
  intro h
  have h1 := Option.map_eq_none_iff.1 h
  rw [List.find?_eq_none] at h1
  exact h1 p hp (by simp)
/-- what is named by an entry that has come. -/
theorem entry_part {S : GS} {D : DataW Unit} (hfy : ∀ (x : Vx) (v : Value), (S.ps.find? fun p => decide (p.d.nm = x)).map (fun p => ptr p.b) = some v → ∃ d, rdV v = some (d, []) ∧ Maps.has D (kl 95 x) = true ∧ ∀ z, D.atKey (kl 95 x) z = d)
    (hfn : ∀ x, (S.ps.find? fun p => decide (p.d.nm = x)).map (fun p => ptr p.b) = none → Maps.has D (kl 95 x) = false) (hkl : ∀ l, Maps.has D l = true → ∃ x, kl 95 x = l) {c : Value} {y : DataW Unit × List MemPlace} {l : Lit} (hc : rdV c = some y) (hat : ∀ z, D.atKey l z = y.1) :
    ∃ p ∈ S.ps, kl 95 p.d.nm = l ∧ c = ptr p.b := by
  obtain ⟨x, rfl⟩ := hkl l (Maps.has_true_of_atKey hat)
  cases hf : (S.ps.find? fun p => decide (p.d.nm = x)).map (fun p => ptr p.b) with
  | none =>
    have := hfn x hf
    rw [Maps.has_true_of_atKey hat] at this
    cases this
  | some v =>
    obtain ⟨p, hp, e, rfl⟩ := find_nm hf
    obtain ⟨d, hd, _, hd2⟩ := hfy x _ hf
    refine ⟨p, hp, by rw [e], ?_⟩
    have e1 : y.1 = d := (hat (.nil)).symm.trans (hd2 .nil)
    obtain ⟨y1, y2⟩ := y
    simp only at e1
    subst e1
    exact rdV_inj hc hd
set_option maxHeartbeats 8000000 in
theorem edges_any (S : GS) (us : Nat → Int) (gn : Vx → Int) (hok : GOk S) (hps : S.ps.length ≤ 100) (hls : ∀ p ∈ S.ps, p.d.lines.length ≤ 1000) (w : World) (h : GM w S us gn) :
    Calls Tryd.prog 75 #[ptr S.g] w (EdQ w S) := by
  have hmm := @run_makeMap Tryd.prog
  have HH := Lib.hid h
  have HOk := Lib.hid hok
  have HPs := Lib.hid hps
  have HLs := Lib.hid hls
  have HSt := Lib.hid (EM.start w (blS S))
  clear h hok hps hls
  go_enter Tryd.func75, Tryd.ntmps75
  go_upto_region 3 with (fail)
  have hE1 := HSt.out _ rfl
  obtain ⟨W1, hW1⟩ : ∃ W1, W1 = ((((w.alloc (.cells #[.map (some (w.heap.size + 1 + 1))] 129)).alloc (.cells #[.map (some (w.heap.size + 1 + 1 + 1))] 130)).alloc (.map #[] 0)).alloc (.map #[] 0)) := ⟨_, rfl⟩
  rw [← hW1] at hE1 ⊢
  obtain ⟨bb, hbb⟩ : ∃ bb, bb = w.heap.size := ⟨_, rfl⟩
  obtain ⟨ab, hab⟩ : ∃ ab, ab = w.heap.size + 1 := ⟨_, rfl⟩
  obtain ⟨mb, hmb⟩ : ∃ mb, mb = w.heap.size + 1 + 1 := ⟨_, rfl⟩
  obtain ⟨ma, hma⟩ : ∃ ma, ma = w.heap.size + 1 + 1 + 1 := ⟨_, rfl⟩
  rw [← hma, ← hmb, ← hab, ← hbb] at hE1 ⊢
  have hg1 := HH.out.below hE1.low
  have c1 := hg1.g1
  have cf := hg1.frm.chn
  have hk1 := link_any hE1 S.fcv [root, fin] (by
    have h9 := HH.out.frc
    have e : [root, fin].map (blS S) = [S.rb, S.eb] := by simp [blS, lineB_root HOk.out, lineB_fin HOk.out]
    rw [e]; exact h9) (fun v hv => by
    rcases List.mem_cons.1 hv with rfl | hv
    · have := HH.out.lr.vx
      simpa [blS, lineB_root HOk.out] using this
    · rw [List.mem_singleton.1 hv]
      have := HH.out.lf.vx
      simpa [blS, lineB_fin HOk.out] using this) (by simp) (by simp) (by simp)
  have HE0 : Hid (∀ u, EM w bb ab mb ma (blS S) none ([] ++ pairs [root, fin]) ([] ++ pairs [root, fin]) u → EM w bb ab mb ma (blS S) none (EQ []) (EQ []) u) := fun u hu => hu
  clear hW1 hbb hab hmb hma hg1 hE1
  go_upto_region 4 with (go_at_call 97; refine hk1.mono ?_; rintro e w2 ⟨rfl, hE2⟩)
  have HE2 := Lib.hid (HE0.out _ hE2)
  have hg2 := HH.out.below hE2.low
  have c2 := hg2.g2
  obtain ⟨D, hown, hsz, hfy, hfn, hkl⟩ := hg2.mapP
  have Hfy := Lib.hid hfy
  have Hfn := Lib.hid hfn
  have Hkl := Lib.hid hkl
  have Hsz := Lib.hid hsz
  have hown2 := hown
  clear hk1 hE2 hg2 c1 cf hfy hfn hkl hsz HE0 HSt
  go_upto_region 5 with (at_range; refine wpList_range_own _ rfl _ 35 rfl 95 34 lawN Tryd.underlying35 _ S.mp _ D rfl hown ?_; intro w3 hrg0 hg0 hs0)
  obtain ⟨r, hr⟩ : ∃ r, r = w2.heap.size := ⟨_, rfl⟩
  rw [← hr] at hrg0 ⊢
  obtain ⟨o0, ho0, hi0⟩ := ranges_it hrg0
  have hr2 : w2.heap[r]? = none := Array.getElem?_eq_none (by omega)
  have HR0 : Hid (RGQ w S bb ab mb ma r D (Maps.has D) (Maps.size D) [] o0 w3) := {
    em := EM.turn (o := .mapIter none 0 #[] 0) HE2.out (by have := HE2.out.low.size; omega) ⟨⟨_, _, _, _, rfl⟩, .inr hr2⟩ (grown_below ⟨hg0.os, hg0.tape, hg0.output, hg0.size, fun k hk => hg0.block k hk (by simp)⟩ _) ⟨ho0, hi0⟩
    rg := hrg0
    sub := fun p hp => by cases hp
    lf := fun p hp hl => by
      exfalso
      cases hf : (S.ps.find? fun q => decide (q.d.nm = p.d.nm)).map (fun p => ptr p.b) with
      | none => exact nm_find hp hf
      | some v =>
        obtain ⟨d, _, h9, _⟩ := Hfy.out p.d.nm v hf
        rw [h9] at hl
        cases hl
    cn := by rw [Hsz.out]; simp
    rN := by have := HE2.out.low.size; omega }
  clear hown hown2 hrg0 hg0 hs0 ho0 hi0 hr2 c2 hr
  go_loopw [6] (fun _ wr => ∃ (left : Lit → Bool) (cnt : Nat) (Q : List PA) (o : Obj), Hid (RGQ w S bb ab mb ma r D left cnt Q o wr)) (fun _ wr => wr.rangeLeft S.mp r)
  case atStart => exact ⟨_, _, _, _, HR0.out⟩
  case round =>
    obtain ⟨left, cnt, Q, o, hI⟩ := hrel
    clear HR0
    have hrg := hI.out.rg
    go_upto_region 6 with (at_next; refine wpList_next_ranges _ rfl _ rfl 95 lawN rdV (fun x : Value => x) (fun x : Value => x) (fun key l _ => ⟨key, rfl⟩) (fun v y _ => ⟨v, rfl⟩) S.mp r S.ps.length D _ _ rfl hrg ?_ ?_)
    · intro hc0 hl0
      have hall : ∀ p ∈ S.ps, p ∈ Q := fun p hp => hI.out.lf p hp (hl0 _)
      have HE9 : Hid (EM w bb ab mb ma (blS S) none (EQ Q) (EQ Q) wr) := hI.out.em.drop
      have HM9 := Lib.hid (EQ_mem hI.out.sub hall)
      have HL9 : Hid ((EQ Q).length ≤ 200000) := by
        have h1 := EQ_len (Q := Q) (m := 1000) (fun p hp => HLs.out p (hI.out.sub p hp))
        have h2 := hI.out.cn
        have h3 := HPs.out
        show _ ≤ _
        omega
      have cB : wr.cell? ⟨bb, 0, none⟩ = some (.map (some mb)) := cell_row HE9.out.boxB 0
      have cA : wr.cell? ⟨ab, 0, none⟩ = some (.map (some ma)) := cell_row HE9.out.boxA 0
      clear hI hrg hc0 hl0 hall hmm
      go_upto_region 8 with (fail)
      have apx : apartB [34, 35, 1002, 1003] = true := by decide
      refine wp_region_any (by kernel_rfl) ?_
      change wpAny _ _ _ _ _ _ _ (World.drew _)
      refine wpAny_inv2 (fun ll aa wx => Hid (ll.size = 4 ∧ EM w bb ab mb ma (blS S) none (EQ Q) (EQ Q) wx) ∧ ∃ (z : Nat → Value), Hid (aa = ⟨#[ptr S.g, undef, .pointer (some ⟨bb, 0, none⟩), .pointer (some ⟨ab, 0, none⟩), .func (Fn.func 97) #[] #[.pointer (some ⟨bb, 0, none⟩), .pointer (some ⟨ab, 0, none⟩)], undef, u6, .map (some mb), .map (some ma), .func (Fn.func 97) #[] #[.pointer (some ⟨bb, 0, none⟩), .pointer (some ⟨ab, 0, none⟩)], .func (Fn.func 97) #[] #[.pointer (some ⟨bb, 0, none⟩), .pointer (some ⟨ab, 0, none⟩)], ptr S.g, .pointer (some ⟨S.g, 0, none⟩), .pointer (some ⟨S.g, 1, none⟩), ptr S.fr, .pointer (some ⟨S.fr, 0, none⟩), .pointer (some ⟨S.fr, 103, none⟩), S.fcv, .tuple #[], ptr S.g, .pointer (some ⟨S.g, 0, none⟩), .pointer (some ⟨S.g, 2, none⟩), .map (some S.mp), .pointer (some ⟨r, 0, none⟩), .tuple #[.bool false], .bool false, u26, u27, u28, u29, u30, u31, u32, u33, z 34, z 35], []⟩) ∧ Holding [34, 35, 1002, 1003] [some (.map (some mb)), some (.map (some ma)), none, none] ll z) ?_ (by kernel_rfl) ?_ ?_ _ rfl _ _ ?_
      · rintro ll aa wx ⟨hI, _⟩
        exact hI.out.1
      · rintro ll aa wx ⟨hI, z, ha, hz⟩ hall
        have hx := Lib.hid hI.out.2
        have e0 : z 34 = .map (some mb) := hz 0 _ (hall 0 (by decide)) rfl
        have e1 : z 35 = .map (some ma) := hz 1 _ (hall 1 (by decide)) rfl
        clear hall hz hI 
        obtain rfl := ha.out
        clear ha
        clear apx
        have HX := Lib.hid hx.out
        have cB9 : wx.cell? ⟨bb, 0, none⟩ = some (.map (some mb)) := cell_row hx.out.boxB 0
        have cA9 : wx.cell? ⟨ab, 0, none⟩ = some (.map (some ma)) := cell_row hx.out.boxA 0
        clear hx
        go_wp2
        exact bodyPost_ret (results_two rfl _ _ bb ab _ _ rfl rfl (loadB cB9) (loadA cA9)) rfl ⟨bb, ab, mb, ma, EQ Q, rfl, HX.out, HM9.out, HL9.out⟩
      · rintro ll aa wx i ⟨hI, z, ha, hz⟩ hcl hi hu hw
        obtain rfl := ha.out
        have hsz := Lib.hid hI.out.1
        have hx := Lib.hid hI.out.2
        clear ha hI
        have hin : i < 4 := hi
        obtain rfl | rfl | rfl | rfl : i = 0 ∨ i = 1 ∨ i = 2 ∨ i = 3 := by omega
        · have cl : wx.cell? ⟨bb, 0, none⟩ = some (.map (some mb)) := cell_row hx.out.boxB 0
          refine wpOp_plain rfl rfl ?_
          go_simp
          exact ⟨⟨by simp [hsz.out], hx.out⟩, upd z 34 (.map (some mb)), (by unfold Hid; simp [upd]), hz.next apx hsz.out 0 (by decide) _ (fun _ h => Option.some.inj h)⟩
        · have cl : wx.cell? ⟨ab, 0, none⟩ = some (.map (some ma)) := cell_row hx.out.boxA 0
          refine wpOp_plain rfl rfl ?_
          go_simp
          exact ⟨⟨by simp [hsz.out], hx.out⟩, upd z 35 (.map (some ma)), (by unfold Hid; simp [upd]), hz.next apx hsz.out 1 (by decide) _ (fun _ h => Option.some.inj h)⟩
        · have e0 : z 34 = .map (some mb) := hz 0 _ (hw 0 (by kernel_rfl)) rfl
          have cl : wx.cell? ⟨bb, 0, none⟩ = some (.map (some mb)) := cell_row hx.out.boxB 0
          have fr := free_row hx.out.boxB 0
          refine wpOp_plain rfl rfl ?_
          go_simp
          exact ⟨⟨by simp [hsz.out], hx.out.setB⟩, upd z 1002 (undef), (by unfold Hid; simp [upd, e0]), hz.next apx hsz.out 2 (by decide) _ (fun _ h => by cases h)⟩
        · have e1 : z 35 = .map (some ma) := hz 1 _ (hw 1 (by kernel_rfl)) rfl
          have cl : wx.cell? ⟨ab, 0, none⟩ = some (.map (some ma)) := cell_row hx.out.boxA 0
          have fr := free_row hx.out.boxA 0
          refine wpOp_plain rfl rfl ?_
          go_simp
          exact ⟨⟨by simp [hsz.out], hx.out.setA⟩, upd z 1003 (undef), (by unfold Hid; simp [upd, e1]), hz.next apx hsz.out 3 (by decide) _ (fun _ h => by cases h)⟩
      · exact ⟨⟨rfl, HE9.out.same (Below.refl _ _).drew⟩, fun xx => (#[ptr S.g, undef, .pointer (some ⟨bb, 0, none⟩), .pointer (some ⟨ab, 0, none⟩), .func (Fn.func 97) #[] #[.pointer (some ⟨bb, 0, none⟩), .pointer (some ⟨ab, 0, none⟩)], undef, u6, .map (some mb), .map (some ma), .func (Fn.func 97) #[] #[.pointer (some ⟨bb, 0, none⟩), .pointer (some ⟨ab, 0, none⟩)], .func (Fn.func 97) #[] #[.pointer (some ⟨bb, 0, none⟩), .pointer (some ⟨ab, 0, none⟩)], ptr S.g, .pointer (some ⟨S.g, 0, none⟩), .pointer (some ⟨S.g, 1, none⟩), ptr S.fr, .pointer (some ⟨S.fr, 0, none⟩), .pointer (some ⟨S.fr, 103, none⟩), S.fcv, .tuple #[], ptr S.g, .pointer (some ⟨S.g, 0, none⟩), .pointer (some ⟨S.g, 2, none⟩), .map (some S.mp), .pointer (some ⟨r, 0, none⟩), .tuple #[.bool false], .bool false, u26, u27, u28, u29, u30, u31, u32, u33, undef, undef] : Array Value).getD xx undef, (by rfl), Holding.start⟩
    · intro x c l y1 y2 w4 hkx hkey hlx hcx hat hrg1 hlt hg1 hs1 hen
      obtain ⟨p, hp, hpl, rfl⟩ := entry_part Hfy.out Hfn.out Hkl.out hcx hat
      obtain ⟨o', ho', hi'⟩ := ranges_it hrg1
      obtain ⟨h1, h2⟩ := hI.out.em.itr r o rfl
      have hE4 := EM.turn hI.out.em hI.out.rN ⟨h2, .inl h1⟩ hg1 ⟨ho', hi'⟩
      obtain ⟨hch, hvx⟩ := chain_bl HH.out HOk.out hp
      have hcl : (chain p.d).length = p.d.lines.length + 2 := by simp [chain, own_len]
      have hlp := HLs.out p hp
      have hk := link_any hE4 p.chv (chain p.d) hch (fun v hv => (hvx v hv).1) (by omega) (by omega) (by
        have h1 := EQ_len (Q := Q) (m := 1000) (fun p hp => HLs.out p (hI.out.sub p hp))
        have h2 := hI.out.cn
        have h3 := HPs.out
        omega)
      have c3 := ((HH.out.below hE4.low).prt p hp).chn
      have HN : Hid (∀ w5, EM w bb ab mb ma (blS S) (some (r, o')) (EQ Q ++ pairs (chain p.d)) (EQ Q ++ pairs (chain p.d)) w5 → ∃ (left : Lit → Bool) (cnt : Nat) (Q : List PA) (o : Obj), RGQ w S bb ab mb ma r D left cnt Q o w5 ∧ w5.rangeLeft S.mp r < wr.rangeLeft S.mp r) := fun w5 h5 => by
        have h6 := (h5.itr r o' rfl).1
        have hmp : S.mp < w.heap.size := HH.out.mapP.lt
        have hrg5 := ranges_stay hrg1 ((h5.low.block _ hmp).trans (hE4.low.block _ hmp).symm) (h6.trans ho'.symm)
        refine ⟨_, hkx, Q ++ [p], o', ⟨by rw [EQ_snoc]; exact h5, hrg5, fun q hq => ?_, fun q hq hl => ?_, ?_, hI.out.rN⟩, ?_⟩
        · rcases List.mem_append.1 hq with hq | hq
          · exact hI.out.sub q hq
          · rw [List.mem_singleton.1 hq]; exact hp
        · rw [Bool.and_eq_false_iff] at hl
          rcases hl with hl | hl
          · exact List.mem_append.2 (.inl (hI.out.lf q hq hl))
          · have e1 : kl 95 q.d.nm = l := WideAt.sameKey_eq (by simpa using hl)
            have e2 : q.d.nm = p.d.nm := kbN.inj (e1.trans hpl.symm)
            exact List.mem_append.2 (.inr (by rw [names_inj HOk.out.adm hq hp e2]; simp))
        · have := hI.out.cn
          rw [List.length_append, List.length_singleton]
          omega
        · rw [hrg5.left_eq, hrg.left_eq]
          exact hlt
      have HC3 := Lib.hid c3
      clear hI hrg hkx hlx hcx hat hrg1 hg1 hs1 ho' hi' h1 h2 hch hvx hcl hlp hpl hp hkey hlt hE4 hmm
      go_wp2_with (go_at_call 97; refine hk.mono ?_; rintro e w5 ⟨rfl, hE5⟩)
      go_roundw
      case rel =>
        obtain ⟨a1, a2, a3, a4, a5, _⟩ := HN.out _ hE5
        exact ⟨a1, a2, a3, a4, a5⟩
      case measure =>
        obtain ⟨_, _, _, _, _, a6⟩ := HN.out _ hE5
        exact a6
end Go.Proofs.YtnjeppmpnaemlaaDoor.Grf
/- DERIVED. inOrder under way: the candidates, what is listed, how many edges still lead to each. -/
set_option maxRecDepth 100000
namespace Go.Proofs.YtnjeppmpnaemlaaDoor.Grf
open Go.RowKit Str Go.Maps
theorem nodup_len : ∀ {R V : List Vx}, R.Nodup → (∀ v ∈ R, v ∈ V) → R.length ≤ V.length := by
  intro R
  induction R with
  | nil => intro V _ _; simp
  | cons a t ih =>
    intro V hn hs
    obtain ⟨ha, hn2⟩ := List.nodup_cons.1 hn
    have hm := hs a (by simp)
    have h1 := ih (V := V.erase a) hn2 (fun v hv => (List.mem_erase_of_ne (fun (e : v = a) => ha (by rw [← e]; exact hv))).2 (hs v (by simp [hv])))
    rw [List.length_erase_of_mem hm] at h1
    have := List.length_pos_of_mem hm
    rw [List.length_cons]
    omega
theorem own_keep {w w' : World} {base n s : Nat} {t : TypeId} {v : Value} {L : List Value} (h : w.ownsRow base t s v n L) (hb : ∀ k, v.ownBlock = some k → w'.heap[k]? = w.heap[k]?) : w'.ownsRow base t s v n L := by
  obtain ⟨h1, h2⟩ := h
  refine ⟨h1, ?_⟩
  rcases h2 with h3 | ⟨g, cap, cur, h3, h4, h5, h6⟩
  · exact .inl h3
  · exact .inr ⟨g, cap, cur, h3, h4, (hb g (by rw [h3]; rfl)).trans h5, h6⟩
theorem CQ.keep {w w' : World} {rd g cap base : Nat} {bl : Vx → Nat} {R : List Vx} (h : CQ w rd g cap base bl R) (h1 : w'.heap[rd]? = w.heap[rd]?) (h2 : w'.heap[g]? = w.heap[g]?) (h3 : ∀ v ∈ R, w'.heap[bl v]? = w.heap[bl v]?) : CQ w' rd g cap base bl R :=
  ⟨h1.trans h.box, own_keep h.own (fun k hk => by
    have e : g = k := by simpa [Value.ownBlock] using hk
    rw [← e]
    exact h2), fun v hv => ⟨range_at (h.vx v hv).1 (h3 v hv), (h.vx v hv).2⟩⟩
def numF (E : List (Vx × Vx)) (f : Vx → Nat) (v : Vx) : Option Value := if cntE E [] v = 0 then none else some (.int .i64 (f v : Nat))
/-- memory while the vertices are listed; w1: the world behind edges. -/
structure IO (w1 : World) (ma : Nat) (bl : Vx → Nat) (E : List (Vx × Vx)) (f : Vx → Nat) (L R : List Vx) (rd g cap : Nat) (lv : Value) (wr : World) : Prop where
  chg : Chg [ma] w1 wr
  cq : CQ wr rd g cap w1.heap.size bl R
  hp : HP (at0 R) R.length
  nd : R.Nodup
  own : wr.ownsRow w1.heap.size 87 1 lv L.length (L.map fun v => ptr (bl v))
  apart : ∀ k, lv.ownBlock = some k → k ≠ g
  rdN : w1.heap.size ≤ rd
  ahd : ∃ na, na ≤ 200000 ∧ MapF 27 wr ma na (numF E f)
  maN : ma < w1.heap.size
section
variable {w1 : World} {ma : Nat} {bl : Vx → Nat} {E : List (Vx × Vx)} {f : Vx → Nat} {L R R' : List Vx} {rd g g' cap cap' : Nat} {lv : Value} {wr w' : World}
theorem IO.rdg (h : IO w1 ma bl E f L R rd g cap lv wr) : w1.heap.size ≤ g ∧ rd ≠ g ∧ lv.ownBlock ≠ some rd := by
  obtain ⟨C, hh, hb, _⟩ := h.cq.row
  exact ⟨hb, ne_ty h.cq.box hh (by decide), fun e => Lib.ownBlock_ne h.own h.cq.box (by decide) e⟩
/-- the candidates' own memory turns. -/
theorem IO.heap (h : IO w1 ma bl E f L R rd g cap lv wr) (hc : Chg [rd, g] wr w') (hcq : CQ w' rd g' cap' w1.heap.size bl R') (hp : HP (at0 R') R'.length) (hn : R'.Nodup) (hg : g' = g ∨ wr.heap.size ≤ g') : IO w1 ma bl E f L R' rd g' cap' lv w' := by
  obtain ⟨q1, q2, q3⟩ := h.rdg
  obtain ⟨na, hna, hA⟩ := h.ahd
  have hrdN := h.rdN
  have hmaN := h.maN
  have s1 := h.chg.size
  have blk : ∀ k, k < wr.heap.size → k ≠ rd → k ≠ g → w'.heap[k]? = wr.heap[k]? := fun k hk h1 h2 => hc.block k hk (by simp only [List.mem_cons, List.mem_nil_iff, or_false, not_or]; exact ⟨h1, h2⟩)
  refine ⟨⟨hc.os.trans h.chg.os, hc.tape.trans h.chg.tape, hc.output.trans h.chg.output, Nat.le_trans s1 hc.size, fun k hk hn => ?_⟩, hcq, hp, hn, own_keep h.own (fun k hk => ?_), fun k hk => ?_, h.rdN, ⟨na, hna, hA.stay (blk _ hA.lt (by omega) (by omega))⟩, h.maN⟩
  · exact (blk k (by omega) (by omega) (by omega)).trans (h.chg.block k hk hn)
  · exact blk k (h.own.lt k hk).2 (fun e => q3 (by rw [hk, e])) (h.apart k hk)
  · rcases hg with rfl | hg
    · exact h.apart k hk
    · have := (h.own.lt k hk).2
      omega
/-- what is listed grows. -/
theorem IO.list {w2 : World} {l : Vx} {lv' : Value} (h : IO w1 ma bl E f L R rd g cap lv wr) (l2 : Below wr.heap.size wr w2) (ho : w'.ownsRow w1.heap.size 87 1 lv' (L.length + 1) ((L.map fun v => ptr (bl v)) ++ [ptr (bl l)])) (hg : w2.grownBy w' lv.ownBlock) (loc : lv'.ownBlock = lv.ownBlock ∨ ∃ k, lv'.ownBlock = some k ∧ wr.heap.size ≤ k) : IO w1 ma bl E f (L ++ [l]) R rd g cap lv' w' := by
  obtain ⟨q1, q2, q3⟩ := h.rdg
  obtain ⟨na, hna, hA⟩ := h.ahd
  have hmaN := h.maN
  have s1 := h.chg.size
  have s2 := l2.size
  have lt : ∀ k, lv.ownBlock = some k → w1.heap.size ≤ k ∧ k < wr.heap.size := fun k hk => h.own.lt k hk
  have blk : ∀ k, k < wr.heap.size → lv.ownBlock ≠ some k → w'.heap[k]? = wr.heap[k]? := fun k hk h1 => (hg.block k (by omega) (fun e => h1 e.symm)).trans (l2.block k hk)
  have gl : g < wr.heap.size := by
    obtain ⟨C, hh, _⟩ := h.cq.row
    exact (Array.getElem?_eq_some_iff.1 hh).1
  have old : ∀ k, k < w1.heap.size → lv.ownBlock ≠ some k := fun k hk e => by have := (lt k e).1; omega
  refine ⟨⟨(hg.os.trans l2.os).trans h.chg.os, (hg.tape.trans l2.tape).trans h.chg.tape, (hg.output.trans l2.output).trans h.chg.output, by have := hg.size; omega, fun k hk hn => (blk k (by omega) (old k hk)).trans (h.chg.block k hk hn)⟩, h.cq.keep (blk rd (Array.getElem?_eq_some_iff.1 h.cq.box).1 q3) (blk g gl (fun e => h.apart g e rfl)) (fun v hv => ?_), h.hp, h.nd, ?_, fun k hk e => ?_, h.rdN, ⟨na, hna, hA.stay (blk _ hA.lt (old _ hmaN))⟩, h.maN⟩
  · have := (h.cq.vx v hv).2
    exact blk _ (by omega) (old _ this)
  · rw [List.length_append, List.length_singleton, List.map_append]; exact ho
  · rcases loc with l9 | ⟨k9, l9, h9⟩
    · rw [l9] at hk; exact h.apart k hk e
    · rw [l9] at hk
      obtain rfl := Option.some.inj hk
      omega
/-- a number of the map turns. -/
theorem IO.num {f' : Vx → Nat} {x : Vx} {s : Nat} (h : IO w1 ma bl E f L R rd g cap lv wr) (hc : Chg [ma] wr w') (hM : MapF 27 w' ma s (upd1 (numF E f) x (some (.int .i64 (f' x : Nat))))) (hs : s ≤ 200000) (hx : cntE E [] x ≠ 0) (hf : ∀ v, v ≠ x → f' v = f v) : IO w1 ma bl E f' L R rd g cap lv w' := by
  obtain ⟨q1, q2, q3⟩ := h.rdg
  have hmaN := h.maN
  have hrdN := h.rdN
  have s1 := h.chg.size
  have gl : g < wr.heap.size := by
    obtain ⟨C, hh, _⟩ := h.cq.row
    exact (Array.getElem?_eq_some_iff.1 hh).1
  have blk : ∀ k, k < wr.heap.size → k ≠ ma → w'.heap[k]? = wr.heap[k]? := fun k hk h1 => hc.block k hk (by simpa using h1)
  obtain ⟨na, hna, hA⟩ := h.ahd
  refine ⟨h.chg.trans hc, h.cq.keep (blk rd (Array.getElem?_eq_some_iff.1 h.cq.box).1 (by omega)) (blk g gl (by omega)) (fun v hv => blk _ (World.block_lt_of_cell? _ _ ((h.cq.vx v hv).1 0 _ (List.getElem?_eq_getElem (by rw [Array.length_toList, v.c_size]; decide)))) (fun e => ?_)), h.hp, h.nd, own_keep h.own (fun k hk => blk k (h.own.lt k hk).2 (by have := (h.own.lt k hk).1; omega)), h.apart, h.rdN, ⟨s, hs, ?_⟩, h.maN⟩
  · have h9 := (h.cq.vx v hv).1 0 _ (List.getElem?_eq_getElem (by rw [Array.length_toList, v.c_size]; decide))
    obtain ⟨D, ⟨es, clock, hb, _⟩, _⟩ := hA
    rw [e] at h9
    simp [World.cell?, hb] at h9
  · have e : numF E f' = upd1 (numF E f) x (some (.int .i64 (f' x : Nat))) := by
      funext v
      unfold upd1 numF
      by_cases hv : v = x
      · rw [if_pos hv, hv, if_neg hx]
      · rw [if_neg hv, hf v hv]
    rw [e]; exact hM
/-- a world with more blocks alone. -/
theorem IO.below (h : IO w1 ma bl E f L R rd g cap lv wr) (hb : Below wr.heap.size wr w') : IO w1 ma bl E f L R rd g cap lv w' := by
  obtain ⟨na, hna, hA⟩ := h.ahd
  exact ⟨h.chg.trans (Chg.of_below hb), h.cq.below hb, h.hp, h.nd, own_stays h.own hb, h.apart, h.rdN, ⟨na, hna, hA.stay (hb.block _ hA.lt)⟩, h.maN⟩
theorem IO.eqf (h : IO w1 ma bl E f L R rd g cap lv wr) {f' : Vx → Nat} (e : ∀ v, f' v = f v) : IO w1 ma bl E f' L R rd g cap lv wr := by
  obtain rfl : f' = f := funext e
  exact h
end
end Go.Proofs.YtnjeppmpnaemlaaDoor.Grf
