/- DERIVED. Texts of ours, merged: XGrfEntry XGrfLink. -/
import Derived.Test.YtnjeppmpnaemlaaDoorMrk12
import Derived.Test.YtnjeppmpnaemlaaDoorMrk9
/- DERIVED. An entry of a map taken, and stored to: m[k] op= v. -/
set_option maxRecDepth 100000
namespace Go.Proofs.YtnjeppmpnaemlaaDoor.Grf
open Go.RowKit Str Go.Maps
open Go.ChangeMaps (setBlock)
theorem chg_setBlock {w : World} {b : Nat} {es : Array MapEntry} {clock : Nat} (hb : w.heap[b]? = some (.map es clock)) (o : Obj) : Chg [b] w (setBlock w b o) :=
  ⟨rfl, rfl, rfl, by simp [setBlock], fun k _ hk => Go.ChangeMaps.heap_setBlock_other hb o (fun e => hk (by simp [e]))⟩
/-- 'm[k]' as a place: what it holds, and a store to it. -/
theorem MapF.entry {k t e : TypeId} (B : KB k) (ht : Tryd.prog.underlying t = some (.map k e)) {w : World} {b s : Nat} {f : Vx → Option Value} (h : MapF k w b s f) (hs : s < 100000000) {z : Value} (hz : ∀ u : World, (zeroValue e).run Tryd.prog u = .ok z u) (hel : ElV z) (x : Vx) :
    ∃ (st : Nat) (w1 : World), (Instr.mapEntry t (.map (some b)) (.agg x.c)).run Tryd.prog w = .ok (.tuple #[(f x).getD z, .int .i64 st]) w1 ∧ Chg [b] w w1 ∧ MapF k w1 b (if (f x).isSome then s else s + 1) (upd1 f x (some ((f x).getD z))) ∧
      ∀ (w2 : World) (val : Value), w2.heap[b]? = w1.heap[b]? → ElV val → ∃ w3, (Instr.entryStore t (.map (some b)) (.int .i64 st) val).run Tryd.prog w2 = .ok () w3 ∧ MapF k w3 b (if (f x).isSome then s else s + 1) (upd1 f x (some val)) ∧ Chg [b] w2 w3 := by
  have hlook := h.look B ht (hz w) hel x
  obtain ⟨D, ⟨es, clock, hb, F, _, hD⟩, _, hfy, hfn, _⟩ := id h
  obtain ⟨v0, st, es1, clock1, hrun, hv0, hst⟩ := WideElems.entry_then_store B.lawK ht hz hb F (B.at x)
  have hpw := ((MapKept.stamped_iff es clock).1 F.stamped).2.2
  have ev : v0 = (f x).getD z := by
    rcases Maps.fit_look false B.law ht (hz w) hb F (B.at x) with ⟨hl, hno, _⟩ | ⟨e1, y, he1, hk1, hl, _⟩
    · rw [hlook] at hl
      have e9 : (f x).getD z = z := by simpa using hl
      rcases hv0 with ⟨e0, he0, hk0, rfl⟩ | ⟨_, rfl⟩
      · exact absurd hk0 (hno e0 he0)
      · exact e9.symm
    · rw [hlook] at hl
      have e9 : (f x).getD z = e1.val := by simpa using hl
      rcases hv0 with ⟨e0, he0, hk0, rfl⟩ | ⟨hno, _⟩
      · rw [e9, entry_eq_of_key hpw he0 he1 (hk0.trans hk1.symm)]
      · exact absurd hk1 (hno e1 he1)
  subst ev
  have hb1 := Go.ChangeMaps.heap_setBlock_same hb (.map es1 clock1)
  have hput : ∀ (w2 : World) (val : Value), w2.heap[b]? = some (.map es1 clock1) → ElV val → ∃ w3, (Instr.entryStore t (.map (some b)) (.int .i64 st) val).run Tryd.prog w2 = .ok () w3 ∧ MapF k w3 b (if (f x).isSome then s else s + 1) (upd1 f x (some val)) ∧ Chg [b] w2 w3 := fun w2 val h2 hval => by
    obtain ⟨es', clock', h3, h4⟩ := hst w2 val h2
    obtain ⟨w', h5, h6, _⟩ := h.put B ht hs x hval
    rw [h4] at h5
    have e5 : setBlock w b (.map es' clock') = w' := by simpa using h5
    refine ⟨_, h3, h6.stay ?_, chg_setBlock h2 _⟩
    rw [← e5, Go.ChangeMaps.heap_setBlock_same h2, Go.ChangeMaps.heap_setBlock_same hb]
  have hM1 : MapF k (setBlock w b (.map es1 clock1)) b (if (f x).isSome then s else s + 1) (upd1 f x (some ((f x).getD z))) := by
    rcases B.lawK.find w (B.at x) es.toList F.keys with ⟨h1, h2⟩ | ⟨j, e0, h1, h2, h3⟩
    · have hf : f x = none := by
        cases hf : f x with
        | none => rfl
        | some u =>
          obtain ⟨d, _, hh, _⟩ := hfy x u hf
          rcases Maps.fit_look false B.law ht (hz w) hb F (B.at x) with ⟨_, _, hat⟩ | ⟨e1, y, he1, hk1, _⟩
          · rw [hD] at hh
            exact absurd hh (by rw [Bool.not_eq_true]; exact Maps.has_false_of_atKey hat)
          · exact absurd hk1 (h2 e1 he1)
      rw [hf]
      simp only [Option.isSome_none, Bool.false_eq_true, if_false, Option.getD_none]
      obtain ⟨w', h5, h6, _⟩ := h.put B ht hs x hel
      rw [hf] at h6
      simp only [Option.isSome_none, Bool.false_eq_true, if_false] at h6
      have e1 : (Instr.mapUpdate t (.map (some b)) (.agg x.c) z).run Tryd.prog w = .ok () (setBlock w b (.map (es.push ⟨.agg x.c, z, clock⟩) (clock + 1))) := by
        simp [Instr.mapUpdate, run_underlying ht, MapKept.run_getObj_map hb, B.lawK.check w false (B.at x), h1, MapKept.run_setObj_map _ hb, Result.andThen, setBlock]
      have e2 : (Instr.mapEntry t (.map (some b)) (.agg x.c)).run Tryd.prog w = .ok (.tuple #[z, goInt clock]) (setBlock w b (.map (es.push ⟨.agg x.c, z, clock⟩) (clock + 1))) := by
        simp [Instr.mapEntry, run_underlying ht, MapKept.run_getObj_map hb, B.lawK.check w false (B.at x), h1, hz, MapKept.run_setObj_map _ hb, Result.andThen, setBlock]
      rw [e1] at h5
      rw [e2] at hrun
      have e5 : setBlock w b (.map (es.push ⟨.agg x.c, z, clock⟩) (clock + 1)) = w' := by simpa using h5
      have e6 : setBlock w b (.map (es.push ⟨.agg x.c, z, clock⟩) (clock + 1)) = setBlock w b (.map es1 clock1) := by
        have := hrun
        simp only [Result.ok.injEq] at this
        exact this.2
      rw [← e6, e5]
      exact h6
    · have hj : es[j]? = some e0 := by simpa using h2
      have hf : (f x).isSome = true := by
        cases hf : f x with
        | some u => rfl
        | none =>
          have hn := hfn x hf
          rcases Maps.fit_look false B.law ht (hz w) hb F (B.at x) with ⟨_, hno, _⟩ | ⟨e1, y, _, _, _, _, hat, _⟩
          · exact absurd h3 (hno e0 (List.mem_of_getElem? h2))
          · rw [hD, Maps.has_true_of_atKey hat] at hn
            cases hn
      have hsame : es.modify j (fun e' => { e' with key := Value.agg x.c }) = es := by
        apply Array.ext'
        rw [Array.toList_modify]
        apply List.ext_getElem?
        intro i
        rw [List.getElem?_modify]
        by_cases hij : j = i
        · subst hij
          rw [h2]
          cases e0
          simp only at h3
          simp [h3]
        · simp [hij]
      have e2 : (Instr.mapEntry t (.map (some b)) (.agg x.c)).run Tryd.prog w = .ok (.tuple #[e0.val, goInt e0.born]) (setBlock w b (.map es clock)) := by
        simp [Instr.mapEntry, run_underlying ht, MapKept.run_getObj_map hb, B.lawK.check w false (B.at x), h1, hj, h3, B.lawK.stays w (B.at x), hsame, MapKept.run_setObj_map _ hb, Result.andThen, setBlock]
      rw [e2] at hrun
      have e6 : setBlock w b (.map es clock) = setBlock w b (.map es1 clock1) := by
        have := hrun
        simp only [Result.ok.injEq] at this
        exact this.2
      rw [← e6, if_pos hf]
      obtain ⟨u, hu⟩ := Option.isSome_iff_exists.1 hf
      have e7 : upd1 f x (some ((f x).getD z)) = f := by
        funext y
        unfold upd1
        by_cases hy : y = x
        · rw [if_pos hy, hy, hu]; rfl
        · rw [if_neg hy]
      rw [e7]
      exact h.stay ((Go.ChangeMaps.heap_setBlock_same hb _).trans hb.symm)
  exact ⟨st, _, hrun, chg_setBlock hb _, hM1, fun w2 val h2 hval => hput w2 val (h2.trans hb1) hval⟩
end Go.Proofs.YtnjeppmpnaemlaaDoor.Grf
/- DERIVED. edges' closure: a chain's edges into the two maps. Written by mklink.py. -/
set_option maxRecDepth 100000
namespace Go.Proofs.YtnjeppmpnaemlaaDoor.Grf
open Go.RowKit Str Go.Maps
attribute [local go_sem ↓ high] loadAtVx
/-- the two maps of edges, under way: those of E behind, those of E2 ahead. -/
structure EM (w0 : World) (bb ab mb ma : Nat) (bl : Vx → Nat) (it : Option (Nat × Obj)) (E E2 : List (Vx × Vx)) (w : World) : Prop where
  boxB : w.heap[bb]? = some (.cells #[.map (some mb)] 129 (0, 0))
  boxA : w.heap[ab]? = some (.cells #[.map (some ma)] 130 (0, 0))
  low : Below w0.heap.size w0 w
  mbN : w0.heap.size ≤ mb
  maN : w0.heap.size ≤ ma
  ne : mb ≠ ma
  itr : ∀ r o, it = some (r, o) → w.heap[r]? = some o ∧ ∃ a b c d, o = .mapIter a b c d
  out : ∃ (sv : Vx → Value) (nb : Nat), nb ≤ E.length ∧ MapF 27 w mb nb (fun v => if outs E v = [] then none else some (sv v)) ∧ (∀ v, outs E v ≠ [] → w.ownsRow w0.heap.size 87 1 (sv v) (outs E v).length ((outs E v).map fun x => ptr (bl x))) ∧
    (∀ u v, u ≠ v → outs E u ≠ [] → outs E v ≠ [] → ∀ k, (sv u).ownBlock = some k → (sv v).ownBlock ≠ some k)
  ahd : ∃ na, na ≤ E2.length ∧ MapF 27 w ma na (fun v => if cntE E2 [] v = 0 then none else some (.int .i64 (cntE E2 [] v : Nat)))
theorem own_pos {w : World} {base n s : Nat} {t : TypeId} {v : Value} {L : List Value} (h : w.ownsRow base t s v n L) (hn : 0 < n) : ∃ g c, v = .slice (some ⟨g, 0, none⟩) n c ∧ base ≤ g ∧ ∃ C, w.heap[g]? = some (.cells C t (0, 0)) := by
  rcases h.2 with ⟨_, h0⟩ | ⟨g, cap, cur, rfl, hb, hh, _⟩
  · omega
  · exact ⟨g, cap, rfl, hb, cur, hh⟩
theorem grown_chg {w w' : World} {b : Nat} (h : Chg [b] w w') : w.grownBy w' (some b) := ⟨h.os, h.tape, h.output, h.size, fun k hk hn => h.block k hk (fun e => hn (by rw [List.mem_singleton.1 e]))⟩
theorem grown_below {w w' : World} (h : Below w.heap.size w w') (r : Option Nat) : w.grownBy w' r := ⟨h.os, h.tape, h.output, h.size, fun k hk _ => h.block k hk⟩
theorem map_grown {k : TypeId} {w w' : World} {b s : Nat} {f : Vx → Option Value} (h : MapF k w b s f) {r : Option Nat} (hg : w.grownBy w' r) (hr : r ≠ some b) : MapF k w' b s f := h.stay (hg.block b h.lt (fun e => hr e.symm))
theorem own_mapF {w : World} {base n s t b m : Nat} {v : Value} {L : List Value} {f : Vx → Option Value} {k : TypeId} (h : w.ownsRow base t s v n L) (hm : MapF k w b m f) : v.ownBlock ≠ some b := fun e => by
  rcases h.2 with ⟨rfl, _⟩ | ⟨g, cap, cur, rfl, _, hg, _⟩
  · simp [Value.ownBlock] at e
  · simp only [Value.ownBlock, Option.some.injEq] at e
    rw [e] at hg
    exact hm.ne hg rfl
theorem it_map {k : TypeId} {w : World} {b s r : Nat} {f : Vx → Option Value} {k1 : Option Nat} {k2 : Nat} {k3 : Array Nat} {k4 : Nat} (h : MapF k w b s f) (hr : w.heap[r]? = some (.mapIter k1 k2 k3 k4)) : r ≠ b := fun e => by
  obtain ⟨D, ⟨es, clock, hb, _⟩, _⟩ := h
  rw [e, hb] at hr
  cases hr
theorem it_own {w : World} {base n s r : Nat} {t : TypeId} {v : Value} {L : List Value} {k1 : Option Nat} {k2 : Nat} {k3 : Array Nat} {k4 : Nat} (h : w.ownsRow base t s v n L) (hr : w.heap[r]? = some (.mapIter k1 k2 k3 k4)) : v.ownBlock ≠ some r := fun e => by
  rcases h.2 with ⟨rfl, _⟩ | ⟨g, cap, cur, rfl, _, hg, _⟩
  · simp [Value.ownBlock] at e
  · simp only [Value.ownBlock, Option.some.injEq] at e
    rw [e, hr] at hg
    cases hg
/-- one edge more behind. -/
theorem EM.step1 {w0 w W1 w2 w3 w4 : World} {bb ab mb ma nb : Nat} {bl : Vx → Nat} {it : Option (Nat × Obj)} {E E2 : List (Vx × Vx)} {sv : Vx → Value} (h : EM w0 bb ab mb ma bl it E E2 w) (hnb : nb ≤ E.length)
    (hrow : ∀ v, outs E v ≠ [] → w.ownsRow w0.heap.size 87 1 (sv v) (outs E v).length ((outs E v).map fun x => ptr (bl x)))
    (hdis : ∀ u v, u ≠ v → outs E u ≠ [] → outs E v ≠ [] → ∀ k, (sv u).ownBlock = some k → (sv v).ownBlock ≠ some k)
    (hm : MapF 27 w mb nb (fun v => if outs E v = [] then none else some (sv v)))
    (a b : Vx) {v0 v' : Value} (hv0 : v0 = ((fun v => if outs E v = [] then none else some (sv v)) a).getD nils) (l1 : Below w.heap.size w W1) (c2 : Chg [mb] W1 w2)
    (own3 : w3.ownsRow w0.heap.size 87 1 v' ((outs E a).length + 1) (((outs E a).map fun x => ptr (bl x)) ++ [ptr (bl b)])) (g3 : w2.grownBy w3 v0.ownBlock) (loc : v'.ownBlock = v0.ownBlock ∨ v'.ownBlock = some w2.heap.size)
    (hM : MapF 27 w4 mb (if ((fun v => if outs E v = [] then none else some (sv v)) a).isSome then nb else nb + 1) (upd1 (fun v => if outs E v = [] then none else some (sv v)) a (some v'))) (c4 : Chg [mb] w3 w4) : EM w0 bb ab mb ma bl it (E ++ [(a, b)]) E2 w4 := by
  have hv0b : v0.ownBlock = none ∨ (outs E a ≠ [] ∧ v0 = sv a) := by
    by_cases e : outs E a = []
    · left; rw [hv0]; simp [e, Value.ownBlock]
    · right; exact ⟨e, by rw [hv0]; simp [e]⟩
  have v0n : ∀ {c T : Nat} {C : Array Value}, w.heap[c]? = some (.cells C T (0, 0)) → T ≠ 87 → v0.ownBlock ≠ some c := fun {c T C} hc hT e => by
    rcases hv0b with h0 | ⟨h1, h2⟩
    · rw [h0] at e; cases e
    · rw [h2] at e
      exact Lib.ownBlock_ne (hrow a h1) hc hT e
  have v0m : ∀ {c m : Nat} {f : Vx → Option Value}, MapF 27 w c m f → v0.ownBlock ≠ some c := fun {c m f} hc e => by
    rcases hv0b with h0 | ⟨h1, h2⟩
    · rw [h0] at e; cases e
    · rw [h2] at e
      exact own_mapF (hrow a h1) hc e
  have v0lt : ∀ k, v0.ownBlock = some k → w0.heap.size ≤ k ∧ k < w.heap.size := fun k e => by
    rcases hv0b with h0 | ⟨h1, h2⟩
    · rw [h0] at e; cases e
    · rw [h2] at e
      exact (hrow a h1).lt k e
  have s1 := l1.size
  have s2 := c2.size
  have s3 := g3.size
  have blk : ∀ c, c < w.heap.size → c ≠ mb → v0.ownBlock ≠ some c → w4.heap[c]? = w.heap[c]? := fun c hc h1 h2 =>
    (c4.block c (by omega) (by simpa using h1)).trans ((g3.block c (by omega) (fun e => h2 e.symm)).trans ((c2.block c (by omega) (by simpa using h1)).trans (l1.block c hc)))
  have lt : ∀ {c : Nat} {o : Obj}, w.heap[c]? = some o → c < w.heap.size := fun {c o} hc => (Array.getElem?_eq_some_iff.1 hc).1
  obtain ⟨na, hna, hA⟩ := h.ahd
  refine ⟨?_, ?_, ?_, h.mbN, h.maN, h.ne, fun r o e => ?_, ?_, na, hna, hA.stay (blk _ hA.lt (fun e => h.ne e.symm) (v0m hA))⟩
  · exact (blk _ (lt h.boxB) (hm.ne h.boxB) (v0n h.boxB (by decide))).trans h.boxB
  · exact (blk _ (lt h.boxA) (hm.ne h.boxA) (v0n h.boxA (by decide))).trans h.boxA
  · refine h.low.trans ⟨c4.os.trans (g3.os.trans (c2.os.trans l1.os)), c4.tape.trans (g3.tape.trans (c2.tape.trans l1.tape)), c4.output.trans (g3.output.trans (c2.output.trans l1.output)), by have := c4.size; omega, fun c hc => ?_⟩
    have := h.low.size
    refine blk c (by omega) (by have := h.mbN; omega) (fun e => ?_)
    have := (v0lt c e).1
    omega
  · obtain ⟨h1, k1, k2, k3, k4, rfl⟩ := h.itr r o e
    refine ⟨(blk r (lt h1) (it_map hm h1) (fun e9 => ?_)).trans h1, _, _, _, _, rfl⟩
    rcases hv0b with h0 | ⟨h7, h8⟩
    · rw [h0] at e9; cases e9
    · rw [h8] at e9
      exact it_own (hrow a h7) h1 e9
  · have hm3 : v'.ownBlock ≠ some mb := fun e => by
      rcases loc with l | l
      · rw [l] at e; exact v0m hm e
      · rw [l] at e
        have h1 := hm.lt
        simp only [Option.some.injEq] at e
        omega
    refine ⟨fun v => if v = a then v' else sv v, if ((fun v => if outs E v = [] then none else some (sv v)) a).isSome then nb else nb + 1, ?_, ?_, fun v hv => ?_, fun u v hne hu hv k hk => ?_⟩
    · rw [List.length_append, List.length_singleton]; split <;> omega
    · have e : (fun v => if outs (E ++ [(a, b)]) v = [] then none else some (if v = a then v' else sv v)) = upd1 (fun v => if outs E v = [] then none else some (sv v)) a (some v') := by
        funext v
        unfold upd1
        rw [outs_snoc]
        by_cases hv : v = a
        · simp [hv]
        · simp [hv]
      rw [e]; exact hM
    · by_cases e : v = a
      · subst e
        simp only [if_true]
        rw [outs_snoc, if_pos rfl, List.length_append, List.length_singleton, List.map_append]
        exact World.ownsRow.kept own3 (grown_chg c4) (.inr hm3)
      · have ho : outs E v ≠ [] := by rw [outs_snoc, if_neg e] at hv; exact hv
        simp only [e, if_false]
        rw [outs_snoc, if_neg e]
        have k1 := own_stays (hrow v ho) l1
        have k2 := World.ownsRow.kept k1 (grown_chg c2) (.inr (own_mapF (hrow v ho) hm))
        have k3 : w3.ownsRow w0.heap.size 87 1 (sv v) (outs E v).length ((outs E v).map fun x => ptr (bl x)) := by
          refine World.ownsRow.kept k2 g3 ?_
          obtain ⟨g, c, hg, _⟩ := own_pos (hrow v ho) (List.length_pos_iff.2 ho)
          right
          rw [hg]
          intro e9
          rcases hv0b with h0 | ⟨h1, h2⟩
          · rw [h0] at e9; simp [Value.ownBlock] at e9
          · rw [h2] at e9
            exact hdis a v (fun e => by simp_all) h1 ho g e9.symm (by rw [hg]; rfl)
        exact World.ownsRow.kept k3 (grown_chg c4) (.inr (own_mapF (hrow v ho) hm))
    · have new : ∀ x, x ≠ a → outs E x ≠ [] → ∀ k, (sv x).ownBlock = some k → v'.ownBlock ≠ some k := fun x hx hox k hk e9 => by
        have hlt := ((hrow x hox).lt k hk).2
        rcases loc with l | l
        · rw [l] at e9
          rcases hv0b with h0 | ⟨h1, h2⟩
          · rw [h0] at e9; cases e9
          · rw [h2] at e9
            exact hdis x a hx hox h1 k hk e9
        · rw [l] at e9
          simp only [Option.some.injEq] at e9
          omega
      rw [outs_snoc] at hu hv
      by_cases e1 : u = a
      · have e2 : v ≠ a := fun e => hne (e1.trans e.symm)
        simp only [e1, e2, if_true, if_false] at hk hv ⊢
        exact fun e => new v e2 hv k e hk
      · by_cases e2 : v = a
        · simp only [e1, e2, if_true, if_false] at hk hu ⊢
          exact new u e1 hu k hk
        · simp only [e1, e2, if_false] at hk hu hv ⊢
          exact hdis u v hne hu hv k hk
/-- one edge more ahead. -/
theorem EM.step2 {w0 w w4 : World} {bb ab mb ma na : Nat} {bl : Vx → Nat} {it : Option (Nat × Obj)} {E E2 : List (Vx × Vx)} (h : EM w0 bb ab mb ma bl it E E2 w) (hna : na ≤ E2.length) (a b : Vx)
    (hm : MapF 27 w ma na (fun v => if cntE E2 [] v = 0 then none else some (.int .i64 (cntE E2 [] v : Nat))))
    (hM : MapF 27 w4 ma (if ((fun v => if cntE E2 [] v = 0 then none else some (Value.int .i64 (cntE E2 [] v : Nat))) b).isSome then na else na + 1) (upd1 (fun v => if cntE E2 [] v = 0 then none else some (.int .i64 (cntE E2 [] v : Nat))) b (some (.int .i64 ((cntE E2 [] b + 1 : Nat) : Int))))) (c4 : Chg [ma] w w4) : EM w0 bb ab mb ma bl it E (E2 ++ [(a, b)]) w4 := by
  obtain ⟨sv, nb, hnb, hB, hrow, hdis⟩ := h.out
  refine ⟨c4.at h.boxB (by simpa using hm.ne h.boxB), c4.at h.boxA (by simpa using hm.ne h.boxA), c4.below h.low h.low.size (by simpa using h.maN), h.mbN, h.maN, h.ne, fun r o e => ?_, ⟨sv, nb, hnb, hB.stay (c4.block _ hB.lt (by simpa using h.ne)), fun v hv => World.ownsRow.kept (hrow v hv) (grown_chg c4) (.inr (own_mapF (hrow v hv) hm)), hdis⟩, ?_⟩
  · obtain ⟨h1, k1, k2, k3, k4, rfl⟩ := h.itr r o e
    exact ⟨c4.at h1 (by simpa using it_map hm h1), _, _, _, _, rfl⟩
  have e : (fun v => if cntE (E2 ++ [(a, b)]) [] v = 0 then none else some (Value.int .i64 (cntE (E2 ++ [(a, b)]) [] v : Nat))) = upd1 (fun v => if cntE E2 [] v = 0 then none else some (.int .i64 (cntE E2 [] v : Nat))) b (some (.int .i64 ((cntE E2 [] b + 1 : Nat) : Int))) := by
    funext v
    unfold upd1
    rw [cntE_snoc _ _ _ _ _ (by simp)]
    by_cases hv : v = b
    · simp [hv]
    · simp [hv]
  rw [← e] at hM
  exact ⟨_, by rw [List.length_append, List.length_singleton]; split <;> omega, hM⟩
/-- an entry taken out of a map, and what a store to it does. -/
def EntQ (t : TypeId) (b s : Nat) (f : Vx → Option Value) (x : Vx) (z : Value) (w : World) : Prop := ∃ (v0 : Value) (st : Nat), z = .tuple #[v0, .int .i64 st] ∧ ∀ val, ElV val → ∃ w3, (Instr.entryStore t (.map (some b)) (.int .i64 st) val).run Tryd.prog w = .ok () w3 ∧ MapF 27 w3 b s (upd1 f x (some val)) ∧ Chg [b] w w3
def StQ (t : TypeId) (b s : Nat) (f : Vx → Option Value) (x : Vx) (z : Value) (w : World) : Prop := ∃ (st : Nat), z = .int .i64 st ∧ ∀ val, ElV val → ∃ w3, (Instr.entryStore t (.map (some b)) (.int .i64 st) val).run Tryd.prog w = .ok () w3 ∧ MapF 27 w3 b s (upd1 f x (some val)) ∧ Chg [b] w w3
def MapQ (b s : Nat) (f : Vx → Option Value) (W : World) (_ : Value) (w : World) : Prop := MapF 27 w b s f ∧ Chg [b] W w
/-- the region of an operation and store: mapEntry is its operation 7, the store its operation 9. -/
def RelM (W : World) (b : Nat) (P : World → Prop) (ll : Array Bool) (wx : World) : Prop := Chg [b] W wx ∧ (ll.getD 9 false = false → P wx) ∧ (ll.getD 7 false = false → Below W.heap.size W wx)
theorem RelM.same {W wx : World} {b i : Nat} {P : World → Prop} {ll : Array Bool} (h : RelM W b P ll wx) : RelM W b P (ll.setIfInBounds i true) wx := ⟨h.1, fun hl => h.2.1 (setC_false hl), fun hl => h.2.2 (setC_false hl)⟩
theorem RelM.ent {W wx w' : World} {b : Nat} {P : World → Prop} {ll : Array Bool} (h : RelM W b P ll wx) (hc : Chg [b] wx w') (hP : P w') (hs : 7 < ll.size) : RelM W b P (ll.setIfInBounds 7 true) w' := ⟨h.1.trans hc, fun _ => hP, fun hl => by simp [hs] at hl⟩
theorem RelM.sto {W wx w' : World} {b : Nat} {P : World → Prop} {ll : Array Bool} (h : RelM W b P ll wx) (hc : Chg [b] wx w') (hs : 9 < ll.size) (h7 : ll.getD 7 false = true) : RelM W b P (ll.setIfInBounds 9 true) w' := ⟨h.1.trans hc, fun hl => by simp [hs] at hl, fun hl => by have := setC_false hl; rw [h7] at this; cases this⟩
theorem zeroI (w : World) : (zeroValue 3).run Tryd.prog w = .ok (.int .i64 0) w := by kernel_rfl
theorem zeroS (w : World) : (zeroValue 88).run Tryd.prog w = .ok nils w := by kernel_rfl
def TA : TypeId := 130
/-- a number of a map of numbers, as the map tells it. -/
def LookA (ma : Nat) (x : Vx) (c : Int) (w : World) : Prop := (Instr.lookup 130 (.map (some ma)) (.agg x.c) false).run Tryd.prog w = .ok (.int .i64 c) w
theorem MapF.entA {w : World} {ma na : Nat} {f : Vx → Option Value} (h : MapF 27 w ma na f) (hs : na < 100000000) (x : Vx) (c : Int) (hc : (f x).getD (.int .i64 0) = .int .i64 c) :
    ∃ (v0 : Value) (st : Nat) (w1 : World), (Instr.mapEntry 130 (.map (some ma)) (.agg x.c)).run Tryd.prog w = .ok (.tuple #[v0, .int .i64 st]) w1 ∧ Chg [ma] w w1 ∧ LookA ma x c w1 ∧
      EntQ 130 ma (if (f x).isSome then na else na + 1) f x (.tuple #[v0, .int .i64 st]) w1 := by
  obtain ⟨st, w1, h1, h2, h3, h4⟩ := h.entry kbV Tryd.underlying130 hs zeroI (.inr (.inr (.inl ⟨0, rfl⟩))) x
  refine ⟨_, st, w1, h1, h2, ?_, _, st, rfl, fun val hv => h4 w1 val rfl hv⟩
  have := h3.look kbV Tryd.underlying130 (zeroI w1) (.inr (.inr (.inl ⟨0, rfl⟩))) x
  rw [upd1_same] at this
  unfold LookA
  rw [this, hc]
  rfl
theorem MapF.lookA {w : World} {ma na : Nat} {f : Vx → Option Value} (h : MapF 27 w ma na f) (x : Vx) (c : Int) (hc : (f x).getD (.int .i64 0) = .int .i64 c) : LookA ma x c w := by
  have := h.look kbV Tryd.underlying130 (zeroI w) (.inr (.inr (.inl ⟨0, rfl⟩))) x
  unfold LookA
  rw [this, hc]
theorem pairs_get {vs : List Vx} {k : Nat} {a b : Vx} (h1 : vs[k]? = some a) (h2 : vs[k + 1]? = some b) : (pairs vs)[k]? = some (a, b) := by
  induction vs generalizing k with
  | nil => simp at h1
  | cons x t ih =>
    cases t with
    | nil => simp at h2
    | cons y u =>
      cases k with
      | zero => simp at h1 h2; simp [pairs, h1, h2]
      | succ k => rw [pairs, List.getElem?_cons_succ]; exact ih (by simpa using h1) (by simpa using h2)
theorem pairs_len : ∀ vs : List Vx, (pairs vs).length = vs.length - 1
  | [] => rfl
  | [_] => rfl
  | x :: y :: u => by rw [pairs, List.length_cons, pairs_len (y :: u)]; simp
theorem wrap_succ {c : Nat} (h : c ≤ 700000) : wrap64 ((c : Int) + 1) = ((c + 1 : Nat) : Int) ∧ IntKind.i64.wrap ((c : Int) + 1) = ((c + 1 : Nat) : Int) := by
  have h0 : IntKind.i64.wrap ((c : Int) + 1) = (c : Int) + 1 := IntWalk.i64_in _ (by omega)
  exact ⟨by unfold wrap64; omega, h0⟩
set_option maxHeartbeats 8000000 in
theorem link_any {w0 w : World} {bb ab mb ma : Nat} {bl : Vx → Nat} {it : Option (Nat × Obj)} {E : List (Vx × Vx)} (h : EM w0 bb ab mb ma bl it E E w) (chv : Value) (vs : List Vx) (hch : Ptrs w0 chv (vs.map bl)) (hvx : ∀ v ∈ vs, w0.rangeAt (bl v) 0 v.c.toList) (hn : vs.length ≤ 100000) (h2 : 2 ≤ vs.length) (hE : E.length ≤ 500000) :
    Calls Tryd.prog 97 #[chv, ptr bb, ptr ab] w fun e w' => e = .returned (.tuple #[]) ∧ EM w0 bb ab mb ma bl it (E ++ pairs vs) (E ++ pairs vs) w' := by
  obtain ⟨g, cap, rfl, hcap, hg, hcell⟩ := hch
  obtain ⟨n, hN⟩ : ∃ n, vs.length = n + 1 := ⟨vs.length - 1, by omega⟩
  rw [List.length_map, hN] at hcap
  have HH := Lib.hid h
  have HV := Lib.hid hvx
  have HC : Hid (∀ (j : Nat) (v : Vx), vs[j]? = some v → w0.cell? ⟨g, j, none⟩ = some (ptr (bl v))) := fun j v hj => hcell j (bl v) (by rw [List.getElem?_map, hj]; rfl)
  have HG := Lib.hid hg
  have HN := Lib.hid hN
  have HE := Lib.hid hE
  rw [List.length_map, hN]
  have hn6 : n ≤ 100000 := by omega
  have hsl : (1 : Int) ≤ ((n + 1 : Nat) : Int) := by omega
  have hcI : ((n + 1 : Nat) : Int) ≤ cap := by omega
  have hs1 : ((n + 1 : Nat) : Int) - 1 = (n : Int) := by omega
  have hs2 : ((n + 1 : Nat) : Int).toNat - 1 = n := by omega
  have hcI2 : (n : Int) ≤ ((cap - 1 : Nat) : Int) := by omega
  have hcI3 : (1 : Int) ≤ cap := by omega
  have hc1 : ¬ cap = 1 := by omega
  clear h hvx hcell hg hN hn h2 hE
  generalize hm : n + 1 = m at *
  have hmn : m - 1 = n := by omega
  go_enter Tryd.func97, Tryd.ntmps97
  go_upto_region 1 with (fail)
  go_loopw [10] (fun i wr => ∃ k : Nat, k ≤ n ∧ i = .int .i64 k ∧ Hid (EM w0 bb ab mb ma bl it (E ++ (pairs vs).take k) (E ++ (pairs vs).take k) wr)) (fun i _ => n - (intOf i).toNat)
  case atStart => exact ⟨0, Nat.zero_le _, rfl, by rw [List.take_zero, List.append_nil]; exact HH.out⟩
  case round =>
    obtain ⟨k, hk, rfl, hI⟩ := hrel
    clear HH
    by_cases hlt : k < n
    · have hltI : (k : Int) < n := by omega
      have hk0 : 0 ≤ (k : Int) := by omega
      have hkm : (k : Int) < m := by omega
      obtain ⟨a, ha⟩ : ∃ a, vs[k]? = some a := ⟨_, List.getElem?_eq_getElem (by have := HN.out; omega)⟩
      obtain ⟨b, hb⟩ : ∃ b, vs[k + 1]? = some b := ⟨_, List.getElem?_eq_getElem (by have := HN.out; omega)⟩
      have ca := (hI.out.low.cell (p := ⟨g, k, none⟩) HG.out).trans (HC.out k a ha)
      have cb := (hI.out.low.cell (p := ⟨g, k + 1, none⟩) HG.out).trans (HC.out (k + 1) b hb)
      have ea := loadVx_eq (range_at (HV.out a (List.mem_of_getElem? ha)) (hI.out.low.block _ (range_lt (HV.out a (List.mem_of_getElem? ha)))))
      rw [Nat.add_comm k 1] at cb
      have HB := Lib.hid (HV.out b (List.mem_of_getElem? hb))
      have hp := pairs_get ha hb
      obtain ⟨Ek, hEk⟩ : ∃ Ek, Ek = E ++ (pairs vs).take k := ⟨_, rfl⟩
      have hnext : E ++ (pairs vs).take (k + 1) = Ek ++ [(a, b)] := by rw [hEk, List.take_add_one, hp, List.append_assoc]; rfl
      have hEl : Ek.length ≤ 700000 := by
        rw [hEk, List.length_append]
        have h8 := List.length_take_le k (pairs vs)
        have h9 := HE.out
        omega
      rw [← hEk] at hI
      have HNx := Lib.hid hnext
      have HEl := Lib.hid hEl
      clear ha hb hp hEk hnext hEl
      go_upto_region 4 with (refine wpList_store_row rfl 27 (.tmp 6) (.tmp 21) rfl wr.heap.size a.c rfl rfl 27 _ (Go.heap_alloc_new wr _) (infoVxA _) (by simp [Vx.c_size]) (Vx.one _) ?_; rw [World.setRow_alloc_new])
      rw [put_none]
      obtain ⟨W4, hW4⟩ : ∃ W4, W4 = wr.alloc (.cells a.c 27) := ⟨_, rfl⟩
      have l4 : Below wr.heap.size wr W4 := by rw [hW4]; exact (Below.refl _ _).alloc (Nat.le_refl _) _
      have hb4 : W4.heap[wr.heap.size]? = some (.cells a.c 27 (0, 0)) := by rw [hW4]; exact Go.heap_alloc_new _ _
      rw [← hW4]
      have ev := box_vx hb4
      have cB : W4.cell? ⟨bb, 0, none⟩ = some (.map (some mb)) := cell_row (at_below hI.out.boxB l4) 0
      obtain ⟨bx, hbx⟩ : ∃ bx, bx = wr.heap.size := ⟨_, rfl⟩
      rw [← hbx] at ev ⊢
      have L4 := Lib.hid l4
      clear hW4 hb4 l4 hbx
      refine wp_region_lit ?_
      refine wpList_plain rfl (fun K hK => ?_)
      go_simp
      refine hK _ _ ?_
      clear hK
      clear K
      refine wpList_plain rfl (fun K hK => ?_)
      go_simp
      refine hK _ _ ?_
      clear hK
      clear K
      refine wpList_plain rfl (fun K hK => ?_)
      go_simp
      refine hK _ _ ?_
      clear hK
      clear K
      refine wpList_plain rfl (fun K hK => ?_)
      go_simp
      refine hK _ _ ?_
      clear hK
      clear K
      obtain ⟨W5, hW5⟩ : ∃ W5, W5 = W4.alloc (.cells #[ptr (bl b)] 87) := ⟨_, rfl⟩
      have l5 : Below W4.heap.size W4 W5 := by rw [hW5]; exact (Below.refl _ _).alloc (Nat.le_refl _) _
      have hb5 : W5.heap[W4.heap.size]? = some (.cells #[ptr (bl b)] 87 (0, 0)) := by rw [hW5]; exact Go.heap_alloc_new _ _
      rw [← hW5]
      have l15 : Below wr.heap.size wr W5 := L4.out.trans (l5.mono L4.out.size)
      obtain ⟨sv, nb, hnb, hm0, hrow, hdis⟩ := hI.out.out
      have hm5 := hm0.stay (l15.block _ hm0.lt)
      have hEl := HEl.out
      obtain ⟨st, w6, hrun6, hc6, _, hput⟩ := hm5.entry kbV Tryd.underlying129 (by omega) zeroS (.inr (.inr (.inr (.inl ⟨0, 0, rfl⟩)))) a
      obtain ⟨v0, hv0⟩ : ∃ v0, v0 = ((fun v => if outs Ek v = [] then none else some (sv v)) a).getD nils := ⟨_, rfl⟩
      rw [← hv0] at hrun6
      obtain ⟨qx, hqx⟩ : ∃ qx, qx = W4.heap.size := ⟨_, rfl⟩
      rw [← hqx] at hb5 ⊢
      have own6 : w6.ownsRow w0.heap.size 87 1 v0 (outs Ek a).length ((outs Ek a).map fun x => ptr (bl x)) := by
        rw [hv0]
        by_cases e : outs Ek a = []
        · simp only [e, if_true, Option.getD_none]
          exact World.ownsRow_nil _ _ _ _
        · simp only [e, if_false, Option.getD_some]
          exact World.ownsRow.kept (own_stays (hrow a e) l15) (grown_chg hc6) (.inr (own_mapF (hrow a e) hm0))
      have hv0m : v0.ownBlock ≠ some mb := own_mapF own6 (show MapF 27 w6 mb _ _ by assumption)
      have hqb6 : w6.heap[qx]? = some (.cells #[ptr (bl b)] 87 (0, 0)) := hc6.at hb5 (by simpa using hm5.ne hb5)
      have hbase : w0.heap.size ≤ w6.heap.size := by
        have h1 := hI.out.low.size
        have h2 := l15.size
        have h3 := hc6.size
        omega
      have hol := outs_le Ek a
      have hm6 : mb < w6.heap.size := by
        have h1 := hm5.lt
        have h3 := hc6.size
        omega
      have Hnb := Lib.hid hnb
      have Hrow := Lib.hid hrow
      have Hdis := Lib.hid hdis
      have Hm0 := Lib.hid hm0
      have Hv0 := Lib.hid hv0
      have L15 := Lib.hid l15
      have Hc6 := Lib.hid hc6
      have Hput := Lib.hid hput
      clear hnb hrow hdis hm0 hv0 l15 hc6 hput hW5 l5 hb5 hm5 hqx
      refine wpList_plain rfl (fun K hK => ?_)
      go_simp
      refine hK _ _ ?_
      clear hK
      clear K
      refine wpList_plain rfl (fun K hK => ?_)
      go_simp
      refine hK _ _ ?_
      clear hK
      clear K
      refine wpList_plain rfl (fun K hK => ?_)
      refine wp_app_ptr 88 Tryd.underlying88 (.tmp 24) (.tmp 26) rfl w0.heap.size v0 (outs Ek a).length ((outs Ek a).map fun x => ptr (bl x)) (bl b) rfl own6 qx rfl hqb6 (by omega) hbase ?_
      intro v7 w7 own7 g7 loc7
      refine hK _ _ ?_
      clear hK
      clear K
      obtain ⟨w8, hrun8, hM8, hc8⟩ := Hput.out w7 v7 (g7.block mb hm6 (fun e => hv0m e.symm)) (by
        obtain ⟨g9, c9, h9, _⟩ := own_pos own7 (by omega)
        exact .inr (.inr (.inr (.inr (.inl ⟨g9, _, c9, h9⟩)))))
      have hS := EM.step1 hI.out Hnb.out Hrow.out Hdis.out Hm0.out a b Hv0.out L15.out Hc6.out own7 g7 loc7 hM8 hc8
      have HS := Lib.hid hS
      clear own7 g7 loc7 hM8 hc8 own6 hv0m hqb6 hbase hm6 Hrow Hdis Hm0 Hv0 L15 Hc6 Hput Hnb hS hrun6 hI hol
      refine wpList_plain rfl (fun K hK => ?_)
      go_simp
      refine hK _ _ ?_
      clear hK
      clear K
      refine wpList_plain rfl (fun K hK => ?_)
      go_simp
      refine hK _ _ ?_
      clear hK
      clear K
      refine wpList_nil ?_
      go_upto_region 5 with (fail)
      clear hrun8 ea ca cb ev cB
      obtain ⟨na, hna, hmA⟩ := HS.out.ahd
      obtain ⟨c, hc⟩ : ∃ c : Nat, c = cntE Ek [] b := ⟨_, rfl⟩
      have hfb : ((fun v => if cntE Ek [] v = 0 then none else some (Value.int .i64 (cntE Ek [] v : Nat))) b).getD (.int .i64 0) = .int .i64 c := by
        rw [hc]
        by_cases e : cntE Ek [] b = 0
        · simp [e]
        · simp [e]
      have hcl : c ≤ 700000 := by have := cntE_le Ek [] b; omega
      obtain ⟨cz, hcz⟩ : ∃ cz, cz = c + 1 := ⟨_, rfl⟩
      have HW := Lib.hid (wrap_succ hcl)
      rw [← hcz] at HW
      have Hcz := Lib.hid hcz
      clear hcz
      have HA : Hid (w8.cell? ⟨ab, 0, none⟩ = some (.map (some ma))) := cell_row HS.out.boxA 0
      have HAb : Hid (ab ≠ ma) := hmA.ne HS.out.boxA
      have HBr : Hid (w8.rangeAt (bl b) 0 b.c.toList) := range_at HB.out (HS.out.low.block _ (range_lt HB.out))
      have HBm : Hid (bl b ≠ ma) := by have h1 := range_lt HB.out; have h2 := HS.out.maN; show _ ≠ _; omega
      have HM := Lib.hid hmA
      have Hfb := Lib.hid hfb
      have Hc := Lib.hid hc
      have Hna := Lib.hid hna
      have Hn8 : Hid (na < 100000000) := show na < _ by omega
      clear hmA hfb hc hna hcl hEl
      generalize hf : (fun v => if cntE Ek [] v = 0 then none else some (Value.int .i64 (cntE Ek [] v : Nat))) = f at *
      have Hf := Lib.hid hf
      clear hf
      obtain ⟨hw1, hv1⟩ := HW.out
      have apx : apartB [30, 31, 32, 33, 34, 35, 36, 37, 38, 1009] = true := by decide
      refine wp_region_any (by kernel_rfl) ?_
      change wpAny _ _ _ _ _ _ _ (World.drew _)
      refine wpAny_inv2 (fun ll aa wx => Hid (ll.size = 10 ∧ RelM w8 ma (LookA ma b c) ll wx) ∧ ∃ (z : Nat → Value), Hid (aa = ⟨#[.slice (some ⟨g, 0, none⟩) m cap, ptr bb, ptr ab, undef, .int .i64 k, ptr (bl b), .pointer (some ⟨bx, 0, none⟩), .slice (some ⟨g, 0, none⟩) m cap, .slice (some ⟨g, 1, none⟩) n (cap - 1), .int .i64 n, .int .i64 k, .bool true, .int .i64 k, .pointer (some ⟨g, 1 + k, none⟩), ptr (bl b), .slice (some ⟨g, 0, none⟩) m cap, .int .i64 k, .pointer (some ⟨g, k, none⟩), ptr (bl a), .pointer (some ⟨bl a, 0, none⟩), .pointer (some ⟨bl a, 0, none⟩), .agg a.c, .map (some mb), .agg a.c, v0, ptr (bl b), .slice (some ⟨qx, 0, none⟩) 1 1, .tuple #[v0, .int .i64 st], v7, .int .i64 st, z 30, z 31, z 32, z 33, z 34, z 35, z 36, z 37, z 38, u39], []⟩) ∧ Holding [30, 31, 32, 33, 34, 35, 36, 37, 38, 1009] [some (.map (some ma)), some (ptr (bl b)), some (.pointer (some ⟨bl b, 0, none⟩)), some (.pointer (some ⟨bl b, 0, none⟩)), some (.agg b.c), some (.int .i64 c), some (.int .i64 (cz : Nat)), none, none, none] ll z ∧ Whu ll 7 9 (EntQ 130 ma (if (f b).isSome then na else na + 1) f b) (z 37) wx ∧ Whu ll 8 9 (StQ 130 ma (if (f b).isSome then na else na + 1) f b) (z 38) wx ∧ Whn ll 9 (MapQ ma (if (f b).isSome then na else na + 1) (upd1 f b (some (.int .i64 (cz : Nat)))) w8) (z 1009) wx) ?_ (by kernel_rfl) ?_ ?_ _ rfl _ _ ?_
      · rintro ll aa wx ⟨hI, _⟩
        exact hI.out.1
      · rintro ll aa wx ⟨hI, z, ha, hz, hp7, hp8, hp9⟩ hall
        have hx := Lib.hid hI.out.2
        have e0 : z 30 = .map (some ma) := hz 0 _ (hall 0 (by decide)) rfl
        have e1 : z 31 = ptr (bl b) := hz 1 _ (hall 1 (by decide)) rfl
        have e2 : z 32 = .pointer (some ⟨bl b, 0, none⟩) := hz 2 _ (hall 2 (by decide)) rfl
        have e3 : z 33 = .pointer (some ⟨bl b, 0, none⟩) := hz 3 _ (hall 3 (by decide)) rfl
        have e4 : z 34 = .agg b.c := hz 4 _ (hall 4 (by decide)) rfl
        have e5 : z 35 = .int .i64 c := hz 5 _ (hall 5 (by decide)) rfl
        have e6 : z 36 = .int .i64 (cz : Nat) := hz 6 _ (hall 6 (by decide)) rfl
        have p9 := hp9.get (hall 9 (by decide))
        clear hall hz hI hp7 hp8 hp9
        obtain rfl := ha.out
        clear ha
        clear apx
        obtain ⟨hM9, hC9⟩ := p9
        rw [Hcz.out, Hc.out, ← Hf.out] at hM9
        rw [← Hf.out] at HM
        have hS9 := EM.step2 HS.out Hna.out a b HM.out hM9 hC9
        rw [← HNx.out] at hS9
        have HS9 := Lib.hid hS9
        clear hx hM9 hC9 hS9 hw1 hv1 e0 e1 e2 e3 e4 e5 e6
        have hwk : wrap64 ((k : Int) + 1) = ((k + 1 : Nat) : Int) := by unfold wrap64; omega
        generalize z 30 = y30
        generalize z 31 = y31
        generalize z 32 = y32
        generalize z 33 = y33
        generalize z 34 = y34
        generalize z 35 = y35
        generalize z 36 = y36
        generalize z 37 = y37
        generalize z 38 = y38
        go_wp2
        refine ⟨⟨k + 1, hlt, rfl, HS9.out⟩, ?_⟩
        simp only [intOf]
        omega
      · rintro ll aa wx i ⟨hI, z, ha, hz, hp7, hp8, hp9⟩ hcl hi hu hw
        obtain rfl := ha.out
        have hsz := Lib.hid hI.out.1
        have hx := Lib.hid hI.out.2
        clear ha hI
        have hin : i < 10 := hi
        obtain rfl | rfl | rfl | rfl | rfl | rfl | rfl | rfl | rfl | rfl : i = 0 ∨ i = 1 ∨ i = 2 ∨ i = 3 ∨ i = 4 ∨ i = 5 ∨ i = 6 ∨ i = 7 ∨ i = 8 ∨ i = 9 := by omega
        · have cl := (World.cell?_of_block (hx.out.1.block ab (World.block_lt_of_cell? _ _ HA.out) (by simpa using HAb.out))).trans HA.out
          refine wpOp_plain rfl rfl ?_
          go_simp
          exact ⟨⟨by simp [hsz.out], hx.out.same⟩, upd z 30 (.map (some ma)), (by unfold Hid; simp [upd]), hz.next apx hsz.out 0 (by decide) _ (fun _ h => Option.some.inj h), hp7.keep (by decide), hp8.keep (by decide), hp9.keep (by decide)⟩
        · refine wpOp_plain rfl rfl ?_
          go_simp
          exact ⟨⟨by simp [hsz.out], hx.out.same⟩, upd z 31 (ptr (bl b)), (by unfold Hid; simp [upd]), hz.next apx hsz.out 1 (by decide) _ (fun _ h => Option.some.inj h), hp7.keep (by decide), hp8.keep (by decide), hp9.keep (by decide)⟩
        · have e1 : z 31 = ptr (bl b) := hz 1 _ (hw 1 (by kernel_rfl)) rfl
          refine wpOp_plain rfl rfl ?_
          go_simp
          exact ⟨⟨by simp [hsz.out], hx.out.same⟩, upd z 32 (.pointer (some ⟨bl b, 0, none⟩)), (by unfold Hid; simp [upd, e1]), hz.next apx hsz.out 2 (by decide) _ (fun _ h => Option.some.inj h), hp7.keep (by decide), hp8.keep (by decide), hp9.keep (by decide)⟩
        · have e2 : z 32 = .pointer (some ⟨bl b, 0, none⟩) := hz 2 _ (hw 2 (by kernel_rfl)) rfl
          refine wpOp_plain rfl rfl ?_
          go_simp
          exact ⟨⟨by simp [hsz.out], hx.out.same⟩, upd z 33 (.pointer (some ⟨bl b, 0, none⟩)), (by unfold Hid; simp [upd, e2]), hz.next apx hsz.out 3 (by decide) _ (fun _ h => Option.some.inj h), hp7.keep (by decide), hp8.keep (by decide), hp9.keep (by decide)⟩
        · have e3 : z 33 = .pointer (some ⟨bl b, 0, none⟩) := hz 3 _ (hw 3 (by kernel_rfl)) rfl
          have cl := loadVx_eq (range_at HBr.out (hx.out.1.block _ (range_lt HBr.out) (by simpa using HBm.out)))
          refine wpOp_plain rfl rfl ?_
          go_simp
          exact ⟨⟨by simp [hsz.out], hx.out.same⟩, upd z 34 (.agg b.c), (by unfold Hid; simp [upd, e3]), hz.next apx hsz.out 4 (by decide) _ (fun _ h => Option.some.inj h), hp7.keep (by decide), hp8.keep (by decide), hp9.keep (by decide)⟩
        · have e0 : z 30 = .map (some ma) := hz 0 _ (hw 0 (by kernel_rfl)) rfl
          have e4 : z 34 = .agg b.c := hz 4 _ (hw 4 (by kernel_rfl)) rfl
          have cl := hx.out.2.1 (no_of (fun hl => hcl 9 5 hl (by kernel_rfl)) hu)
          unfold LookA at cl
          refine wpOp_plain rfl rfl ?_
          go_simp
          exact ⟨⟨by simp [hsz.out], hx.out.same⟩, upd z 35 (.int .i64 c), (by unfold Hid; simp [upd, e0, e4]), hz.next apx hsz.out 5 (by decide) _ (fun _ h => Option.some.inj h), hp7.keep (by decide), hp8.keep (by decide), hp9.keep (by decide)⟩
        · have e5 : z 35 = .int .i64 c := hz 5 _ (hw 5 (by kernel_rfl)) rfl
          refine wpOp_plain rfl rfl ?_
          go_simp
          exact ⟨⟨by simp [hsz.out], hx.out.same⟩, upd z 36 (.int .i64 (cz : Nat)), (by unfold Hid; simp [upd, e5]), hz.next apx hsz.out 6 (by decide) _ (fun _ h => Option.some.inj h), hp7.keep (by decide), hp8.keep (by decide), hp9.keep (by decide)⟩
        · have e0 : z 30 = .map (some ma) := hz 0 _ (hw 0 (by kernel_rfl)) rfl
          have e4 : z 34 = .agg b.c := hz 4 _ (hw 4 (by kernel_rfl)) rfl
          obtain ⟨v0, st, w1, hrun, hc1, hlk, hent⟩ := (HM.out.stay ((hx.out.2.2 hu).block _ HM.out.lt)).entA Hn8.out b c Hfb.out
          refine wpOp_plain rfl rfl ?_
          go_simp
          exact ⟨⟨by simp [hsz.out], hx.out.ent hc1 hlk (by rw [hsz.out]; decide)⟩, upd z 37 (.tuple #[v0, .int .i64 st]), (by unfold Hid; simp [upd, e0, e4]), hz.next apx hsz.out 7 (by decide) _ (fun _ h => by cases h), Whu.done (hent), Whu.never (by decide) (fun hl => hcl 8 7 hl (by kernel_rfl)) hu, Whn.never (by decide) (fun hl => hcl 9 7 hl (by kernel_rfl)) hu⟩
        · have p7 := hp7.get (hw 7 (by kernel_rfl)) (no_of (fun hl => hcl 9 8 hl (by kernel_rfl)) hu)
          obtain ⟨v0, st, hz7, hent⟩ := p7
          refine wpOp_plain rfl rfl ?_
          go_simp
          exact ⟨⟨by simp [hsz.out], hx.out.same⟩, upd z 38 (.int .i64 st), (by unfold Hid; simp [upd, hz7]), hz.next apx hsz.out 8 (by decide) _ (fun _ h => by cases h), hp7.keep (by decide), Whu.done (⟨st, rfl, hent⟩), Whn.never (by decide) (fun hl => hcl 9 8 hl (by kernel_rfl)) hu⟩
        · have e0 : z 30 = .map (some ma) := hz 0 _ (hw 0 (by kernel_rfl)) rfl
          have e6 : z 36 = .int .i64 (cz : Nat) := hz 6 _ (hw 6 (by kernel_rfl)) rfl
          have p8 := hp8.get (hw 8 (by kernel_rfl)) hu
          obtain ⟨st, hz8, hent⟩ := p8
          obtain ⟨w3, hrun, hM3, hc3⟩ := hent (.int .i64 (cz : Nat)) (.inr (.inr (.inl ⟨_, rfl⟩)))
          refine wpOp_plain rfl rfl ?_
          go_simp
          exact ⟨⟨by simp [hsz.out], hx.out.sto hc3 (by rw [hsz.out]; decide) (hw 7 (by kernel_rfl))⟩, upd z 1009 (undef), (by unfold Hid; simp [upd, e0, e6, hz8]), hz.next apx hsz.out 9 (by decide) _ (fun _ h => by cases h), Whu.past (by rw [hsz.out]; decide), Whu.past (by rw [hsz.out]; decide), Whn.done (⟨hM3, hx.out.1.trans hc3⟩)⟩
      · exact ⟨⟨rfl, ⟨Chg.of_below (Below.refl _ _).drew, fun _ => (MapF.stay (w' := w8.drew) HM.out rfl).lookA b c Hfb.out, fun _ => (Below.refl _ _).drew⟩⟩, fun xx => (#[.slice (some ⟨g, 0, none⟩) m cap, ptr bb, ptr ab, undef, .int .i64 k, ptr (bl b), .pointer (some ⟨bx, 0, none⟩), .slice (some ⟨g, 0, none⟩) m cap, .slice (some ⟨g, 1, none⟩) n (cap - 1), .int .i64 n, .int .i64 k, .bool true, .int .i64 k, .pointer (some ⟨g, 1 + k, none⟩), ptr (bl b), .slice (some ⟨g, 0, none⟩) m cap, .int .i64 k, .pointer (some ⟨g, k, none⟩), ptr (bl a), .pointer (some ⟨bl a, 0, none⟩), .pointer (some ⟨bl a, 0, none⟩), .agg a.c, .map (some mb), .agg a.c, v0, ptr (bl b), .slice (some ⟨qx, 0, none⟩) 1 1, .tuple #[v0, .int .i64 st], v7, .int .i64 st, u30, u31, u32, u33, u34, u35, u36, u37, u38, u39] : Array Value).getD xx undef, (by rfl), Holding.start, Whu.none (by decide), Whu.none (by decide), Whn.none (by decide)⟩
    · have hltI : ¬ (k : Int) < n := by omega
      obtain rfl : k = n := by omega
      have HF : Hid (EM w0 bb ab mb ma bl it (E ++ pairs vs) (E ++ pairs vs) wr) := by
        have h9 := hI.out
        rw [List.take_of_length_le (by rw [pairs_len, HN.out]; omega)] at h9
        exact h9
      go_wp2
      exact bodyPost_end (results_none rfl _ _ _) rfl ⟨rfl, HF.out⟩
end Go.Proofs.YtnjeppmpnaemlaaDoor.Grf
