/- DERIVED. Texts of ours, merged: XGrfPutB. -/
import Derived.Test.YtnjeppmpnaemlaaDoorMrk16
/- DERIVED. A part under way: its lines one by one; the graph with it. -/
set_option maxRecDepth 100000
namespace Go.Proofs.YtnjeppmpnaemlaaDoor.Grf
open Go.RowKit Str Go.Maps
/-- which line a vertex has, k lines of the new part laid. -/
def fkP (S : GS) (d : PD) (ls : List Nat) (v : Vx) : Option Nat := if v ∈ (own d).take ls.length then ls[(own d).idxOf v]? else lineB S v
theorem fkP_nil (S : GS) (d : PD) : fkP S d [] = lineB S := by funext v; simp [fkP]
theorem idx_vert {d : PD} (hn : (own d).Nodup) {k : Nat} (hk : k < d.lines.length) : (own d).idxOf (vert d k) = k := by
  have hlt : k < (own d).length := by rw [own_len]; exact hk
  rw [← own_at hlt]
  exact List.Nodup.idxOf_getElem hn k hlt
theorem fkP_new {S : GS} {d : PD} {ls : List Nat} (hls : ∀ p ∈ S.ps, p.ls.length = p.d.lines.length) (f : Fits d (ds S.ps)) (hk : ls.length < d.lines.length) : fkP S d ls (vert d ls.length) = none := by
  unfold fkP
  rw [if_neg]
  · cases h : lineB S (vert d ls.length) with
    | none => rfl
    | some b => exact absurd ((lineB_in hls).1 ⟨b, h⟩) (f.apart _ (mem_own.2 ⟨_, hk, rfl⟩))
  · intro hm
    obtain ⟨j, hj, e⟩ := List.getElem_of_mem hm
    rw [List.length_take] at hj
    have hlt : ls.length < (own d).length := by rw [own_len]; exact hk
    rw [List.getElem_take, ← own_at hlt] at e
    have := nd_inj f.nodup (by omega) hlt e
    omega
theorem fkP_snoc {S : GS} {d : PD} {ls : List Nat} (f : Fits d (ds S.ps)) (hk : ls.length < d.lines.length) (lb : Nat) : (fun v => (fkP S d (ls ++ [lb]) v).map ptr) = upd1 (fun v => (fkP S d ls v).map ptr) (vert d ls.length) (some (ptr lb)) := by
  have hlt : ls.length < (own d).length := by rw [own_len]; exact hk
  have et : (own d).take (ls.length + 1) = (own d).take ls.length ++ [vert d ls.length] := by
    rw [List.take_add_one, List.getElem?_eq_getElem hlt, own_at hlt]; rfl
  funext v
  unfold upd1 fkP
  simp only
  rw [List.length_append, List.length_singleton, et]
  by_cases e : v = vert d ls.length
  · rw [if_pos e, e, if_pos (by simp), idx_vert f.nodup hk]
    simp
  · rw [if_neg e]
    by_cases hm : v ∈ (own d).take ls.length
    · rw [if_pos (List.mem_append.2 (.inl hm)), if_pos hm]
      obtain ⟨j, hj, ej⟩ := List.getElem_of_mem hm
      rw [List.length_take] at hj
      rw [List.getElem_take, own_at (by omega)] at ej
      rw [← ej, idx_vert f.nodup (by rw [own_len] at hj; omega), List.getElem?_append_left (by omega)]
    · rw [if_neg hm, if_neg (fun h => by
        rcases List.mem_append.1 h with h | h
        · exact hm h
        · exact e (List.mem_singleton.1 h))]
theorem fkP_all {S : GS} {p : PA} (hl : p.ls.length = p.d.lines.length) : fkP S p.d p.ls = lineB (moreS S p) := by
  funext v
  unfold fkP
  rw [List.take_of_length_le (by rw [own_len, hl]; exact Nat.le_refl _)]
  by_cases h : v ∈ own p.d
  · rw [if_pos h, lineB_mine h]
  · rw [if_neg h, lineB_more h]
/-- a part under way. -/
structure PU (w0 : World) (S : GS) (d : PD) (gv : Nat × Value × Value) (lnv gnv : Value) (pb u : Nat) (cv : Value) (ls : List Nat) (wr : World) : Prop where
  chg : Chg [S.g, S.mp, S.mv] w0 wr
  gr : wr.heap[S.g]? = some (.cells #[ptr S.g, ptr S.fr, .map (some S.mp), .map (some S.mv), .int .i64 ((S.added + 1 : Nat) : Int)] 38 (0, 0))
  mapP : MapF 95 wr S.mp S.ps.length (fun x => (S.ps.find? fun p => decide (p.d.nm = x)).map fun p => ptr p.b)
  prt : PRow wr pb d lnv gnv ((S.added + 1 : Nat) : Int) cv 0
  own : OwnP w0.heap.size (u :: ls) cv wr
  ln : ∀ (j b : Nat) (s : ByteArray), ls[j]? = some b → d.lines[j]? = some s → LRow wr b (vert d j) s pb ((j : Int) + 1) 0 ∧ w0.heap.size ≤ b
  mapV : MapF 27 wr S.mv (S.nv + ls.length) (fun v => (fkP S d ls v).map ptr)
  lns : OwnS w0.heap.size d.lines lnv wr
  gns : OwnV w0.heap.size d.gone gnv wr
  pbN : w0.heap.size ≤ pb
  gvr : GRow wr gv.1 d gv.2.1 gv.2.2
section
variable {w0 wr w' : World} {S : GS} {d : PD} {gv : Nat × Value × Value} {lnv gnv : Value} {pb u : Nat} {cv : Value} {ls : List Nat}
theorem PU.below (h : PU w0 S d gv lnv gnv pb u cv ls wr) (hb : Below wr.heap.size wr w') : PU w0 S d gv lnv gnv pb u cv ls w' :=
  ⟨h.chg.trans (Chg.of_below hb), at_below h.gr hb, h.mapP.stay (hb.block _ h.mapP.lt), at_below h.prt hb, h.own.below hb, fun j b s h1 h2 => ⟨at_below (h.ln j b s h1 h2).1 hb, (h.ln j b s h1 h2).2⟩, h.mapV.stay (hb.block _ h.mapV.lt), own_stays h.lns hb, own_stays h.gns hb, h.pbN, at_below h.gvr hb⟩
/-- one more line. -/
theorem PU.next {w5 w6 : World} {lb : Nat} {cv' : Value} {s : ByteArray} (h : PU w0 S d gv lnv gnv pb u cv ls wr) (hls : ∀ p ∈ S.ps, p.ls.length = p.d.lines.length) (f : Fits d (ds S.ps)) (hs : d.lines[ls.length]? = some s)
    (hx : ExQ w0.heap.size pb d lnv gnv ((S.added + 1 : Nat) : Int) 0 (u :: ls) cv (vert d ls.length) s wr lb cv' w5)
    (hm : MapF 27 w6 S.mv (if ((fkP S d ls (vert d ls.length)).map ptr).isSome then S.nv + ls.length else S.nv + ls.length + 1) (upd1 (fun v => (fkP S d ls v).map ptr) (vert d ls.length) (some (ptr lb)))) (hc : Chg [S.mv] w5 w6) (hmg : S.g < w0.heap.size ∧ S.mp < w0.heap.size ∧ S.mv < w0.heap.size ∧ S.mp ≠ S.mv) : PU w0 S d gv lnv gnv pb u cv' (ls ++ [lb]) w6 := by
  have hk := (List.getElem?_eq_some_iff.1 hs).1
  rw [fkP_new hls f hk] at hm
  simp only [Option.map_none, Option.isSome_none, Bool.false_eq_true, if_false] at hm
  rw [← fkP_snoc f hk lb] at hm
  have s0 := h.chg.size
  have s5 := hx.size
  have hpbN := h.pbN
  have lto : ∀ k, cv.ownBlock = some k → w0.heap.size ≤ k := fun k e => (World.ownsRow.lt h.own k e).1
  have blk5 : ∀ k, k < wr.heap.size → k ≠ pb → cv.ownBlock ≠ some k → w5.heap[k]? = wr.heap[k]? := hx.block
  have blk : ∀ k, k < wr.heap.size → k ≠ pb → cv.ownBlock ≠ some k → k ≠ S.mv → w6.heap[k]? = wr.heap[k]? := fun k h1 h2 h3 h4 => (hc.block k (by omega) (by simpa using h4)).trans (blk5 k h1 h2 h3)
  have hmv5 : MapF 27 w5 S.mv (S.nv + ls.length) (fun v => (fkP S d ls v).map ptr) := h.mapV.stay (blk5 _ h.mapV.lt (by omega) (fun e => by have := lto _ e; omega))
  have st6 : ∀ {b T : Nat} {C : Array Value}, w5.heap[b]? = some (.cells C T (0, 0)) → w6.heap[b]? = some (.cells C T (0, 0)) := fun {b T C} hb => hc.at hb (by simpa using hmv5.ne hb)
  have rowK : ∀ {b T : Nat} {C : Array Value}, wr.heap[b]? = some (.cells C T (0, 0)) → T ≠ 90 → T ≠ 87 → w6.heap[b]? = some (.cells C T (0, 0)) := fun {b T C} hb h1 h2 =>
    st6 ((blk5 b (Array.getElem?_eq_some_iff.1 hb).1 (ne_ty hb h.prt h1) (fun e => Lib.ownBlock_ne h.own hb h2 e)).trans hb)
  have ownK : ∀ {base n s T : Nat} {v : Value} {L : List Value}, wr.ownsRow base T s v n L → T ≠ 90 → T ≠ 87 → w6.ownsRow base T s v n L := fun {base n s T v L} ho h1 h2 => by
    obtain ⟨a1, a2⟩ := ho
    refine ⟨a1, ?_⟩
    rcases a2 with a3 | ⟨g, cap, cur, a3, a4, a5, a6⟩
    · exact .inl a3
    · exact .inr ⟨g, cap, cur, a3, a4, rowK a5 h1 h2, a6⟩
  refine ⟨⟨hc.os.trans (hx.os.trans h.chg.os), hc.tape.trans (hx.tape.trans h.chg.tape), hc.output.trans (hx.output.trans h.chg.output), by have := hc.size; omega, fun k hk0 hn => ?_⟩, rowK h.gr (by decide) (by decide), ?_, st6 hx.part, ?_, fun j b s' hj hsj => ?_, by rw [List.length_append, List.length_singleton, ← Nat.add_assoc]; exact hm, ownK h.lns (by decide) (by decide), ownK h.gns (by decide) (by decide), h.pbN, rowK h.gvr (by decide) (by decide)⟩
  · simp only [List.mem_cons, List.mem_nil_iff, or_false, not_or] at hn
    exact (blk k (by omega) (by omega) (fun e => by have := lto _ e; omega) hn.2.2).trans (h.chg.block k hk0 (by simp only [List.mem_cons, List.mem_nil_iff, or_false, not_or]; exact hn))
  · exact h.mapP.stay (blk _ h.mapP.lt (by omega) (fun e => by have := lto _ e; omega) hmg.2.2.2)
  · have := hx.own
    rw [List.cons_append] at this
    exact own_keep this (fun k hk9 => hc.block k (World.ownsRow.lt this k hk9).2 (by have := (World.ownsRow.lt this k hk9).1; simp only [List.mem_singleton]; omega))
  · by_cases hj2 : j < ls.length
    · rw [List.getElem?_append_left hj2] at hj
      obtain ⟨r1, r2⟩ := h.ln j b s' hj hsj
      exact ⟨rowK r1 (by decide) (by decide), r2⟩
    · have hlt := (List.getElem?_eq_some_iff.1 hj).1
      simp only [List.length_append, List.length_singleton] at hlt
      obtain rfl : j = ls.length := by omega
      rw [List.getElem?_append_right (Nat.le_refl _), Nat.sub_self] at hj
      obtain rfl : lb = b := by simpa using hj
      rw [hs] at hsj
      obtain rfl := Option.some.inj hsj
      have hl := hx.line
      rw [List.length_cons, Int.natCast_add] at hl
      exact ⟨st6 hl, Nat.le_trans s0 hx.new⟩
end
theorem pOf_at {w : World} {S : GS} {us : Nat → Int} {gn : Vx → Int} (h : GM w S us gn) (v : Vx) : ∃ d lnv gnv rank chv, PRow w (pOf S v) d lnv gnv rank chv (us (pOf S v)) := by
  unfold pOf
  cases hf : find S.ps v with
  | none => exact ⟨_, _, _, _, _, h.frm⟩
  | some x => exact ⟨_, _, _, _, _, h.prt x.1 (find_some (p := x.1) (i := x.2) hf).1⟩
theorem usS_fresh {w : World} {S : GS} {us : Nat → Int} {gn : Vx → Int} (h : GM w S us gn) {q : Nat} (hq : w.heap.size ≤ q) : usS S q = 0 := by
  have ne : ∀ v, pOf S v ≠ q := fun v e => by
    obtain ⟨d, a, b, c, e2, hp⟩ := pOf_at h v
    have := (Array.getElem?_eq_some_iff.1 hp).1
    omega
  unfold usS
  have e : (S.ps.map fun p => ((if pOf S p.d.up = q then (1 : Int) else 0) + (if pOf S p.d.down = q then (1 : Int) else 0) + ((p.d.gone.countP fun v => decide (pOf S v = q) : Nat) : Int))) = S.ps.map fun _ => (0 : Int) := by
    apply List.map_congr_left
    intro p _
    simp [ne]
  rw [e]
  induction S.ps with
  | nil => rfl
  | cons a t ih => rw [List.map_cons, List.sum_cons, ih]; rfl
theorem gnS_fresh {S : GS} (hok : GOk S) {v : Vx} (hv : v ∉ verts (ds S.ps)) : gnS S v = 0 := by
  unfold gnS
  have e : (S.ps.map fun p => ((p.d.gone.count v : Nat) : Int)) = S.ps.map fun _ => (0 : Int) := by
    apply List.map_congr_left
    intro p hp
    rw [List.count_eq_zero.2 (fun hm => hv (gone_in hok.adm hp hm))]
    rfl
  rw [e]
  induction S.ps with
  | nil => rfl
  | cons a t ih => rw [List.map_cons, List.sum_cons, ih]; rfl
/-- the graph with the part. -/
theorem PU.done {w0 w9 w10 : World} {S : GS} {d : PD} {gv : Nat × Value × Value} {lnv gnv : Value} {pb u dn : Nat} {cv cv2 : Value} {ls : List Nat} {wr : World} (h0 : GM w0 S (usS S) (gnS S)) (hok : GOk S) (h : PU w0 S d gv lnv gnv pb u cv ls wr) (f : Fits d (ds S.ps)) (hle : le (ds S.ps) d.up d.down) (hne : d.up ≠ d.down) (hl : ls.length = d.lines.length) (hu : lineB S d.up = some u) (hdn : lineB S d.down = some dn)
    (c9 : Chg (pb :: cv.ownBlock.toList) wr w9) (hp9 : PRow w9 pb d lnv gnv ((S.added + 1 : Nat) : Int) cv2 0) (ho9 : OwnP w0.heap.size (u :: (ls ++ [dn])) cv2 w9)
    (hmP : MapF 95 w10 S.mp (S.ps.length + 1) (upd1 (fun x => (S.ps.find? fun p => decide (p.d.nm = x)).map fun p => ptr p.b) d.nm (some (ptr pb)))) (c10 : Chg [S.mp] w9 w10) (hmg : S.g < w0.heap.size ∧ S.mp < w0.heap.size ∧ S.mv < w0.heap.size ∧ S.mp ≠ S.mv) :
    ∃ p : PA, p.d = d ∧ p.b = pb ∧ (∀ b ∈ p.ls, w0.heap.size ≤ b) ∧ p.ls.length = d.lines.length ∧ PutOk S p ∧ p ∈ (moreS S p).ps ∧ GM w10 (moreS S p) (usS S) (gnS S) ∧ Chg [S.g, S.mp, S.mv] w0 w10 := by
  have s0 := h.chg.size
  have s9 := c9.size
  have hpbN := h.pbN
  have lto : ∀ k, cv.ownBlock = some k → w0.heap.size ≤ k := fun k e => (World.ownsRow.lt h.own k e).1
  have kin : ∀ k, k < wr.heap.size → k ≠ pb → cv.ownBlock ≠ some k → k ∉ pb :: cv.ownBlock.toList := fun k _ h2 h3 hm => by
    simp only [List.mem_cons, Option.mem_toList] at hm
    rcases hm with hm | hm
    · exact h2 hm
    · exact h3 hm
  have blk9 : ∀ k, k < wr.heap.size → k ≠ pb → cv.ownBlock ≠ some k → w9.heap[k]? = wr.heap[k]? := fun k h1 h2 h3 => c9.block k h1 (kin k h1 h2 h3)
  have hmP9 : MapF 95 w9 S.mp S.ps.length (fun x => (S.ps.find? fun p => decide (p.d.nm = x)).map fun p => ptr p.b) := h.mapP.stay (blk9 _ h.mapP.lt (by omega) (fun e => by have := lto _ e; omega))
  have st10 : ∀ {b T : Nat} {C : Array Value}, w9.heap[b]? = some (.cells C T (0, 0)) → w10.heap[b]? = some (.cells C T (0, 0)) := fun {b T C} hb => c10.at hb (by simpa using hmP9.ne hb)
  have rowK : ∀ {b T : Nat} {C : Array Value}, wr.heap[b]? = some (.cells C T (0, 0)) → T ≠ 90 → T ≠ 87 → w10.heap[b]? = some (.cells C T (0, 0)) := fun {b T C} hb h1 h2 =>
    st10 ((blk9 b (Array.getElem?_eq_some_iff.1 hb).1 (ne_ty hb h.prt h1) (fun e => Lib.ownBlock_ne h.own hb h2 e)).trans hb)
  have ownK : ∀ {base n s T : Nat} {v : Value} {L : List Value}, wr.ownsRow base T s v n L → T ≠ 90 → T ≠ 87 → w10.ownsRow base T s v n L := fun {base n s T v L} ho h1 h2 => by
    obtain ⟨a1, a2⟩ := ho
    refine ⟨a1, ?_⟩
    rcases a2 with a3 | ⟨g, cap, cur, a3, a4, a5, a6⟩
    · exact .inl a3
    · exact .inr ⟨g, cap, cur, a3, a4, rowK a5 h1 h2, a6⟩
  have hchg : Chg [S.g, S.mp, S.mv] w0 w10 := ⟨c10.os.trans (c9.os.trans h.chg.os), c10.tape.trans (c9.tape.trans h.chg.tape), c10.output.trans (c9.output.trans h.chg.output), by have := c10.size; omega, fun k hk hn => by
    have hn2 := hn
    simp only [List.mem_cons, List.mem_nil_iff, or_false, not_or] at hn2
    exact (c10.block k (by omega) (by simpa using hn2.2.1)).trans ((blk9 k (by omega) (by omega) (fun e => by have := lto _ e; omega)).trans (h.chg.block k hk hn))⟩
  have hcore := h0.core hchg
  have ho10 : OwnP w0.heap.size (u :: (ls ++ [dn])) cv2 w10 := own_keep ho9 (fun k hk => c10.block k (World.ownsRow.lt ho9 k hk).2 (by have := (World.ownsRow.lt ho9 k hk).1; simp only [List.mem_singleton]; omega))
  obtain ⟨p, hp⟩ : ∃ p : PA, p = ⟨d, pb, ls, S.added + 1, lnv, gnv, cv2⟩ := ⟨_, rfl⟩
  have old : ∀ {v : Vx}, v ∈ verts (ds S.ps) → lineB (moreS S p) v = lineB S v := fun {v} hv => lineB_more (fun hm => f.apart v (by rw [hp] at hm; exact hm) hv)
  have mapsV : (fun v => (lineB (moreS S p) v).map ptr) = fun v => (fkP S d ls v).map ptr := by
    have := fkP_all (S := S) (p := p) (by rw [hp]; exact hl)
    rw [hp] at this ⊢
    funext v
    rw [← this]
  have hV10 : MapF 27 w10 S.mv (S.nv + ls.length) (fun v => (fkP S d ls v).map ptr) :=
    h.mapV.stay ((c10.block _ (by have := h.mapV.lt; omega) (by simp only [List.mem_singleton]; exact fun e => hmg.2.2.2 e.symm)).trans (blk9 _ h.mapV.lt (by omega) (fun e => by have := lto _ e; omega)))
  refine ⟨p, by rw [hp], by rw [hp], fun b hb => ?_, by rw [hp]; exact hl, ⟨by rw [hp]; exact f, by rw [hp]; exact hle, by rw [hp]; exact hne, by rw [hp]⟩, by simp [moreS], ?_, hchg⟩
  · rw [hp] at hb
    obtain ⟨j, hj, e⟩ := List.getElem_of_mem hb
    exact (h.ln j b _ (List.getElem?_eq_some_iff.2 ⟨hj, e⟩) (List.getElem?_eq_getElem (by rw [← hl]; exact hj))).2
  · exact {
      gr := rowK h.gr (by decide) (by decide)
      mapP := by
        have e : (fun x => ((moreS S p).ps.find? fun q => decide (q.d.nm = x)).map fun q => ptr q.b) = upd1 (fun x => (S.ps.find? fun p => decide (p.d.nm = x)).map fun p => ptr p.b) d.nm (some (ptr pb)) := by
          funext x
          unfold upd1 moreS
          rw [hp]
          simp only [List.find?_cons]
          by_cases e : x = d.nm
          · simp [e]
          · simp [e, Ne.symm e]
        rw [e]
        exact hmP
      mapV := by
        show MapF _ w10 S.mv (S.nv + p.d.lines.length) _
        rw [mapsV, show p.d.lines.length = ls.length by rw [hp]; exact hl.symm]
        exact hV10
      frm := hcore.frm
      frc := hcore.frc
      lr := hcore.lr
      lf := hcore.lf
      prt := fun q hq => by
        rcases List.mem_cons.1 hq with rfl | hq
        · rw [hp]
          show PRow w10 pb d lnv gnv ((S.added + 1 : Nat) : Int) cv2 (usS S pb)
          rw [usS_fresh h0 hpbN]
          exact st10 hp9
        · exact hcore.prt q hq
      lsl := fun q hq => by
        rcases List.mem_cons.1 hq with rfl | hq
        · rw [hp]; exact hl
        · exact hcore.lsl q hq
      ln := fun q hq i b s h1 h2 => by
        rcases List.mem_cons.1 hq with rfl | hq
        · rw [hp] at h1 h2 ⊢
          rw [gnS_fresh hok (f.apart _ (mem_own.2 ⟨i, (List.getElem?_eq_some_iff.1 h2).1, rfl⟩))]
          exact rowK (h.ln i b s h1 h2).1 (by decide) (by decide)
        · exact hcore.ln q hq i b s h1 h2
      chn := fun q hq => by
        rcases List.mem_cons.1 hq with rfl | hq
        · have e1 : q.d.up ∈ verts (ds S.ps) := by rw [hp]; exact f.upIn
          have e2 : q.d.down ∈ verts (ds S.ps) := by rw [hp]; exact f.downIn
          refine ⟨u, dn, (old e1).trans (by rw [hp]; exact hu), (old e2).trans (by rw [hp]; exact hdn), ?_⟩
          rw [hp]
          exact ho10.ptrs (by simp)
        · obtain ⟨a, b, h1, h2, h3⟩ := hcore.chn q hq
          obtain ⟨e1, e2⟩ := part_in hok.adm hq
          exact ⟨a, b, (old e1).trans h1, (old e2).trans h2, h3⟩
      lns := fun q hq => by
        rcases List.mem_cons.1 hq with rfl | hq
        · rw [hp]; exact own_base (ownK h.lns (by decide) (by decide)) (Nat.zero_le _)
        · exact hcore.lns q hq
      gns := fun q hq => by
        rcases List.mem_cons.1 hq with rfl | hq
        · rw [hp]; exact own_base (ownK h.gns (by decide) (by decide)) (Nat.zero_le _)
        · exact hcore.gns q hq }
end Go.Proofs.YtnjeppmpnaemlaaDoor.Grf
