/- DERIVED. Texts of ours, merged: XGrfDropB XGrfDropC XGrfDrop XGrfRem2. -/
import Derived.Test.YtnjeppmpnaemlaaDoorMkn21
/- DERIVED. A graph in memory from which a part went. -/
set_option maxRecDepth 100000
namespace Go.Proofs.YtnjeppmpnaemlaaDoor.Grf
open Go.RowKit Str Go.Maps
theorem find_drop (p : PA) (l2 : List PA) : ∀ (l1 : List PA) (v : Vx), v ∉ own p.d → find (l1 ++ p :: l2) v = find (l1 ++ l2) v
  | [], v, h => by show find (p :: l2) v = _; rw [find, if_neg h]; rfl
  | q :: t, v, h => by
    show find (q :: (t ++ p :: l2)) v = find (q :: (t ++ l2)) v
    rw [find, find, find_drop p l2 t v h]
theorem find_not : ∀ (l : List PA) (v : Vx), v ∉ verts (ds l) → find l v = none
  | [], v, _ => rfl
  | q :: t, v, h => by
    have h' : v ∉ own q.d ++ verts (ds t) := h
    rw [List.mem_append, not_or] at h'
    rw [find, if_neg h'.1, find_not t v h'.2]
theorem apart_drop (p : PD) (l2 : List PD) : ∀ (l1 : List PD), Adm (l1 ++ p :: l2) → ∀ v, v ∈ own p → v ∉ verts (l1 ++ l2)
  | [], h, v, hv => by
    cases h with
    | cons h f l ne => exact f.apart v hv
  | q :: t, h, v, hv => by
    have h' : Adm (q :: (t ++ p :: l2)) := h
    cases h' with
    | cons h f l ne =>
      show v ∉ own q ++ verts (t ++ l2)
      rw [List.mem_append, not_or]
      exact ⟨fun h1 => f.apart v h1 ((verts_drop t l2 p v).2 (.inl hv)), apart_drop p l2 t h v hv⟩
theorem name_drop (p : PD) (l2 : List PD) : ∀ (l1 : List PD), Adm (l1 ++ p :: l2) → ∀ q ∈ l1 ++ l2, q.nm ≠ p.nm
  | [], h, q, hq => by
    cases h with
    | cons h f l ne => exact f.name q hq
  | r :: t, h, q, hq => by
    have h' : Adm (r :: (t ++ p :: l2)) := h
    cases h' with
    | cons h f l ne =>
      rcases List.mem_cons.1 hq with rfl | hq
      · exact fun e => f.name p (by simp) e.symm
      · exact name_drop p l2 t h q hq
/-- the graph without p. -/
def dropS (S : GS) (p : PA) (l : List PA) : GS := { S with ps := l, nv := S.nv - p.d.lines.length }
theorem ds_app (l1 l2 : List PA) : ds (l1 ++ l2) = ds l1 ++ ds l2 := by simp [ds]
variable {S : GS} {p : PA} {l1 l2 : List PA}
theorem adm_split (hS : S.ps = l1 ++ p :: l2) (hok : GOk S) : Adm (ds l1 ++ p.d :: ds l2) := by
  have := hok.adm
  rw [hS, ds_app] at this
  exact this
theorem lineB_drop (hS : S.ps = l1 ++ p :: l2) (hok : GOk S) (v : Vx) : lineB (dropS S p (l1 ++ l2)) v = if v ∈ own p.d then none else lineB S v := by
  have ha := adm_split hS hok
  by_cases h : v ∈ own p.d
  · rw [if_pos h]
    have h1 := apart_drop p.d (ds l2) (ds l1) ha v h
    rw [← ds_app] at h1
    unfold lineB dropS
    simp only
    rw [find_not _ v h1]
    have hr : v ≠ root := fun e => h1 (e ▸ root_in _)
    have hf : v ≠ fin := fun e => h1 (e ▸ fin_in _)
    simp only
    rw [if_neg hr, if_neg hf]
  · rw [if_neg h]
    unfold lineB dropS
    simp only
    rw [hS, find_drop p l2 l1 v h]
theorem nm_drop (hS : S.ps = l1 ++ p :: l2) (hok : GOk S) : (fun x => ((l1 ++ l2).find? fun q => decide (q.d.nm = x)).map fun q => ptr q.b) = upd1 (fun x => (S.ps.find? fun q => decide (q.d.nm = x)).map fun q => ptr q.b) p.d.nm none := by
  have hn := name_drop p.d (ds l2) (ds l1) (adm_split hS hok)
  funext x
  by_cases e : x = p.d.nm
  · subst e
    rw [upd1_same]
    have : (l1 ++ l2).find? (fun q => decide (q.d.nm = p.d.nm)) = none := by
      rw [List.find?_eq_none]
      intro q hq
      have := hn q.d (by rw [← ds_app]; exact List.mem_map.2 ⟨q, hq, rfl⟩)
      simpa using this
    rw [this]; rfl
  · rw [upd1_ne e, hS]
    congr 1
    rw [List.find?_append, List.find?_append, List.find?_cons_of_neg (by simpa using fun h => e h.symm)]
theorem gok_drop (hS : S.ps = l1 ++ p :: l2) (hok : GOk S) (hf : Free p.d (ds l1)) : GOk (dropS S p (l1 ++ l2)) where
  adm := by
    show Adm (ds (l1 ++ l2))
    rw [ds_app]
    exact adm_drop p.d (ds l2) (ds l1) hf (adm_split hS hok)
  falls := by
    have h := hok.falls
    rw [hS] at h
    have hs : (l1 ++ l2).Sublist (l1 ++ p :: l2) := (List.Sublist.refl l1).append (List.sublist_cons_self p l2)
    exact ⟨h.1.sublist hs, fun q hq => h.2 q (hs.subset hq)⟩
  top := fun q hq => hok.top q (by
    rw [hS]
    exact ((List.Sublist.refl l1).append (List.sublist_cons_self p l2)).subset hq)
theorem gm_drop {w1 w2 : World} {us : Nat → Int} {gn : Vx → Int} (hS : S.ps = l1 ++ p :: l2) (hok : GOk S) (hf : Free p.d (ds (l1 ++ l2))) (h : GM w1 S us gn) (hc : Chg [S.mp, S.mv] w1 w2)
    (hP : MapF 95 w2 S.mp (S.ps.length - 1) (upd1 (fun x => (S.ps.find? fun q => decide (q.d.nm = x)).map fun q => ptr q.b) p.d.nm none))
    (hV : MapF 27 w2 S.mv (S.nv - p.d.lines.length) (fun v => if v ∈ own p.d then none else (lineB S v).map ptr)) : GM w2 (dropS S p (l1 ++ l2)) us gn := by
  have hC := h.core (hc.mono (T := [S.g, S.mp, S.mv]) (fun b hb => .inl (List.mem_cons_of_mem _ hb)))
  have sub : ∀ {q : PA}, q ∈ l1 ++ l2 → q ∈ S.ps := fun {q} hq => by rw [hS]; exact ((List.Sublist.refl l1).append (List.sublist_cons_self p l2)).subset hq
  have hl := lineB_drop hS hok
  exact {
    gr := hc.at h.gr (by simp only [List.mem_cons, List.mem_nil_iff, or_false, not_or]; exact ⟨h.mapP.ne h.gr, h.mapV.ne h.gr⟩)
    mapP := by
      have e : (l1 ++ l2).length = S.ps.length - 1 := by rw [hS]; simp
      show MapF _ w2 S.mp (l1 ++ l2).length _
      rw [e]
      exact (nm_drop hS hok) ▸ hP
    mapV := by
      show MapF _ w2 S.mv (S.nv - p.d.lines.length) (fun v => (lineB (dropS S p (l1 ++ l2)) v).map ptr)
      have e : (fun v => (lineB (dropS S p (l1 ++ l2)) v).map ptr) = (fun v => if v ∈ own p.d then none else (lineB S v).map ptr) := by
        funext v
        rw [hl v]
        split <;> rfl
      rw [e]; exact hV
    frm := hC.frm
    frc := hC.frc
    lr := hC.lr
    lf := hC.lf
    prt := fun q hq => hC.prt q (sub hq)
    lsl := fun q hq => hC.lsl q (sub hq)
    ln := fun q hq => hC.ln q (sub hq)
    chn := fun q hq => by
      obtain ⟨u, dn, h1, h2, h3⟩ := hC.chn q (sub hq)
      have hq2 := hf q.d (List.mem_map.2 ⟨q, hq, rfl⟩)
      exact ⟨u, dn, by rw [hl, if_neg hq2.1]; exact h1, by rw [hl, if_neg hq2.2.1]; exact h2, h3⟩
    lns := fun q hq => hC.lns q (sub hq)
    gns := fun q hq => hC.gns q (sub hq) }
end Go.Proofs.YtnjeppmpnaemlaaDoor.Grf
/- DERIVED. PLAIN: the numbers of a graph from which a part went. -/
set_option maxRecDepth 100000
namespace Go.Proofs.YtnjeppmpnaemlaaDoor.Grf
open Go.RowKit Str Go.Maps
variable {S : GS} {p : PA} {l1 l2 : List PA}
theorem find_mine (p : PA) (l2 : List PA) : ∀ (l1 : List PA), Adm (ds l1 ++ p.d :: ds l2) → ∀ v, v ∈ own p.d → find (l1 ++ p :: l2) v = some (p, (own p.d).idxOf v)
  | [], _, v, hv => by show find (p :: l2) v = _; rw [find, if_pos hv]
  | q :: t, h, v, hv => by
    have h' : Adm (q.d :: (ds t ++ p.d :: ds l2)) := h
    cases h' with
    | cons h f l ne =>
      show find (q :: (t ++ p :: l2)) v = _
      rw [find, if_neg (fun h1 => f.apart v h1 ((verts_drop (ds t) (ds l2) p.d v).2 (.inl hv))), find_mine p l2 t h v hv]
theorem pOf_mine (hS : S.ps = l1 ++ p :: l2) (hok : GOk S) {v : Vx} (hv : v ∈ own p.d) : pOf S v = p.b := by
  unfold pOf
  rw [hS, find_mine p l2 l1 (adm_split hS hok) v hv]
theorem pOf_drop (hS : S.ps = l1 ++ p :: l2) {v : Vx} (hv : v ∉ own p.d) : pOf (dropS S p (l1 ++ l2)) v = pOf S v := by
  unfold pOf dropS
  simp only
  rw [hS, find_drop p l2 l1 v hv]
theorem sum_zero {α : Type} (f : α → Int) : ∀ (l : List α), (∀ x ∈ l, 0 ≤ f x) → 0 ≤ (l.map f).sum ∧ ((l.map f).sum = 0 → ∀ x ∈ l, f x = 0)
  | [], _ => ⟨by simp, fun _ x hx => by cases hx⟩
  | y :: t, h => by
    obtain ⟨h1, h2⟩ := sum_zero f t (fun x hx => h x (List.mem_cons_of_mem _ hx))
    have h3 := h y List.mem_cons_self
    rw [List.map_cons, List.sum_cons]
    refine ⟨by omega, fun h0 x hx => ?_⟩
    rcases List.mem_cons.1 hx with rfl | hx
    · omega
    · exact h2 (by omega) x hx
theorem free_of (hS : S.ps = l1 ++ p :: l2) (hok : GOk S) (h0 : usS S p.b = 0) : Free p.d (ds (l1 ++ l2)) := by
  intro d hd
  obtain ⟨q, hq, rfl⟩ := List.mem_map.1 hd
  have hq' : q ∈ S.ps := by rw [hS]; exact ((List.Sublist.refl l1).append (List.sublist_cons_self p l2)).subset hq
  have hz := (sum_zero _ S.ps (fun x _ => ?_)).2 h0 q hq'
  · have c1 : pOf S q.d.up ≠ p.b := fun e => by
      rw [if_pos e] at hz
      split at hz <;> omega
    have c2 : pOf S q.d.down ≠ p.b := fun e => by
      rw [if_pos e] at hz
      split at hz <;> omega
    rw [if_neg c1, if_neg c2] at hz
    have c3 : (q.d.gone.countP fun v => decide (pOf S v = p.b)) = 0 := by omega
    rw [List.countP_eq_zero] at c3
    exact ⟨fun h => c1 (pOf_mine hS hok h), fun h => c2 (pOf_mine hS hok h), fun v hv h => c3 v hv (by simpa using pOf_mine hS hok h)⟩
  · split <;> split <;> omega
theorem gnS_drop (hS : S.ps = l1 ++ p :: l2) : cntG p.d (-1) (gnS S) p.d.gone.length = gnS (dropS S p (l1 ++ l2)) := by
  funext v
  rw [cntG_all]
  unfold gnS dropS
  simp only
  rw [hS, List.map_append, List.map_cons, List.sum_append, List.sum_cons, List.map_append, List.sum_append]
  omega
theorem usS_drop (hS : S.ps = l1 ++ p :: l2) (hf : Free p.d (ds (l1 ++ l2))) : cntU S p.d (-1) (usS S) p.d.gone.length = usS (dropS S p (l1 ++ l2)) := by
  funext q
  rw [cntU_all]
  obtain ⟨F, hF⟩ : ∃ F : PA → Int, F = fun p => ((if pOf S p.d.up = q then (1 : Int) else 0) + (if pOf S p.d.down = q then (1 : Int) else 0) + ((p.d.gone.countP fun v => decide (pOf S v = q) : Nat) : Int)) := ⟨_, rfl⟩
  have e1 : usS S q = (S.ps.map F).sum := by rw [hF]; rfl
  have e2 : usS (dropS S p (l1 ++ l2)) q = ((l1 ++ l2).map F).sum := by
    show (List.map _ (l1 ++ l2)).sum = _
    congr 1
    apply List.map_congr_left
    intro r hr
    have hr2 := hf r.d (List.mem_map.2 ⟨r, hr, rfl⟩)
    rw [hF]
    simp only
    rw [pOf_drop hS hr2.1, pOf_drop hS hr2.2.1]
    have h3 : (r.d.gone.countP fun v => decide (pOf (dropS S p (l1 ++ l2)) v = q)) = r.d.gone.countP fun v => decide (pOf S v = q) := List.countP_congr (fun v hv => by rw [pOf_drop hS (hr2.2.2 v hv)])
    rw [h3]
  have e3 : F p = ((if pOf S p.d.up = q then (1 : Int) else 0) + (if pOf S p.d.down = q then (1 : Int) else 0) + ((p.d.gone.countP fun v => decide (pOf S v = q) : Nat) : Int)) := by rw [hF]
  rw [e1, e2, hS, List.map_append, List.map_cons, List.sum_append, List.sum_cons, List.map_append, List.sum_append, e3]
  split <;> split <;> omega
end Go.Proofs.YtnjeppmpnaemlaaDoor.Grf
/- DERIVED. drop. Written by mkdrop.py. -/
set_option maxRecDepth 100000
namespace Go.Proofs.YtnjeppmpnaemlaaDoor.Grf
open Go.RowKit Str Go.Maps
attribute [local go_sem ↓ high] loadAtVx loadAtHs loadAtGv
theorem nodup_drop (p : PD) (l2 : List PD) : ∀ (l1 : List PD), Adm (l1 ++ p :: l2) → (own p).Nodup
  | [], h => by
    cases h with
    | cons _ f _ _ => exact f.nodup
  | q :: t, h => by
    have h' : Adm (q :: (t ++ p :: l2)) := h
    cases h' with
    | cons h _ _ _ => exact nodup_drop p l2 t h
/-- behind k deletes. -/
def DL (w1 : World) (S : GS) (p : PA) (k : Nat) (wr : World) : Prop := Chg [S.mv] w1 wr ∧ MapF 27 wr S.mv (S.nv - k) (fun v => if v ∈ (own p.d).take k then none else (lineB S v).map ptr)
def DlQ (w1 : World) (S : GS) (p : PA) (k : Nat) (_ : Value) (wr : World) : Prop := DL w1 S p k wr
theorem DL.next {w1 wr w6 : World} {S : GS} {p : PA} {k : Nat} (h : DL w1 S p k wr) (hk : k < p.d.lines.length) (hi : ∃ b, lineB S (vert p.d k) = some b) (hn : vert p.d k ∉ (own p.d).take k)
    (hm : MapF 27 w6 S.mv (if ((fun v => if v ∈ (own p.d).take k then none else (lineB S v).map ptr) (vert p.d k)).isSome then S.nv - k - 1 else S.nv - k) (upd1 (fun v => if v ∈ (own p.d).take k then none else (lineB S v).map ptr) (vert p.d k) none)) (hc : Chg [S.mv] wr w6) : DL w1 S p (k + 1) w6 := by
  obtain ⟨b, hb⟩ := hi
  refine ⟨h.1.trans hc, ?_⟩
  have e1 : ((fun v => if v ∈ (own p.d).take k then none else (lineB S v).map ptr) (vert p.d k)).isSome = true := by
    simp only
    rw [if_neg hn, hb]; rfl
  rw [if_pos e1] at hm
  have hlt : k < (own p.d).length := by rw [own_len]; exact hk
  have et : (own p.d).take (k + 1) = (own p.d).take k ++ [vert p.d k] := by
    rw [List.take_add_one, List.getElem?_eq_getElem hlt, own_at hlt]; rfl
  have e2 : (upd1 (fun v => if v ∈ (own p.d).take k then none else (lineB S v).map ptr) (vert p.d k) none) = (fun v => if v ∈ (own p.d).take (k + 1) then none else (lineB S v).map ptr) := by
    funext v
    unfold upd1
    rw [et]
    by_cases e : v = vert p.d k
    · rw [if_pos e, if_pos (by rw [e]; simp)]
    · rw [if_neg e]
      simp only [List.mem_append, List.mem_singleton, e, or_false]
  rw [e2] at hm
  rw [show S.nv - (k + 1) = S.nv - k - 1 by omega]
  exact hm
set_option maxHeartbeats 8000000 in
theorem drop_any (S : GS) (n0 : Nat) (hn0 : n0 ≤ 100) (w : World) (h : GX w S n0) (p : PA) (l1 l2 : List PA) (hS : S.ps = l1 ++ p :: l2) (h0 : usS S p.b = 0) :
    Calls Tryd.prog 47 #[ptr S.g, ptr p.b] w fun e w' => e = .returned (.tuple #[]) ∧ GI w' (dropS S p (l1 ++ l2)) ∧ Chg (blk S) w w' := by
  have hp : p ∈ S.ps := by rw [hS]; simp
  have hok := h.gi.ok
  have hfree := free_of hS hok h0
  have hps : S.ps.length ≤ 100 := Nat.le_trans h.ps hn0
  have hgl : ∀ p ∈ S.ps, p.d.gone.length ≤ 1000 := fun p hp => (h.db p hp).gone
  have hdb := h.db p hp
  have hnd : (own p.d).Nodup := by
    exact nodup_drop p.d (ds l2) (ds l1) (adm_split hS hok)
  have hcnt := count_any S (usS S) (gnS S) hok p hp (-1) (by omega) (usS_bd hps hgl) (gnS_bd hps hgl) (fun v hv => (lineB_in h.gi.gm.lsl).2 (gone_in hok.adm hp hv)) (by have := hdb.gone; omega) (by have := hdb.lines; omega) (blk S) (fun q hq => by
    refine ⟨?_, fun b hb => ?_⟩
    · unfold blk; simp only [List.mem_cons, List.mem_flatMap]; exact .inr (.inr (.inr (.inr (.inr (.inr ⟨q, hq, by simp⟩)))))
    · unfold blk; simp only [List.mem_cons, List.mem_flatMap]; exact .inr (.inr (.inr (.inr (.inr (.inr ⟨q, hq, by simp [hb]⟩)))))) (by unfold blk; simp) w h.gi.gm
  have HS := Lib.hid hS
  have HOk := Lib.hid hok
  have HFr := Lib.hid hfree
  have HDb := Lib.hid hdb
  have HND := Lib.hid hnd
  have HP := Lib.hid hp
  have HMN := Lib.hid h.gi.mne
  clear hS hok hfree hps hgl hdb hnd hp h h0
  obtain ⟨us1, hus1⟩ : ∃ us1, us1 = cntU S p.d (-1) (usS S) p.d.gone.length := ⟨_, rfl⟩
  obtain ⟨gn1, hgn1⟩ : ∃ gn1, gn1 = cntG p.d (-1) (gnS S) p.d.gone.length := ⟨_, rfl⟩
  rw [← hus1, ← hgn1] at hcnt
  have Hus := Lib.hid hus1
  have Hgn := Lib.hid hgn1
  clear hus1 hgn1
  go_enter Tryd.func47, Tryd.ntmps47
  go_upto_region 1 with (go_at_call 74; refine hcnt.mono ?_; rintro e w1 ⟨rfl, hg1, hc1⟩)
  have f100 := (hg1.prt p HP.out).lines
  obtain ⟨A, c, egl, hcl, _⟩ := OwnS.rds (hg1.lns p HP.out)
  rw [egl] at f100
  obtain ⟨n, hN⟩ : ∃ n, n = p.d.lines.length := ⟨_, rfl⟩
  rw [← hN] at f100 hcl
  have HN := Lib.hid hN
  have HG := Lib.hid hg1
  have HC1 := Lib.hid hc1
  have hn1 : n ≤ 1000 := by have := HDb.out.lines; omega
  have H0 : Hid (DL w1 S p 0 w1) := ⟨Chg.refl _ _, by simpa using hg1.mapV⟩
  clear hcnt egl hN hg1 hc1
  go_upto_region 2 with (fail)
  clear f100
  go_loopw [14] (fun i wr => ∃ k : Nat, k ≤ n ∧ i = .int .i64 k ∧ Hid (DL w1 S p k wr)) (fun i _ => n - (intOf i).toNat)
  case atStart => exact ⟨0, Nat.zero_le _, rfl, H0⟩
  case round =>
    obtain ⟨k, hk, rfl, hI⟩ := hrel
    clear H0
    by_cases hlt : k < n
    · have hltI : (k : Int) < n := by omega
      have hk0 : 0 ≤ (k : Int) := by omega
      have hPr := hI.out.1.at (HG.out.prt p HP.out) (by simp only [List.mem_singleton]; exact HG.out.mapV.ne (HG.out.prt p HP.out))
      have hGr := hI.out.1.at HG.out.gr (by simp only [List.mem_singleton]; exact HG.out.mapV.ne HG.out.gr)
      have HPr : Hid (PRow wr p.b p.d p.lnv p.gnv p.rank p.chv (us1 p.b)) := hPr
      have HE3 : Hid (wr.cell? ⟨S.g, 3, none⟩ = some (.map (some S.mv))) := cell_row hGr 3
      have HKG : Hid (S.g ∉ [S.mv]) := by show _ ∉ _; simp only [List.mem_singleton]; exact HG.out.mapV.ne HG.out.gr
      have HKp : Hid (p.b ∉ [S.mv]) := by show _ ∉ _; simp only [List.mem_singleton]; exact HG.out.mapV.ne (HG.out.prt p HP.out)
      have HNx : Hid (∀ w6, MapF 27 w6 S.mv (if ((fun v => if v ∈ (own p.d).take k then none else (lineB S v).map ptr) (vert p.d k)).isSome then S.nv - k - 1 else S.nv - k) (upd1 (fun v => if v ∈ (own p.d).take k then none else (lineB S v).map ptr) (vert p.d k) none) → Chg [S.mv] wr w6 → DL w1 S p (k + 1) w6) := fun w6 hm hc => by
        have hkl : k < p.d.lines.length := by have := HN.out; omega
        have hin : vert p.d k ∈ own p.d := mem_own.2 ⟨k, hkl, rfl⟩
        refine hI.out.next hkl ((lineB_in HG.out.lsl).2 ?_) ?_ hm hc
        · rw [HS.out, ds_app]
          exact (verts_drop (ds l1) (ds l2) p.d _).2 (.inl hin)
        · intro hm2
          obtain ⟨j, hj, e⟩ := List.getElem_of_mem hm2
          rw [List.length_take] at hj
          have hlt2 : k < (own p.d).length := by rw [own_len]; exact hkl
          rw [List.getElem_take, ← own_at hlt2] at e
          have := nd_inj HND.out (by omega) hlt2 e
          omega
      clear hPr hGr
      go_upto_region 4 with (fail)
      have apx : apartB [17, 18, 19, 20, 21, 22, 23, 24, 25, 26, 1010] = true := by decide
      refine wp_region_any (by kernel_rfl) ?_
      change wpAny _ _ _ _ _ _ _ (World.drew _)
      refine wpAny_inv2 (fun ll aa wx => Hid (ll.size = 11 ∧ RelC 10 [S.mv] wr ll wx) ∧ ∃ (z : Nat → Value), Hid (aa = ⟨#[ptr S.g, ptr p.b, undef, undef, .int .i64 k, ptr S.g, ptr p.b, .tuple #[], ptr p.b, .pointer (some ⟨p.b, 0, none⟩), .pointer (some ⟨p.b, 0, none⟩), .pointer (some ⟨p.b, 100, none⟩), .slice A n c, .int .i64 n, .int .i64 k, .bool true, .int .i64 k, z 17, z 18, z 19, z 20, z 21, z 22, z 23, z 24, z 25, z 26, u27, undef, undef, undef, undef, undef, undef, undef, undef, undef], []⟩) ∧ Holding [17, 18, 19, 20, 21, 22, 23, 24, 25, 26, 1010] [some (ptr S.g), some (.pointer (some ⟨S.g, 0, none⟩)), some (.pointer (some ⟨S.g, 3, none⟩)), some (.map (some S.mv)), some (ptr p.b), some (.pointer (some ⟨p.b, 0, none⟩)), some (.pointer (some ⟨p.b, 0, none⟩)), some (.agg (givC p.d p.lnv p.gnv)), some (.int .i64 k), some (.agg (vert p.d k).c), none] ll z ∧ Whn ll 10 (DlQ w1 S p (k + 1)) (z 1010) wx) ?_ (by kernel_rfl) ?_ ?_ _ rfl _ _ ?_
      · rintro ll aa wx ⟨hI, _⟩
        exact hI.out.1
      · rintro ll aa wx ⟨hI, z, ha, hz, hp10⟩ hall
        have hx := Lib.hid hI.out.2
        have e0 : z 17 = ptr S.g := hz 0 _ (hall 0 (by decide)) rfl
        have e1 : z 18 = .pointer (some ⟨S.g, 0, none⟩) := hz 1 _ (hall 1 (by decide)) rfl
        have e2 : z 19 = .pointer (some ⟨S.g, 3, none⟩) := hz 2 _ (hall 2 (by decide)) rfl
        have e3 : z 20 = .map (some S.mv) := hz 3 _ (hall 3 (by decide)) rfl
        have e4 : z 21 = ptr p.b := hz 4 _ (hall 4 (by decide)) rfl
        have e5 : z 22 = .pointer (some ⟨p.b, 0, none⟩) := hz 5 _ (hall 5 (by decide)) rfl
        have e6 : z 23 = .pointer (some ⟨p.b, 0, none⟩) := hz 6 _ (hall 6 (by decide)) rfl
        have e7 : z 24 = .agg (givC p.d p.lnv p.gnv) := hz 7 _ (hall 7 (by decide)) rfl
        have e8 : z 25 = .int .i64 k := hz 8 _ (hall 8 (by decide)) rfl
        have e9 : z 26 = .agg (vert p.d k).c := hz 9 _ (hall 9 (by decide)) rfl
        have p10 := hp10.get (hall 10 (by decide))
        clear hall hz hI hp10
        obtain rfl := ha.out
        clear ha
        clear apx
        have HQ := Lib.hid p10
        clear hx p10 e0 e1 e2 e3 e4 e5 e6 e7 e8 e9
        generalize z 17 = q17
        generalize z 18 = q18
        generalize z 19 = q19
        generalize z 20 = q20
        generalize z 21 = q21
        generalize z 22 = q22
        generalize z 23 = q23
        generalize z 24 = q24
        generalize z 25 = q25
        generalize z 26 = q26
        go_wp2
        refine ⟨⟨k + 1, hlt, by go_num, HQ.out⟩, ?_⟩
        simp only [intOf]
        omega
      · rintro ll aa wx i ⟨hI, z, ha, hz, hp10⟩ hcl hi hu hw
        obtain rfl := ha.out
        have hsz := Lib.hid hI.out.1
        have hx := Lib.hid hI.out.2
        clear ha hI
        have hin : i < 11 := hi
        obtain rfl | rfl | rfl | rfl | rfl | rfl | rfl | rfl | rfl | rfl | rfl : i = 0 ∨ i = 1 ∨ i = 2 ∨ i = 3 ∨ i = 4 ∨ i = 5 ∨ i = 6 ∨ i = 7 ∨ i = 8 ∨ i = 9 ∨ i = 10 := by omega
        · refine wpOp_plain rfl rfl ?_
          go_simp
          exact ⟨⟨by simp [hsz.out], hx.out.same⟩, upd z 17 (ptr S.g), (by unfold Hid; simp [upd]), hz.next apx hsz.out 0 (by decide) _ (fun _ h => Option.some.inj h), hp10.keep (by decide)⟩
        · have e0 : z 17 = ptr S.g := hz 0 _ (hw 0 (by kernel_rfl)) rfl
          refine wpOp_plain rfl rfl ?_
          go_simp
          exact ⟨⟨by simp [hsz.out], hx.out.same⟩, upd z 18 (.pointer (some ⟨S.g, 0, none⟩)), (by unfold Hid; simp [upd, e0]), hz.next apx hsz.out 1 (by decide) _ (fun _ h => Option.some.inj h), hp10.keep (by decide)⟩
        · have e1 : z 18 = .pointer (some ⟨S.g, 0, none⟩) := hz 1 _ (hw 1 (by kernel_rfl)) rfl
          refine wpOp_plain rfl rfl ?_
          go_simp
          exact ⟨⟨by simp [hsz.out], hx.out.same⟩, upd z 19 (.pointer (some ⟨S.g, 3, none⟩)), (by unfold Hid; simp [upd, e1]), hz.next apx hsz.out 2 (by decide) _ (fun _ h => Option.some.inj h), hp10.keep (by decide)⟩
        · have e2 : z 19 = .pointer (some ⟨S.g, 3, none⟩) := hz 2 _ (hw 2 (by kernel_rfl)) rfl
          have cl := hx.out.cell HE3.out HKG.out
          refine wpOp_plain rfl rfl ?_
          go_simp
          exact ⟨⟨by simp [hsz.out], hx.out.same⟩, upd z 20 (.map (some S.mv)), (by unfold Hid; simp [upd, e2]), hz.next apx hsz.out 3 (by decide) _ (fun _ h => Option.some.inj h), hp10.keep (by decide)⟩
        · refine wpOp_plain rfl rfl ?_
          go_simp
          exact ⟨⟨by simp [hsz.out], hx.out.same⟩, upd z 21 (ptr p.b), (by unfold Hid; simp [upd]), hz.next apx hsz.out 4 (by decide) _ (fun _ h => Option.some.inj h), hp10.keep (by decide)⟩
        · have e4 : z 21 = ptr p.b := hz 4 _ (hw 4 (by kernel_rfl)) rfl
          refine wpOp_plain rfl rfl ?_
          go_simp
          exact ⟨⟨by simp [hsz.out], hx.out.same⟩, upd z 22 (.pointer (some ⟨p.b, 0, none⟩)), (by unfold Hid; simp [upd, e4]), hz.next apx hsz.out 5 (by decide) _ (fun _ h => Option.some.inj h), hp10.keep (by decide)⟩
        · have e5 : z 22 = .pointer (some ⟨p.b, 0, none⟩) := hz 5 _ (hw 5 (by kernel_rfl)) rfl
          refine wpOp_plain rfl rfl ?_
          go_simp
          exact ⟨⟨by simp [hsz.out], hx.out.same⟩, upd z 23 (.pointer (some ⟨p.b, 0, none⟩)), (by unfold Hid; simp [upd, e5]), hz.next apx hsz.out 6 (by decide) _ (fun _ h => Option.some.inj h), hp10.keep (by decide)⟩
        · have e6 : z 23 = .pointer (some ⟨p.b, 0, none⟩) := hz 6 _ (hw 6 (by kernel_rfl)) rfl
          have cl := loadGv_mid (PRow.given (hx.out.at HPr.out HKp.out))
          refine wpOp_plain rfl rfl ?_
          go_simp
          exact ⟨⟨by simp [hsz.out], hx.out.same⟩, upd z 24 (.agg (givC p.d p.lnv p.gnv)), (by unfold Hid; simp [upd, e6]), hz.next apx hsz.out 7 (by decide) _ (fun _ h => Option.some.inj h), hp10.keep (by decide)⟩
        · refine wpOp_plain rfl rfl ?_
          go_simp
          exact ⟨⟨by simp [hsz.out], hx.out.same⟩, upd z 25 (.int .i64 k), (by unfold Hid; simp [upd]), hz.next apx hsz.out 8 (by decide) _ (fun _ h => Option.some.inj h), hp10.keep (by decide)⟩
        · have e7 : z 24 = .agg (givC p.d p.lnv p.gnv) := hz 7 _ (hw 7 (by kernel_rfl)) rfl
          have e8 : z 25 = .int .i64 k := hz 8 _ (hw 8 (by kernel_rfl)) rfl
          refine wpOp_plain rfl rfl ?_
          go_simp
          go_at_call 72
          refine (vertex_any p.d p.lnv p.gnv k wx).mono ?_
          rintro e w8 ⟨rfl, low⟩
          exact ⟨⟨by simp [hsz.out], hx.out.call low⟩, upd z 26 (.agg (vert p.d k).c), (by unfold Hid; simp [upd, e7, e8]), hz.next apx hsz.out 9 (by decide) _ (fun _ h => Option.some.inj h), Whn.never (by decide) (fun hl => hcl 10 9 hl (by kernel_rfl)) hu⟩
        · have e3 : z 20 = .map (some S.mv) := hz 3 _ (hw 3 (by kernel_rfl)) rfl
          have e9 : z 26 = .agg (vert p.d k).c := hz 9 _ (hw 9 (by kernel_rfl)) rfl
          have hlow := hx.out.2 hu
          obtain ⟨w6, kr, hm6, hc6⟩ := (hI.out.2.stay (hlow.block _ hI.out.2.lt)).del kbV Tryd.underlying36 (vert p.d k) 0
          have Hm6 := Lib.hid hm6
          clear hm6
          refine wpOp_plain rfl rfl ?_
          go_simp
          exact ⟨⟨by simp [hsz.out], hx.out.wr hc6 (by rw [hsz.out]; decide)⟩, upd z 1010 (undef), (by unfold Hid; simp [upd, e3, e9]), hz.next apx hsz.out 10 (by decide) _ (fun _ h => by cases h), Whn.done (HNx.out _ Hm6.out ((Chg.of_below hlow).trans hc6))⟩
      · exact ⟨⟨rfl, RelC.start⟩, fun xx => (#[ptr S.g, ptr p.b, undef, undef, .int .i64 k, ptr S.g, ptr p.b, .tuple #[], ptr p.b, .pointer (some ⟨p.b, 0, none⟩), .pointer (some ⟨p.b, 0, none⟩), .pointer (some ⟨p.b, 100, none⟩), .slice A n c, .int .i64 n, .int .i64 k, .bool true, .int .i64 k, u17, u18, u19, u20, u21, u22, u23, u24, u25, u26, u27, undef, undef, undef, undef, undef, undef, undef, undef, undef] : Array Value).getD xx undef, (by rfl), Holding.start, Whn.none (by decide)⟩
    · have hltI : ¬ (k : Int) < n := by omega
      obtain rfl : k = n := by omega
      have hPr := hI.out.1.at (HG.out.prt p HP.out) (by simp only [List.mem_singleton]; exact HG.out.mapV.ne (HG.out.prt p HP.out))
      have hGr := hI.out.1.at HG.out.gr (by simp only [List.mem_singleton]; exact HG.out.mapV.ne HG.out.gr)
      have HPr : Hid (PRow wr p.b p.d p.lnv p.gnv p.rank p.chv (us1 p.b)) := hPr
      have HE2 : Hid (wr.cell? ⟨S.g, 2, none⟩ = some (.map (some S.mp))) := cell_row hGr 2
      have HKG : Hid (S.g ∉ [S.mp]) := by show _ ∉ _; simp only [List.mem_singleton]; exact HG.out.mapP.ne HG.out.gr
      have HKp : Hid (p.b ∉ [S.mp]) := by show _ ∉ _; simp only [List.mem_singleton]; exact HG.out.mapP.ne (HG.out.prt p HP.out)
      have HMp := Lib.hid (HG.out.mapP.stay (hI.out.1.block _ HG.out.mapP.lt (by simp only [List.mem_singleton]; exact HMN.out)))
      have Hfn : Hid (((S.ps.find? fun q => decide (q.d.nm = p.d.nm)).map fun q => ptr q.b).isSome = true) := by
        show _ = _
        rw [Option.isSome_map, List.find?_isSome]
        exact ⟨p, HP.out, by simp⟩
      have HE : Hid (∀ w9, MpQ S.mp (S.ps.length - 1) (upd1 (fun x => (S.ps.find? fun q => decide (q.d.nm = x)).map fun q => ptr q.b) p.d.nm none) wr undef w9 → GI w9 (dropS S p (l1 ++ l2)) ∧ Chg (blk S) w w9) := fun w9 hq => by
        have hcV : Chg [S.mp, S.mv] w1 w9 := (hI.out.1.mono (fun b hb => .inl (List.mem_cons_of_mem _ hb))).trans (hq.2.mono (fun b hb => .inl (by rw [List.mem_singleton.1 hb]; exact List.mem_cons_self)))
        have hV := hI.out.2.stay (hq.2.block _ hI.out.2.lt (by simp only [List.mem_singleton]; exact fun e => HMN.out e.symm))
        rw [List.take_of_length_le (by rw [own_len, HN.out]; exact Nat.le_refl _), HN.out] at hV
        have hg := gm_drop HS.out HOk.out HFr.out HG.out hcV hq.1 hV
        rw [Hus.out, Hgn.out, usS_drop HS.out HFr.out, gnS_drop HS.out] at hg
        refine ⟨⟨hg, gok_drop HS.out HOk.out (fun q hq => HFr.out q (by rw [ds_app]; exact List.mem_append.2 (.inl hq))), HMN.out⟩, HC1.out.trans (hcV.mono (fun b hb => .inl ?_))⟩
        simp only [List.mem_cons, List.mem_nil_iff, or_false] at hb
        unfold blk
        rcases hb with rfl | rfl <;> simp
      clear hPr hGr
      go_upto_region 6 with (fail)
      have apx : apartB [28, 29, 30, 31, 32, 33, 34, 35, 36, 1009] = true := by decide
      refine wp_region_any (by kernel_rfl) ?_
      change wpAny _ _ _ _ _ _ _ (World.drew _)
      refine wpAny_inv2 (fun ll aa wx => Hid (ll.size = 10 ∧ RelC 9 [S.mp] wr ll wx) ∧ ∃ (z : Nat → Value), Hid (aa = ⟨#[ptr S.g, ptr p.b, undef, undef, u4, ptr S.g, ptr p.b, .tuple #[], ptr p.b, .pointer (some ⟨p.b, 0, none⟩), .pointer (some ⟨p.b, 0, none⟩), .pointer (some ⟨p.b, 100, none⟩), .slice A k c, .int .i64 k, .int .i64 k, .bool false, u16, u17, u18, u19, u20, u21, u22, u23, u24, u25, u26, u27, z 28, z 29, z 30, z 31, z 32, z 33, z 34, z 35, z 36], []⟩) ∧ Holding [28, 29, 30, 31, 32, 33, 34, 35, 36, 1009] [some (ptr S.g), some (.pointer (some ⟨S.g, 0, none⟩)), some (.pointer (some ⟨S.g, 2, none⟩)), some (.map (some S.mp)), some (ptr p.b), some (.pointer (some ⟨p.b, 0, none⟩)), some (.pointer (some ⟨p.b, 0, none⟩)), some (.agg (givC p.d p.lnv p.gnv)), some (.agg p.d.nm.c), none] ll z ∧ Whn ll 9 (MpQ S.mp (S.ps.length - 1) (upd1 (fun x => (S.ps.find? fun q => decide (q.d.nm = x)).map fun q => ptr q.b) p.d.nm none) wr) (z 1009) wx) ?_ (by kernel_rfl) ?_ ?_ _ rfl _ _ ?_
      · rintro ll aa wx ⟨hI, _⟩
        exact hI.out.1
      · rintro ll aa wx ⟨hI, z, ha, hz, hp9⟩ hall
        have hx := Lib.hid hI.out.2
        have e0 : z 28 = ptr S.g := hz 0 _ (hall 0 (by decide)) rfl
        have e1 : z 29 = .pointer (some ⟨S.g, 0, none⟩) := hz 1 _ (hall 1 (by decide)) rfl
        have e2 : z 30 = .pointer (some ⟨S.g, 2, none⟩) := hz 2 _ (hall 2 (by decide)) rfl
        have e3 : z 31 = .map (some S.mp) := hz 3 _ (hall 3 (by decide)) rfl
        have e4 : z 32 = ptr p.b := hz 4 _ (hall 4 (by decide)) rfl
        have e5 : z 33 = .pointer (some ⟨p.b, 0, none⟩) := hz 5 _ (hall 5 (by decide)) rfl
        have e6 : z 34 = .pointer (some ⟨p.b, 0, none⟩) := hz 6 _ (hall 6 (by decide)) rfl
        have e7 : z 35 = .agg (givC p.d p.lnv p.gnv) := hz 7 _ (hall 7 (by decide)) rfl
        have e8 : z 36 = .agg p.d.nm.c := hz 8 _ (hall 8 (by decide)) rfl
        have p9 := hp9.get (hall 9 (by decide))
        clear hall hz hI hp9
        obtain rfl := ha.out
        clear ha
        clear apx
        have HQ := Lib.hid p9
        clear hx p9 e0 e1 e2 e3 e4 e5 e6 e7 e8
        generalize z 28 = q28
        generalize z 29 = q29
        generalize z 30 = q30
        generalize z 31 = q31
        generalize z 32 = q32
        generalize z 33 = q33
        generalize z 34 = q34
        generalize z 35 = q35
        generalize z 36 = q36
        rename World => w9
        have HFin := Lib.hid (HE.out w9 HQ.out)
        clear HQ HE
        go_wp2
        exact bodyPost_end (results_none rfl _ _ _) rfl ⟨rfl, HFin.out⟩
      · rintro ll aa wx i ⟨hI, z, ha, hz, hp9⟩ hcl hi hu hw
        obtain rfl := ha.out
        have hsz := Lib.hid hI.out.1
        have hx := Lib.hid hI.out.2
        clear ha hI
        have hin : i < 10 := hi
        obtain rfl | rfl | rfl | rfl | rfl | rfl | rfl | rfl | rfl | rfl : i = 0 ∨ i = 1 ∨ i = 2 ∨ i = 3 ∨ i = 4 ∨ i = 5 ∨ i = 6 ∨ i = 7 ∨ i = 8 ∨ i = 9 := by omega
        · refine wpOp_plain rfl rfl ?_
          go_simp
          exact ⟨⟨by simp [hsz.out], hx.out.same⟩, upd z 28 (ptr S.g), (by unfold Hid; simp [upd]), hz.next apx hsz.out 0 (by decide) _ (fun _ h => Option.some.inj h), hp9.keep (by decide)⟩
        · have e0 : z 28 = ptr S.g := hz 0 _ (hw 0 (by kernel_rfl)) rfl
          refine wpOp_plain rfl rfl ?_
          go_simp
          exact ⟨⟨by simp [hsz.out], hx.out.same⟩, upd z 29 (.pointer (some ⟨S.g, 0, none⟩)), (by unfold Hid; simp [upd, e0]), hz.next apx hsz.out 1 (by decide) _ (fun _ h => Option.some.inj h), hp9.keep (by decide)⟩
        · have e1 : z 29 = .pointer (some ⟨S.g, 0, none⟩) := hz 1 _ (hw 1 (by kernel_rfl)) rfl
          refine wpOp_plain rfl rfl ?_
          go_simp
          exact ⟨⟨by simp [hsz.out], hx.out.same⟩, upd z 30 (.pointer (some ⟨S.g, 2, none⟩)), (by unfold Hid; simp [upd, e1]), hz.next apx hsz.out 2 (by decide) _ (fun _ h => Option.some.inj h), hp9.keep (by decide)⟩
        · have e2 : z 30 = .pointer (some ⟨S.g, 2, none⟩) := hz 2 _ (hw 2 (by kernel_rfl)) rfl
          have cl := hx.out.cell HE2.out HKG.out
          refine wpOp_plain rfl rfl ?_
          go_simp
          exact ⟨⟨by simp [hsz.out], hx.out.same⟩, upd z 31 (.map (some S.mp)), (by unfold Hid; simp [upd, e2]), hz.next apx hsz.out 3 (by decide) _ (fun _ h => Option.some.inj h), hp9.keep (by decide)⟩
        · refine wpOp_plain rfl rfl ?_
          go_simp
          exact ⟨⟨by simp [hsz.out], hx.out.same⟩, upd z 32 (ptr p.b), (by unfold Hid; simp [upd]), hz.next apx hsz.out 4 (by decide) _ (fun _ h => Option.some.inj h), hp9.keep (by decide)⟩
        · have e4 : z 32 = ptr p.b := hz 4 _ (hw 4 (by kernel_rfl)) rfl
          refine wpOp_plain rfl rfl ?_
          go_simp
          exact ⟨⟨by simp [hsz.out], hx.out.same⟩, upd z 33 (.pointer (some ⟨p.b, 0, none⟩)), (by unfold Hid; simp [upd, e4]), hz.next apx hsz.out 5 (by decide) _ (fun _ h => Option.some.inj h), hp9.keep (by decide)⟩
        · have e5 : z 33 = .pointer (some ⟨p.b, 0, none⟩) := hz 5 _ (hw 5 (by kernel_rfl)) rfl
          refine wpOp_plain rfl rfl ?_
          go_simp
          exact ⟨⟨by simp [hsz.out], hx.out.same⟩, upd z 34 (.pointer (some ⟨p.b, 0, none⟩)), (by unfold Hid; simp [upd, e5]), hz.next apx hsz.out 6 (by decide) _ (fun _ h => Option.some.inj h), hp9.keep (by decide)⟩
        · have e6 : z 34 = .pointer (some ⟨p.b, 0, none⟩) := hz 6 _ (hw 6 (by kernel_rfl)) rfl
          have cl := loadGv_mid (PRow.given (hx.out.at HPr.out HKp.out))
          refine wpOp_plain rfl rfl ?_
          go_simp
          exact ⟨⟨by simp [hsz.out], hx.out.same⟩, upd z 35 (.agg (givC p.d p.lnv p.gnv)), (by unfold Hid; simp [upd, e6]), hz.next apx hsz.out 7 (by decide) _ (fun _ h => Option.some.inj h), hp9.keep (by decide)⟩
        · have e7 : z 35 = .agg (givC p.d p.lnv p.gnv) := hz 7 _ (hw 7 (by kernel_rfl)) rfl
          refine wpOp_plain rfl rfl ?_
          go_simp
          go_at_call 73
          refine (name_any p.d p.lnv p.gnv wx).mono ?_
          rintro e w8 ⟨rfl, low⟩
          exact ⟨⟨by simp [hsz.out], hx.out.call low⟩, upd z 36 (.agg p.d.nm.c), (by unfold Hid; simp [upd, e7]), hz.next apx hsz.out 8 (by decide) _ (fun _ h => Option.some.inj h), Whn.never (by decide) (fun hl => hcl 9 8 hl (by kernel_rfl)) hu⟩
        · have e3 : z 31 = .map (some S.mp) := hz 3 _ (hw 3 (by kernel_rfl)) rfl
          have e8 : z 36 = .agg p.d.nm.c := hz 8 _ (hw 8 (by kernel_rfl)) rfl
          have hlow := hx.out.2 hu
          obtain ⟨w6, kr, hm6, hc6⟩ := (HMp.out.stay (hlow.block _ HMp.out.lt)).del kbN Tryd.underlying35 p.d.nm 0
          simp only [Hfn.out, if_true] at hm6
          have Hm6 := Lib.hid hm6
          clear hm6
          refine wpOp_plain rfl rfl ?_
          go_simp
          exact ⟨⟨by simp [hsz.out], hx.out.wr hc6 (by rw [hsz.out]; decide)⟩, upd z 1009 (undef), (by unfold Hid; simp [upd, e3, e8]), hz.next apx hsz.out 9 (by decide) _ (fun _ h => by cases h), Whn.done (⟨Hm6.out, (Chg.of_below hlow).trans hc6⟩)⟩
      · exact ⟨⟨rfl, RelC.start⟩, fun xx => (#[ptr S.g, ptr p.b, undef, undef, u4, ptr S.g, ptr p.b, .tuple #[], ptr p.b, .pointer (some ⟨p.b, 0, none⟩), .pointer (some ⟨p.b, 0, none⟩), .pointer (some ⟨p.b, 100, none⟩), .slice A k c, .int .i64 k, .int .i64 k, .bool false, u16, u17, u18, u19, u20, u21, u22, u23, u24, u25, u26, u27, undef, undef, undef, undef, undef, undef, undef, undef, undef] : Array Value).getD xx undef, (by rfl), Holding.start, Whn.none (by decide)⟩
end Go.Proofs.YtnjeppmpnaemlaaDoor.Grf
/- DERIVED. Remove by contract. -/
set_option maxRecDepth 100000
namespace Go.Proofs.YtnjeppmpnaemlaaDoor.Grf
open Go.RowKit Str Go.Maps
theorem GX.drop {w w' : World} {S : GS} {n : Nat} (h : GX w S n) {p : PA} {l1 l2 : List PA} (hS : S.ps = l1 ++ p :: l2) (hg : GI w' (dropS S p (l1 ++ l2))) : GX w' (dropS S p (l1 ++ l2)) n where
  gi := hg
  ps := by
    have h1 := h.ps
    rw [hS, List.length_append, List.length_cons] at h1
    show (l1 ++ l2).length ≤ n
    rw [List.length_append]
    omega
  added := h.added
  nv := Nat.le_trans (Nat.sub_le _ _) h.nv
  db := fun q hq => h.db q (by
    rw [hS]
    exact ((List.Sublist.refl l1).append (List.sublist_cons_self p l2)).subset hq)
/-- where a part of this name stands. -/
theorem partB_split {S : GS} {x : Vx} {p : PA} (h : partB S x = some p) : ∃ l1 l2, S.ps = l1 ++ p :: l2 ∧ p.d.nm = x := by
  unfold partB at h
  have h1 := List.mem_of_find?_eq_some h
  have h2 := List.find?_some h
  obtain ⟨l1, l2, e⟩ := List.append_of_mem h1
  exact ⟨l1, l2, e, by simpa using h2⟩
/-- a part goes. -/
theorem remove_gx (S : GS) (n : Nat) (hn : n ≤ 100) (x : Vx) (p : PA) (w : World) (h : GX w S n) (hq : partB S x = some p) (h0 : usS S p.b = 0) :
    Calls Tryd.prog 23 #[ptr S.g, .agg (hsC x.h), .int .i64 x.n] w fun e w' => e = .returned (.int .i64 0) ∧ ∃ l1 l2, S.ps = l1 ++ p :: l2 ∧ GX w' (dropS S p (l1 ++ l2)) n ∧ ∃ u, Below w.heap.size w u ∧ Chg (blk S) u w' := by
  obtain ⟨l1, l2, hS, _⟩ := partB_split hq
  refine remove_drop S _ _ x p w h.gi.gm hq h0 _ (fun u hu => ?_)
  refine (drop_any S n hn u (h.below hu) p l1 l2 hS h0).mono ?_
  rintro e w' ⟨rfl, h1, h2⟩
  exact ⟨rfl, l1, l2, hS, h.drop hS h1, u, hu, h2⟩
/-- whose lines nobody names is used by nobody. -/
theorem names_eq : ∀ {l : List PD}, Adm l → ∀ {p q : PD}, p ∈ l → q ∈ l → p.nm = q.nm → p = q := by
  intro l
  induction l with
  | nil => intro _ p q h; cases h
  | cons r t ih =>
    intro ha p q hp hq e
    cases ha with
    | cons h f _ _ =>
      rcases List.mem_cons.1 hp with h1 | hp
      · rcases List.mem_cons.1 hq with h2 | hq
        · rw [h1, h2]
        · exact absurd (e.symm.trans (by rw [h1])) (f.name q hq)
      · rcases List.mem_cons.1 hq with h2 | hq
        · exact absurd (e.trans (by rw [h2])) (f.name p hp)
        · exact ih h hp hq e
theorem givC_nm {d d' : PD} {l g l' g' : Value} (h : givC d l g = givC d' l' g') : d.nm = d'.nm := by
  have h2 : (givC d l g).toList.take 33 = (givC d' l' g').toList.take 33 := by rw [h]
  rw [givC_list, givC_list] at h2
  have e : ∀ (d : PD) (l g : Value), (d.nm.c.toList ++ [Value.int .i64 d.first] ++ d.up.c.toList ++ d.down.c.toList ++ [l, g]).take 33 = d.nm.c.toList := fun d l g => by
    simp only [List.append_assoc]
    rw [List.take_append_of_le_length (by simp [Vx.c_size]), List.take_of_length_le (by simp [Vx.c_size])]
  rw [e, e] at h2
  exact Vx.c_inj (Array.toList_inj.1 h2)
theorem row_nm {w : World} {b : Nat} {d d' : PD} {l g l' g' : Value} {r r' : Int} {c c' : Value} {u u' : Int} (h : PRow w b d l g r c u) (h' : PRow w b d' l' g' r' c' u') : d.nm = d'.nm ∧ r = r' := by
  have e : partC d l g r c u = partC d' l' g' r' c' u' := by
    have h1 : some (Obj.cells (partC d l g r c u) 90 (0, 0)) = some (Obj.cells (partC d' l' g' r' c' u') 90 (0, 0)) := h.symm.trans h'
    simpa using h1
  have e2 : (givC d l g).toList ++ [Value.int .i64 r, c, .int .i64 u] = (givC d' l' g').toList ++ [Value.int .i64 r', c', .int .i64 u'] := by rw [← partC_list, ← partC_list, e]
  obtain ⟨e3, e4⟩ := List.append_inj e2 (by rw [Array.length_toList, Array.length_toList, givC_size, givC_size])
  refine ⟨givC_nm (Array.toList_inj.1 e3), ?_⟩
  simp only [List.cons.injEq, Value.int.injEq, true_and] at e4
  exact e4.1
theorem pOf_other {w : World} {S : GS} {us : Nat → Int} {gn : Vx → Int} (h : GM w S us gn) (hok : GOk S) {p : PA} (hp : p ∈ S.ps) {v : Vx} (hv : v ∉ own p.d) : pOf S v ≠ p.b := by
  intro e
  unfold pOf at e
  cases hf : find S.ps v with
  | some x =>
    obtain ⟨q, i⟩ := x
    rw [hf] at e
    simp only at e
    obtain ⟨h1, _, _, h4, _⟩ := find_some hf
    have hq := h.prt q h1
    rw [e] at hq
    have hn := (row_nm hq (h.prt p hp)).1
    have := names_eq hok.adm (List.mem_map.2 ⟨q, h1, rfl⟩) (List.mem_map.2 ⟨p, hp, rfl⟩) hn
    exact hv (this ▸ h4)
  | none =>
    rw [hf] at e
    simp only at e
    have hq := h.frm
    rw [e] at hq
    have hr := (row_nm hq (h.prt p hp)).2
    have := hok.falls.2 p hp
    omega
theorem used_not {w : World} {S : GS} {us : Nat → Int} {gn : Vx → Int} (h : GM w S us gn) (hok : GOk S) {p : PA} (hp : p ∈ S.ps) (hf : Free p.d (ds S.ps)) : usS S p.b = 0 := by
  unfold usS
  have : ∀ q ∈ S.ps, ((if pOf S q.d.up = p.b then (1 : Int) else 0) + (if pOf S q.d.down = p.b then (1 : Int) else 0) + ((q.d.gone.countP fun v => decide (pOf S v = p.b) : Nat) : Int)) = 0 := fun q hq => by
    have hq2 := hf q.d (List.mem_map.2 ⟨q, hq, rfl⟩)
    rw [if_neg (pOf_other h hok hp hq2.1), if_neg (pOf_other h hok hp hq2.2.1)]
    have : (q.d.gone.countP fun v => decide (pOf S v = p.b)) = 0 := by
      rw [List.countP_eq_zero]
      intro v hv
      simpa using pOf_other h hok hp (hq2.2.2 v hv)
    rw [this]; rfl
  rw [List.map_congr_left this]
  generalize S.ps = l
  induction l with
  | nil => rfl
  | cons a t ih => rw [List.map_cons, List.sum_cons, ih]; rfl
end Go.Proofs.YtnjeppmpnaemlaaDoor.Grf
