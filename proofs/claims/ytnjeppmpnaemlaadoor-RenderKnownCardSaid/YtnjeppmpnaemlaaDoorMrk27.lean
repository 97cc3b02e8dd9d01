/- DERIVED. Texts of ours, merged: XGrfDropC XGrfDrop XGrfRem2 XGrfKnB. -/
import Derived.Test.YtnjeppmpnaemlaaDoorMrk26
import Derived.Test.YtnjeppmpnaemlaaDoorMrk3
/- DERIVED. PLAIN: the numbers of a graph from which a part went. -/
set_option maxRecDepth 100000
namespace Go.Proofs.YtnjeppmpnaemlaaDoor.Grf
open Go.RowKit Str Go.Maps
variable {S : GS} {p : PA} {l1 l2 : List PA}
theorem find_mine (p : PA) (l2 : List PA) : ∀ (l1 : List PA), Adm (ds l1 ++ p.d :: ds l2) → ∀ v, v ∈ own p.d → find (l1 ++ p :: l2) v = some (p, (own p.d).idxOf v)
  | [], _, v, hv => by show find (p :: l2) v = _; rw [find, if_pos hv]
  | q :: t, h, v, hv => by
    have h' : Adm (q.d :: (ds t ++ p.d :: ds l2)) := h
    cases h' with
    | cons h f l ne =>
      show find (q :: (t ++ p :: l2)) v = _
      rw [find, if_neg (fun h1 => f.apart v h1 ((verts_drop (ds t) (ds l2) p.d v).2 (.inl hv))), find_mine p l2 t h v hv]
theorem pOf_mine (hS : S.ps = l1 ++ p :: l2) (hok : GOk S) {v : Vx} (hv : v ∈ own p.d) : pOf S v = p.b := by
  unfold pOf
  rw [hS, find_mine p l2 l1 (adm_split hS hok) v hv]
theorem pOf_drop (hS : S.ps = l1 ++ p :: l2) {v : Vx} (hv : v ∉ own p.d) : pOf (dropS S p (l1 ++ l2)) v = pOf S v := by
  unfold pOf dropS
  simp only
  rw [hS, find_drop p l2 l1 v hv]
theorem sum_zero {α : Type} (f : α → Int) : ∀ (l : List α), (∀ x ∈ l, 0 ≤ f x) → 0 ≤ (l.map f).sum ∧ ((l.map f).sum = 0 → ∀ x ∈ l, f x = 0)
  | [], _ => ⟨by simp, fun _ x hx => by cases hx⟩
  | y :: t, h => by
    obtain ⟨h1, h2⟩ := sum_zero f t (fun x hx => h x (List.mem_cons_of_mem _ hx))
    have h3 := h y List.mem_cons_self
    rw [List.map_cons, List.sum_cons]
    refine ⟨by omega, fun h0 x hx => ?_⟩
    rcases List.mem_cons.1 hx with rfl | hx
    · omega
    · exact h2 (by omega) x hx
theorem free_of (hS : S.ps = l1 ++ p :: l2) (hok : GOk S) (h0 : usS S p.b = 0) : Free p.d (ds (l1 ++ l2)) := by
  intro d hd
  obtain ⟨q, hq, rfl⟩ := List.mem_map.1 hd
  have hq' : q ∈ S.ps := by rw [hS]; exact ((List.Sublist.refl l1).append (List.sublist_cons_self p l2)).subset hq
  have hz := (sum_zero _ S.ps (fun x _ => ?_)).2 h0 q hq'
  · have c1 : pOf S q.d.up ≠ p.b := fun e => by
      rw [if_pos e] at hz
      split at hz <;> omega
    have c2 : pOf S q.d.down ≠ p.b := fun e => by
      rw [if_pos e] at hz
      split at hz <;> omega
    rw [if_neg c1, if_neg c2] at hz
    have c3 : (q.d.gone.countP fun v => decide (pOf S v = p.b)) = 0 := by omega
    rw [List.countP_eq_zero] at c3
    exact ⟨fun h => c1 (pOf_mine hS hok h), fun h => c2 (pOf_mine hS hok h), fun v hv h => c3 v hv (by simpa using pOf_mine hS hok h)⟩
  · split <;> split <;> omega
theorem gnS_drop (hS : S.ps = l1 ++ p :: l2) : cntG p.d (-1) (gnS S) p.d.gone.length = gnS (dropS S p (l1 ++ l2)) := by
  funext v
  rw [cntG_all]
  unfold gnS dropS
  simp only
  rw [hS, List.map_append, List.map_cons, List.sum_append, List.sum_cons, List.map_append, List.sum_append]
  omega
theorem usS_drop (hS : S.ps = l1 ++ p :: l2) (hf : Free p.d (ds (l1 ++ l2))) : cntU S p.d (-1) (usS S) p.d.gone.length = usS (dropS S p (l1 ++ l2)) := by
  funext q
  rw [cntU_all]
  obtain ⟨F, hF⟩ : ∃ F : PA → Int, F = fun p => ((if pOf S p.d.up = q then (1 : Int) else 0) + (if pOf S p.d.down = q then (1 : Int) else 0) + ((p.d.gone.countP fun v => decide (pOf S v = q) : Nat) : Int)) := ⟨_, rfl⟩
  have e1 : usS S q = (S.ps.map F).sum := by rw [hF]; rfl
  have e2 : usS (dropS S p (l1 ++ l2)) q = ((l1 ++ l2).map F).sum := by
    show (List.map _ (l1 ++ l2)).sum = _
    congr 1
    apply List.map_congr_left
    intro r hr
    have hr2 := hf r.d (List.mem_map.2 ⟨r, hr, rfl⟩)
    rw [hF]
    simp only
    rw [pOf_drop hS hr2.1, pOf_drop hS hr2.2.1]
    have h3 : (r.d.gone.countP fun v => decide (pOf (dropS S p (l1 ++ l2)) v = q)) = r.d.gone.countP fun v => decide (pOf S v = q) := List.countP_congr (fun v hv => by rw [pOf_drop hS (hr2.2.2 v hv)])
    rw [h3]
  have e3 : F p = ((if pOf S p.d.up = q then (1 : Int) else 0) + (if pOf S p.d.down = q then (1 : Int) else 0) + ((p.d.gone.countP fun v => decide (pOf S v = q) : Nat) : Int)) := by rw [hF]
  rw [e1, e2, hS, List.map_append, List.map_cons, List.sum_append, List.sum_cons, List.map_append, List.sum_append, e3]
  split <;> split <;> omega
end Go.Proofs.YtnjeppmpnaemlaaDoor.Grf
/- DERIVED. drop. Written by mkdrop.py. -/
set_option maxRecDepth 100000
namespace Go.Proofs.YtnjeppmpnaemlaaDoor.Grf
open Go.RowKit Str Go.Maps
attribute [local go_sem ↓ high] loadAtVx loadAtHs loadAtGv
theorem nodup_drop (p : PD) (l2 : List PD) : ∀ (l1 : List PD), Adm (l1 ++ p :: l2) → (own p).Nodup
  | [], h => by
    cases h with
    | cons _ f _ _ => exact f.nodup
  | q :: t, h => by
    have h' : Adm (q :: (t ++ p :: l2)) := h
    cases h' with
    | cons h _ _ _ => exact nodup_drop p l2 t h
/-- behind k deletes. -/
def DL (w1 : World) (S : GS) (p : PA) (k : Nat) (wr : World) : Prop := Chg [S.mv] w1 wr ∧ MapF 27 wr S.mv (S.nv - k) (fun v => if v ∈ (own p.d).take k then none else (lineB S v).map ptr)
def DlQ (w1 : World) (S : GS) (p : PA) (k : Nat) (_ : Value) (wr : World) : Prop := DL w1 S p k wr
theorem DL.next {w1 wr w6 : World} {S : GS} {p : PA} {k : Nat} (h : DL w1 S p k wr) (hk : k < p.d.lines.length) (hi : ∃ b, lineB S (vert p.d k) = some b) (hn : vert p.d k ∉ (own p.d).take k)
    (hm : MapF 27 w6 S.mv (if ((fun v => if v ∈ (own p.d).take k then none else (lineB S v).map ptr) (vert p.d k)).isSome then S.nv - k - 1 else S.nv - k) (upd1 (fun v => if v ∈ (own p.d).take k then none else (lineB S v).map ptr) (vert p.d k) none)) (hc : Chg [S.mv] wr w6) : DL w1 S p (k + 1) w6 := by
  obtain ⟨b, hb⟩ := hi
  refine ⟨h.1.trans hc, ?_⟩
  have e1 : ((fun v => if v ∈ (own p.d).take k then none else (lineB S v).map ptr) (vert p.d k)).isSome = true := by
    simp only
    rw [if_neg hn, hb]; rfl
  rw [if_pos e1] at hm
  have hlt : k < (own p.d).length := by rw [own_len]; exact hk
  have et : (own p.d).take (k + 1) = (own p.d).take k ++ [vert p.d k] := by
    rw [List.take_add_one, List.getElem?_eq_getElem hlt, own_at hlt]; rfl
  have e2 : (upd1 (fun v => if v ∈ (own p.d).take k then none else (lineB S v).map ptr) (vert p.d k) none) = (fun v => if v ∈ (own p.d).take (k + 1) then none else (lineB S v).map ptr) := by
    funext v
    unfold upd1
    rw [et]
    by_cases e : v = vert p.d k
    · rw [if_pos e, if_pos (by rw [e]; simp)]
    · rw [if_neg e]
      simp only [List.mem_append, List.mem_singleton, e, or_false]
  rw [e2] at hm
  rw [show S.nv - (k + 1) = S.nv - k - 1 by omega]
  exact hm
set_option maxHeartbeats 8000000 in
theorem drop_any (S : GS) (n0 : Nat) (hn0 : n0 ≤ 100) (w : World) (h : GX w S n0) (p : PA) (l1 l2 : List PA) (hS : S.ps = l1 ++ p :: l2) (h0 : usS S p.b = 0) :
    Calls Tryd.prog 47 #[ptr S.g, ptr p.b] w fun e w' => e = .returned (.tuple #[]) ∧ GI w' (dropS S p (l1 ++ l2)) ∧ Chg (blk S) w w' := by
  have hp : p ∈ S.ps := by rw [hS]; simp
  have hok := h.gi.ok
  have hfree := free_of hS hok h0
  have hps : S.ps.length ≤ 100 := Nat.le_trans h.ps hn0
  have hgl : ∀ p ∈ S.ps, p.d.gone.length ≤ 1000 := fun p hp => (h.db p hp).gone
  have hdb := h.db p hp
  have hnd : (own p.d).Nodup := by
    exact nodup_drop p.d (ds l2) (ds l1) (adm_split hS hok)
  have hcnt := count_any S (usS S) (gnS S) hok p hp (-1) (by omega) (usS_bd hps hgl) (gnS_bd hps hgl) (fun v hv => (lineB_in h.gi.gm.lsl).2 (gone_in hok.adm hp hv)) (by have := hdb.gone; omega) (by have := hdb.lines; omega) (blk S) (fun q hq => by
    refine ⟨?_, fun b hb => ?_⟩
    · unfold blk; simp only [List.mem_cons, List.mem_flatMap]; exact .inr (.inr (.inr (.inr (.inr (.inr ⟨q, hq, by simp⟩)))))
    · unfold blk; simp only [List.mem_cons, List.mem_flatMap]; exact .inr (.inr (.inr (.inr (.inr (.inr ⟨q, hq, by simp [hb]⟩)))))) (by unfold blk; simp) w h.gi.gm
  have HS := Lib.hid hS
  have HOk := Lib.hid hok
  have HFr := Lib.hid hfree
  have HDb := Lib.hid hdb
  have HND := Lib.hid hnd
  have HP := Lib.hid hp
  have HMN := Lib.hid h.gi.mne
  clear hS hok hfree hps hgl hdb hnd hp h h0
  obtain ⟨us1, hus1⟩ : ∃ us1, us1 = cntU S p.d (-1) (usS S) p.d.gone.length := ⟨_, rfl⟩
  obtain ⟨gn1, hgn1⟩ : ∃ gn1, gn1 = cntG p.d (-1) (gnS S) p.d.gone.length := ⟨_, rfl⟩
  rw [← hus1, ← hgn1] at hcnt
  have Hus := Lib.hid hus1
  have Hgn := Lib.hid hgn1
  clear hus1 hgn1
  go_enter Tryd.func47, Tryd.ntmps47
  go_upto_region 1 with (go_at_call 74; refine hcnt.mono ?_; rintro e w1 ⟨rfl, hg1, hc1⟩)
  have f100 := (hg1.prt p HP.out).lines
  obtain ⟨A, c, egl, hcl, _⟩ := OwnS.rds (hg1.lns p HP.out)
  rw [egl] at f100
  obtain ⟨n, hN⟩ : ∃ n, n = p.d.lines.length := ⟨_, rfl⟩
  rw [← hN] at f100 hcl
  have HN := Lib.hid hN
  have HG := Lib.hid hg1
  have HC1 := Lib.hid hc1
  have hn1 : n ≤ 1000 := by have := HDb.out.lines; omega
  have H0 : Hid (DL w1 S p 0 w1) := ⟨Chg.refl _ _, by simpa using hg1.mapV⟩
  clear hcnt egl hN hg1 hc1
  go_upto_region 2 with (fail)
  clear f100
  go_loopw [14] (fun i wr => ∃ k : Nat, k ≤ n ∧ i = .int .i64 k ∧ Hid (DL w1 S p k wr)) (fun i _ => n - (intOf i).toNat)
  case atStart => exact ⟨0, Nat.zero_le _, rfl, H0⟩
  case round =>
    obtain ⟨k, hk, rfl, hI⟩ := hrel
    clear H0
    by_cases hlt : k < n
    · have hltI : (k : Int) < n := by omega
      have hk0 : 0 ≤ (k : Int) := by omega
      have hPr := hI.out.1.at (HG.out.prt p HP.out) (by simp only [List.mem_singleton]; exact HG.out.mapV.ne (HG.out.prt p HP.out))
      have hGr := hI.out.1.at HG.out.gr (by simp only [List.mem_singleton]; exact HG.out.mapV.ne HG.out.gr)
      have HPr : Hid (PRow wr p.b p.d p.lnv p.gnv p.rank p.chv (us1 p.b)) := hPr
      have HE3 : Hid (wr.cell? ⟨S.g, 3, none⟩ = some (.map (some S.mv))) := cell_row hGr 3
      have HKG : Hid (S.g ∉ [S.mv]) := by show _ ∉ _; simp only [List.mem_singleton]; exact HG.out.mapV.ne HG.out.gr
      have HKp : Hid (p.b ∉ [S.mv]) := by show _ ∉ _; simp only [List.mem_singleton]; exact HG.out.mapV.ne (HG.out.prt p HP.out)
      have HNx : Hid (∀ w6, MapF 27 w6 S.mv (if ((fun v => if v ∈ (own p.d).take k then none else (lineB S v).map ptr) (vert p.d k)).isSome then S.nv - k - 1 else S.nv - k) (upd1 (fun v => if v ∈ (own p.d).take k then none else (lineB S v).map ptr) (vert p.d k) none) → Chg [S.mv] wr w6 → DL w1 S p (k + 1) w6) := fun w6 hm hc => by
        have hkl : k < p.d.lines.length := by have := HN.out; omega
        have hin : vert p.d k ∈ own p.d := mem_own.2 ⟨k, hkl, rfl⟩
        refine hI.out.next hkl ((lineB_in HG.out.lsl).2 ?_) ?_ hm hc
        · rw [HS.out, ds_app]
          exact (verts_drop (ds l1) (ds l2) p.d _).2 (.inl hin)
        · intro hm2
          obtain ⟨j, hj, e⟩ := List.getElem_of_mem hm2
          rw [List.length_take] at hj
          have hlt2 : k < (own p.d).length := by rw [own_len]; exact hkl
          rw [List.getElem_take, ← own_at hlt2] at e
          have := nd_inj HND.out (by omega) hlt2 e
          omega
      clear hPr hGr
      go_upto_region 4 with (fail)
      have apx : apartB [17, 18, 19, 20, 21, 22, 23, 24, 25, 26, 1010] = true := by decide
      refine wp_region_any (by kernel_rfl) ?_
      change wpAny _ _ _ _ _ _ _ (World.drew _)
      refine wpAny_inv2 (fun ll aa wx => Hid (ll.size = 11 ∧ RelC 10 [S.mv] wr ll wx) ∧ ∃ (z : Nat → Value), Hid (aa = ⟨#[ptr S.g, ptr p.b, undef, undef, .int .i64 k, ptr S.g, ptr p.b, .tuple #[], ptr p.b, .pointer (some ⟨p.b, 0, none⟩), .pointer (some ⟨p.b, 0, none⟩), .pointer (some ⟨p.b, 100, none⟩), .slice A n c, .int .i64 n, .int .i64 k, .bool true, .int .i64 k, z 17, z 18, z 19, z 20, z 21, z 22, z 23, z 24, z 25, z 26, u27, undef, undef, undef, undef, undef, undef, undef, undef, undef], []⟩) ∧ Holding [17, 18, 19, 20, 21, 22, 23, 24, 25, 26, 1010] [some (ptr S.g), some (.pointer (some ⟨S.g, 0, none⟩)), some (.pointer (some ⟨S.g, 3, none⟩)), some (.map (some S.mv)), some (ptr p.b), some (.pointer (some ⟨p.b, 0, none⟩)), some (.pointer (some ⟨p.b, 0, none⟩)), some (.agg (givC p.d p.lnv p.gnv)), some (.int .i64 k), some (.agg (vert p.d k).c), none] ll z ∧ Whn ll 10 (DlQ w1 S p (k + 1)) (z 1010) wx) ?_ (by kernel_rfl) ?_ ?_ _ rfl _ _ ?_
      · rintro ll aa wx ⟨hI, _⟩
        exact hI.out.1
      · rintro ll aa wx ⟨hI, z, ha, hz, hp10⟩ hall
        have hx := Lib.hid hI.out.2
        have e0 : z 17 = ptr S.g := hz 0 _ (hall 0 (by decide)) rfl
        have e1 : z 18 = .pointer (some ⟨S.g, 0, none⟩) := hz 1 _ (hall 1 (by decide)) rfl
        have e2 : z 19 = .pointer (some ⟨S.g, 3, none⟩) := hz 2 _ (hall 2 (by decide)) rfl
        have e3 : z 20 = .map (some S.mv) := hz 3 _ (hall 3 (by decide)) rfl
        have e4 : z 21 = ptr p.b := hz 4 _ (hall 4 (by decide)) rfl
        have e5 : z 22 = .pointer (some ⟨p.b, 0, none⟩) := hz 5 _ (hall 5 (by decide)) rfl
        have e6 : z 23 = .pointer (some ⟨p.b, 0, none⟩) := hz 6 _ (hall 6 (by decide)) rfl
        have e7 : z 24 = .agg (givC p.d p.lnv p.gnv) := hz 7 _ (hall 7 (by decide)) rfl
        have e8 : z 25 = .int .i64 k := hz 8 _ (hall 8 (by decide)) rfl
        have e9 : z 26 = .agg (vert p.d k).c := hz 9 _ (hall 9 (by decide)) rfl
        have p10 := hp10.get (hall 10 (by decide))
        clear hall hz hI hp10
        obtain rfl := ha.out
        clear ha
        clear apx
        have HQ := Lib.hid p10
        clear hx p10 e0 e1 e2 e3 e4 e5 e6 e7 e8 e9
        generalize z 17 = q17
        generalize z 18 = q18
        generalize z 19 = q19
        generalize z 20 = q20
        generalize z 21 = q21
        generalize z 22 = q22
        generalize z 23 = q23
        generalize z 24 = q24
        generalize z 25 = q25
        generalize z 26 = q26
        go_wp2
        refine ⟨⟨k + 1, hlt, by go_num, HQ.out⟩, ?_⟩
        simp only [intOf]
        omega
      · rintro ll aa wx i ⟨hI, z, ha, hz, hp10⟩ hcl hi hu hw
        obtain rfl := ha.out
        have hsz := Lib.hid hI.out.1
        have hx := Lib.hid hI.out.2
        clear ha hI
        have hin : i < 11 := hi
        obtain rfl | rfl | rfl | rfl | rfl | rfl | rfl | rfl | rfl | rfl | rfl : i = 0 ∨ i = 1 ∨ i = 2 ∨ i = 3 ∨ i = 4 ∨ i = 5 ∨ i = 6 ∨ i = 7 ∨ i = 8 ∨ i = 9 ∨ i = 10 := by omega
        · refine wpOp_plain rfl rfl ?_
          go_simp
          exact ⟨⟨by simp [hsz.out], hx.out.same⟩, upd z 17 (ptr S.g), (by unfold Hid; simp [upd]), hz.next apx hsz.out 0 (by decide) _ (fun _ h => Option.some.inj h), hp10.keep (by decide)⟩
        · have e0 : z 17 = ptr S.g := hz 0 _ (hw 0 (by kernel_rfl)) rfl
          refine wpOp_plain rfl rfl ?_
          go_simp
          exact ⟨⟨by simp [hsz.out], hx.out.same⟩, upd z 18 (.pointer (some ⟨S.g, 0, none⟩)), (by unfold Hid; simp [upd, e0]), hz.next apx hsz.out 1 (by decide) _ (fun _ h => Option.some.inj h), hp10.keep (by decide)⟩
        · have e1 : z 18 = .pointer (some ⟨S.g, 0, none⟩) := hz 1 _ (hw 1 (by kernel_rfl)) rfl
          refine wpOp_plain rfl rfl ?_
          go_simp
          exact ⟨⟨by simp [hsz.out], hx.out.same⟩, upd z 19 (.pointer (some ⟨S.g, 3, none⟩)), (by unfold Hid; simp [upd, e1]), hz.next apx hsz.out 2 (by decide) _ (fun _ h => Option.some.inj h), hp10.keep (by decide)⟩
        · have e2 : z 19 = .pointer (some ⟨S.g, 3, none⟩) := hz 2 _ (hw 2 (by kernel_rfl)) rfl
          have cl := hx.out.cell HE3.out HKG.out
          refine wpOp_plain rfl rfl ?_
          go_simp
          exact ⟨⟨by simp [hsz.out], hx.out.same⟩, upd z 20 (.map (some S.mv)), (by unfold Hid; simp [upd, e2]), hz.next apx hsz.out 3 (by decide) _ (fun _ h => Option.some.inj h), hp10.keep (by decide)⟩
        · refine wpOp_plain rfl rfl ?_
          go_simp
          exact ⟨⟨by simp [hsz.out], hx.out.same⟩, upd z 21 (ptr p.b), (by unfold Hid; simp [upd]), hz.next apx hsz.out 4 (by decide) _ (fun _ h => Option.some.inj h), hp10.keep (by decide)⟩
        · have e4 : z 21 = ptr p.b := hz 4 _ (hw 4 (by kernel_rfl)) rfl
          refine wpOp_plain rfl rfl ?_
          go_simp
          exact ⟨⟨by simp [hsz.out], hx.out.same⟩, upd z 22 (.pointer (some ⟨p.b, 0, none⟩)), (by unfold Hid; simp [upd, e4]), hz.next apx hsz.out 5 (by decide) _ (fun _ h => Option.some.inj h), hp10.keep (by decide)⟩
        · have e5 : z 22 = .pointer (some ⟨p.b, 0, none⟩) := hz 5 _ (hw 5 (by kernel_rfl)) rfl
          refine wpOp_plain rfl rfl ?_
          go_simp
          exact ⟨⟨by simp [hsz.out], hx.out.same⟩, upd z 23 (.pointer (some ⟨p.b, 0, none⟩)), (by unfold Hid; simp [upd, e5]), hz.next apx hsz.out 6 (by decide) _ (fun _ h => Option.some.inj h), hp10.keep (by decide)⟩
        · have e6 : z 23 = .pointer (some ⟨p.b, 0, none⟩) := hz 6 _ (hw 6 (by kernel_rfl)) rfl
          have cl := loadGv_mid (PRow.given (hx.out.at HPr.out HKp.out))
          refine wpOp_plain rfl rfl ?_
          go_simp
          exact ⟨⟨by simp [hsz.out], hx.out.same⟩, upd z 24 (.agg (givC p.d p.lnv p.gnv)), (by unfold Hid; simp [upd, e6]), hz.next apx hsz.out 7 (by decide) _ (fun _ h => Option.some.inj h), hp10.keep (by decide)⟩
        · refine wpOp_plain rfl rfl ?_
          go_simp
          exact ⟨⟨by simp [hsz.out], hx.out.same⟩, upd z 25 (.int .i64 k), (by unfold Hid; simp [upd]), hz.next apx hsz.out 8 (by decide) _ (fun _ h => Option.some.inj h), hp10.keep (by decide)⟩
        · have e7 : z 24 = .agg (givC p.d p.lnv p.gnv) := hz 7 _ (hw 7 (by kernel_rfl)) rfl
          have e8 : z 25 = .int .i64 k := hz 8 _ (hw 8 (by kernel_rfl)) rfl
          refine wpOp_plain rfl rfl ?_
          go_simp
          go_at_call 72
          refine (vertex_any p.d p.lnv p.gnv k wx).mono ?_
          rintro e w8 ⟨rfl, low⟩
          exact ⟨⟨by simp [hsz.out], hx.out.call low⟩, upd z 26 (.agg (vert p.d k).c), (by unfold Hid; simp [upd, e7, e8]), hz.next apx hsz.out 9 (by decide) _ (fun _ h => Option.some.inj h), Whn.never (by decide) (fun hl => hcl 10 9 hl (by kernel_rfl)) hu⟩
        · have e3 : z 20 = .map (some S.mv) := hz 3 _ (hw 3 (by kernel_rfl)) rfl
          have e9 : z 26 = .agg (vert p.d k).c := hz 9 _ (hw 9 (by kernel_rfl)) rfl
          have hlow := hx.out.2 hu
          obtain ⟨w6, kr, hm6, hc6⟩ := (hI.out.2.stay (hlow.block _ hI.out.2.lt)).del kbV Tryd.underlying36 (vert p.d k) 0
          have Hm6 := Lib.hid hm6
          clear hm6
          refine wpOp_plain rfl rfl ?_
          go_simp
          exact ⟨⟨by simp [hsz.out], hx.out.wr hc6 (by rw [hsz.out]; decide)⟩, upd z 1010 (undef), (by unfold Hid; simp [upd, e3, e9]), hz.next apx hsz.out 10 (by decide) _ (fun _ h => by cases h), Whn.done (HNx.out _ Hm6.out ((Chg.of_below hlow).trans hc6))⟩
      · exact ⟨⟨rfl, RelC.start⟩, fun xx => (#[ptr S.g, ptr p.b, undef, undef, .int .i64 k, ptr S.g, ptr p.b, .tuple #[], ptr p.b, .pointer (some ⟨p.b, 0, none⟩), .pointer (some ⟨p.b, 0, none⟩), .pointer (some ⟨p.b, 100, none⟩), .slice A n c, .int .i64 n, .int .i64 k, .bool true, .int .i64 k, u17, u18, u19, u20, u21, u22, u23, u24, u25, u26, u27, undef, undef, undef, undef, undef, undef, undef, undef, undef] : Array Value).getD xx undef, (by rfl), Holding.start, Whn.none (by decide)⟩
    · have hltI : ¬ (k : Int) < n := by omega
      obtain rfl : k = n := by omega
      have hPr := hI.out.1.at (HG.out.prt p HP.out) (by simp only [List.mem_singleton]; exact HG.out.mapV.ne (HG.out.prt p HP.out))
      have hGr := hI.out.1.at HG.out.gr (by simp only [List.mem_singleton]; exact HG.out.mapV.ne HG.out.gr)
      have HPr : Hid (PRow wr p.b p.d p.lnv p.gnv p.rank p.chv (us1 p.b)) := hPr
      have HE2 : Hid (wr.cell? ⟨S.g, 2, none⟩ = some (.map (some S.mp))) := cell_row hGr 2
      have HKG : Hid (S.g ∉ [S.mp]) := by show _ ∉ _; simp only [List.mem_singleton]; exact HG.out.mapP.ne HG.out.gr
      have HKp : Hid (p.b ∉ [S.mp]) := by show _ ∉ _; simp only [List.mem_singleton]; exact HG.out.mapP.ne (HG.out.prt p HP.out)
      have HMp := Lib.hid (HG.out.mapP.stay (hI.out.1.block _ HG.out.mapP.lt (by simp only [List.mem_singleton]; exact HMN.out)))
      have Hfn : Hid (((S.ps.find? fun q => decide (q.d.nm = p.d.nm)).map fun q => ptr q.b).isSome = true) := by
        show _ = _
        rw [Option.isSome_map, List.find?_isSome]
        exact ⟨p, HP.out, by simp⟩
      have HE : Hid (∀ w9, MpQ S.mp (S.ps.length - 1) (upd1 (fun x => (S.ps.find? fun q => decide (q.d.nm = x)).map fun q => ptr q.b) p.d.nm none) wr undef w9 → GI w9 (dropS S p (l1 ++ l2)) ∧ Chg (blk S) w w9) := fun w9 hq => by
        have hcV : Chg [S.mp, S.mv] w1 w9 := (hI.out.1.mono (fun b hb => .inl (List.mem_cons_of_mem _ hb))).trans (hq.2.mono (fun b hb => .inl (by rw [List.mem_singleton.1 hb]; exact List.mem_cons_self)))
        have hV := hI.out.2.stay (hq.2.block _ hI.out.2.lt (by simp only [List.mem_singleton]; exact fun e => HMN.out e.symm))
        rw [List.take_of_length_le (by rw [own_len, HN.out]; exact Nat.le_refl _), HN.out] at hV
        have hg := gm_drop HS.out HOk.out HFr.out HG.out hcV hq.1 hV
        rw [Hus.out, Hgn.out, usS_drop HS.out HFr.out, gnS_drop HS.out] at hg
        refine ⟨⟨hg, gok_drop HS.out HOk.out (fun q hq => HFr.out q (by rw [ds_app]; exact List.mem_append.2 (.inl hq))), HMN.out⟩, HC1.out.trans (hcV.mono (fun b hb => .inl ?_))⟩
        simp only [List.mem_cons, List.mem_nil_iff, or_false] at hb
        unfold blk
        rcases hb with rfl | rfl <;> simp
      clear hPr hGr
      go_upto_region 6 with (fail)
      have apx : apartB [28, 29, 30, 31, 32, 33, 34, 35, 36, 1009] = true := by decide
      refine wp_region_any (by kernel_rfl) ?_
      change wpAny _ _ _ _ _ _ _ (World.drew _)
      refine wpAny_inv2 (fun ll aa wx => Hid (ll.size = 10 ∧ RelC 9 [S.mp] wr ll wx) ∧ ∃ (z : Nat → Value), Hid (aa = ⟨#[ptr S.g, ptr p.b, undef, undef, u4, ptr S.g, ptr p.b, .tuple #[], ptr p.b, .pointer (some ⟨p.b, 0, none⟩), .pointer (some ⟨p.b, 0, none⟩), .pointer (some ⟨p.b, 100, none⟩), .slice A k c, .int .i64 k, .int .i64 k, .bool false, u16, u17, u18, u19, u20, u21, u22, u23, u24, u25, u26, u27, z 28, z 29, z 30, z 31, z 32, z 33, z 34, z 35, z 36], []⟩) ∧ Holding [28, 29, 30, 31, 32, 33, 34, 35, 36, 1009] [some (ptr S.g), some (.pointer (some ⟨S.g, 0, none⟩)), some (.pointer (some ⟨S.g, 2, none⟩)), some (.map (some S.mp)), some (ptr p.b), some (.pointer (some ⟨p.b, 0, none⟩)), some (.pointer (some ⟨p.b, 0, none⟩)), some (.agg (givC p.d p.lnv p.gnv)), some (.agg p.d.nm.c), none] ll z ∧ Whn ll 9 (MpQ S.mp (S.ps.length - 1) (upd1 (fun x => (S.ps.find? fun q => decide (q.d.nm = x)).map fun q => ptr q.b) p.d.nm none) wr) (z 1009) wx) ?_ (by kernel_rfl) ?_ ?_ _ rfl _ _ ?_
      · rintro ll aa wx ⟨hI, _⟩
        exact hI.out.1
      · rintro ll aa wx ⟨hI, z, ha, hz, hp9⟩ hall
        have hx := Lib.hid hI.out.2
        have e0 : z 28 = ptr S.g := hz 0 _ (hall 0 (by decide)) rfl
        have e1 : z 29 = .pointer (some ⟨S.g, 0, none⟩) := hz 1 _ (hall 1 (by decide)) rfl
        have e2 : z 30 = .pointer (some ⟨S.g, 2, none⟩) := hz 2 _ (hall 2 (by decide)) rfl
        have e3 : z 31 = .map (some S.mp) := hz 3 _ (hall 3 (by decide)) rfl
        have e4 : z 32 = ptr p.b := hz 4 _ (hall 4 (by decide)) rfl
        have e5 : z 33 = .pointer (some ⟨p.b, 0, none⟩) := hz 5 _ (hall 5 (by decide)) rfl
        have e6 : z 34 = .pointer (some ⟨p.b, 0, none⟩) := hz 6 _ (hall 6 (by decide)) rfl
        have e7 : z 35 = .agg (givC p.d p.lnv p.gnv) := hz 7 _ (hall 7 (by decide)) rfl
        have e8 : z 36 = .agg p.d.nm.c := hz 8 _ (hall 8 (by decide)) rfl
        have p9 := hp9.get (hall 9 (by decide))
        clear hall hz hI hp9
        obtain rfl := ha.out
        clear ha
        clear apx
        have HQ := Lib.hid p9
        clear hx p9 e0 e1 e2 e3 e4 e5 e6 e7 e8
        generalize z 28 = q28
        generalize z 29 = q29
        generalize z 30 = q30
        generalize z 31 = q31
        generalize z 32 = q32
        generalize z 33 = q33
        generalize z 34 = q34
        generalize z 35 = q35
        generalize z 36 = q36
        rename World => w9
        have HFin := Lib.hid (HE.out w9 HQ.out)
        clear HQ HE
        go_wp2
        exact bodyPost_end (results_none rfl _ _ _) rfl ⟨rfl, HFin.out⟩
      · rintro ll aa wx i ⟨hI, z, ha, hz, hp9⟩ hcl hi hu hw
        obtain rfl := ha.out
        have hsz := Lib.hid hI.out.1
        have hx := Lib.hid hI.out.2
        clear ha hI
        have hin : i < 10 := hi
        obtain rfl | rfl | rfl | rfl | rfl | rfl | rfl | rfl | rfl | rfl : i = 0 ∨ i = 1 ∨ i = 2 ∨ i = 3 ∨ i = 4 ∨ i = 5 ∨ i = 6 ∨ i = 7 ∨ i = 8 ∨ i = 9 := by omega
        · refine wpOp_plain rfl rfl ?_
          go_simp
          exact ⟨⟨by simp [hsz.out], hx.out.same⟩, upd z 28 (ptr S.g), (by unfold Hid; simp [upd]), hz.next apx hsz.out 0 (by decide) _ (fun _ h => Option.some.inj h), hp9.keep (by decide)⟩
        · have e0 : z 28 = ptr S.g := hz 0 _ (hw 0 (by kernel_rfl)) rfl
          refine wpOp_plain rfl rfl ?_
          go_simp
          exact ⟨⟨by simp [hsz.out], hx.out.same⟩, upd z 29 (.pointer (some ⟨S.g, 0, none⟩)), (by unfold Hid; simp [upd, e0]), hz.next apx hsz.out 1 (by decide) _ (fun _ h => Option.some.inj h), hp9.keep (by decide)⟩
        · have e1 : z 29 = .pointer (some ⟨S.g, 0, none⟩) := hz 1 _ (hw 1 (by kernel_rfl)) rfl
          refine wpOp_plain rfl rfl ?_
          go_simp
          exact ⟨⟨by simp [hsz.out], hx.out.same⟩, upd z 30 (.pointer (some ⟨S.g, 2, none⟩)), (by unfold Hid; simp [upd, e1]), hz.next apx hsz.out 2 (by decide) _ (fun _ h => Option.some.inj h), hp9.keep (by decide)⟩
        · have e2 : z 30 = .pointer (some ⟨S.g, 2, none⟩) := hz 2 _ (hw 2 (by kernel_rfl)) rfl
          have cl := hx.out.cell HE2.out HKG.out
          refine wpOp_plain rfl rfl ?_
          go_simp
          exact ⟨⟨by simp [hsz.out], hx.out.same⟩, upd z 31 (.map (some S.mp)), (by unfold Hid; simp [upd, e2]), hz.next apx hsz.out 3 (by decide) _ (fun _ h => Option.some.inj h), hp9.keep (by decide)⟩
        · refine wpOp_plain rfl rfl ?_
          go_simp
          exact ⟨⟨by simp [hsz.out], hx.out.same⟩, upd z 32 (ptr p.b), (by unfold Hid; simp [upd]), hz.next apx hsz.out 4 (by decide) _ (fun _ h => Option.some.inj h), hp9.keep (by decide)⟩
        · have e4 : z 32 = ptr p.b := hz 4 _ (hw 4 (by kernel_rfl)) rfl
          refine wpOp_plain rfl rfl ?_
          go_simp
          exact ⟨⟨by simp [hsz.out], hx.out.same⟩, upd z 33 (.pointer (some ⟨p.b, 0, none⟩)), (by unfold Hid; simp [upd, e4]), hz.next apx hsz.out 5 (by decide) _ (fun _ h => Option.some.inj h), hp9.keep (by decide)⟩
        · have e5 : z 33 = .pointer (some ⟨p.b, 0, none⟩) := hz 5 _ (hw 5 (by kernel_rfl)) rfl
          refine wpOp_plain rfl rfl ?_
          go_simp
          exact ⟨⟨by simp [hsz.out], hx.out.same⟩, upd z 34 (.pointer (some ⟨p.b, 0, none⟩)), (by unfold Hid; simp [upd, e5]), hz.next apx hsz.out 6 (by decide) _ (fun _ h => Option.some.inj h), hp9.keep (by decide)⟩
        · have e6 : z 34 = .pointer (some ⟨p.b, 0, none⟩) := hz 6 _ (hw 6 (by kernel_rfl)) rfl
          have cl := loadGv_mid (PRow.given (hx.out.at HPr.out HKp.out))
          refine wpOp_plain rfl rfl ?_
          go_simp
          exact ⟨⟨by simp [hsz.out], hx.out.same⟩, upd z 35 (.agg (givC p.d p.lnv p.gnv)), (by unfold Hid; simp [upd, e6]), hz.next apx hsz.out 7 (by decide) _ (fun _ h => Option.some.inj h), hp9.keep (by decide)⟩
        · have e7 : z 35 = .agg (givC p.d p.lnv p.gnv) := hz 7 _ (hw 7 (by kernel_rfl)) rfl
          refine wpOp_plain rfl rfl ?_
          go_simp
          go_at_call 73
          refine (name_any p.d p.lnv p.gnv wx).mono ?_
          rintro e w8 ⟨rfl, low⟩
          exact ⟨⟨by simp [hsz.out], hx.out.call low⟩, upd z 36 (.agg p.d.nm.c), (by unfold Hid; simp [upd, e7]), hz.next apx hsz.out 8 (by decide) _ (fun _ h => Option.some.inj h), Whn.never (by decide) (fun hl => hcl 9 8 hl (by kernel_rfl)) hu⟩
        · have e3 : z 31 = .map (some S.mp) := hz 3 _ (hw 3 (by kernel_rfl)) rfl
          have e8 : z 36 = .agg p.d.nm.c := hz 8 _ (hw 8 (by kernel_rfl)) rfl
          have hlow := hx.out.2 hu
          obtain ⟨w6, kr, hm6, hc6⟩ := (HMp.out.stay (hlow.block _ HMp.out.lt)).del kbN Tryd.underlying35 p.d.nm 0
          simp only [Hfn.out, if_true] at hm6
          have Hm6 := Lib.hid hm6
          clear hm6
          refine wpOp_plain rfl rfl ?_
          go_simp
          exact ⟨⟨by simp [hsz.out], hx.out.wr hc6 (by rw [hsz.out]; decide)⟩, upd z 1009 (undef), (by unfold Hid; simp [upd, e3, e8]), hz.next apx hsz.out 9 (by decide) _ (fun _ h => by cases h), Whn.done (⟨Hm6.out, (Chg.of_below hlow).trans hc6⟩)⟩
      · exact ⟨⟨rfl, RelC.start⟩, fun xx => (#[ptr S.g, ptr p.b, undef, undef, u4, ptr S.g, ptr p.b, .tuple #[], ptr p.b, .pointer (some ⟨p.b, 0, none⟩), .pointer (some ⟨p.b, 0, none⟩), .pointer (some ⟨p.b, 100, none⟩), .slice A k c, .int .i64 k, .int .i64 k, .bool false, u16, u17, u18, u19, u20, u21, u22, u23, u24, u25, u26, u27, undef, undef, undef, undef, undef, undef, undef, undef, undef] : Array Value).getD xx undef, (by rfl), Holding.start, Whn.none (by decide)⟩
end Go.Proofs.YtnjeppmpnaemlaaDoor.Grf
/- DERIVED. Remove by contract. -/
set_option maxRecDepth 100000
namespace Go.Proofs.YtnjeppmpnaemlaaDoor.Grf
open Go.RowKit Str Go.Maps
theorem GX.drop {w w' : World} {S : GS} {n : Nat} (h : GX w S n) {p : PA} {l1 l2 : List PA} (hS : S.ps = l1 ++ p :: l2) (hg : GI w' (dropS S p (l1 ++ l2))) : GX w' (dropS S p (l1 ++ l2)) n where
  gi := hg
  ps := by
    have h1 := h.ps
    rw [hS, List.length_append, List.length_cons] at h1
    show (l1 ++ l2).length ≤ n
    rw [List.length_append]
    omega
  added := h.added
  nv := Nat.le_trans (Nat.sub_le _ _) h.nv
  db := fun q hq => h.db q (by
    rw [hS]
    exact ((List.Sublist.refl l1).append (List.sublist_cons_self p l2)).subset hq)
/-- where a part of this name stands. -/
theorem partB_split {S : GS} {x : Vx} {p : PA} (h : partB S x = some p) : ∃ l1 l2, S.ps = l1 ++ p :: l2 ∧ p.d.nm = x := by
  unfold partB at h
  have h1 := List.mem_of_find?_eq_some h
  have h2 := List.find?_some h
  obtain ⟨l1, l2, e⟩ := List.append_of_mem h1
  exact ⟨l1, l2, e, by simpa using h2⟩
/-- a part goes. -/
theorem remove_gx (S : GS) (n : Nat) (hn : n ≤ 100) (x : Vx) (p : PA) (w : World) (h : GX w S n) (hq : partB S x = some p) (h0 : usS S p.b = 0) :
    Calls Tryd.prog 23 #[ptr S.g, .agg (hsC x.h), .int .i64 x.n] w fun e w' => e = .returned (.int .i64 0) ∧ ∃ l1 l2, S.ps = l1 ++ p :: l2 ∧ GX w' (dropS S p (l1 ++ l2)) n ∧ ∃ u, Below w.heap.size w u ∧ Chg (blk S) u w' := by
  obtain ⟨l1, l2, hS, _⟩ := partB_split hq
  refine remove_drop S _ _ x p w h.gi.gm hq h0 _ (fun u hu => ?_)
  refine (drop_any S n hn u (h.below hu) p l1 l2 hS h0).mono ?_
  rintro e w' ⟨rfl, h1, h2⟩
  exact ⟨rfl, l1, l2, hS, h.drop hS h1, u, hu, h2⟩
/-- whose lines nobody names is used by nobody. -/
theorem names_eq : ∀ {l : List PD}, Adm l → ∀ {p q : PD}, p ∈ l → q ∈ l → p.nm = q.nm → p = q := by
  intro l
  induction l with
  | nil => intro _ p q h; cases h
  | cons r t ih =>
    intro ha p q hp hq e
    cases ha with
    | cons h f _ _ =>
      rcases List.mem_cons.1 hp with h1 | hp
      · rcases List.mem_cons.1 hq with h2 | hq
        · rw [h1, h2]
        · exact absurd (e.symm.trans (by rw [h1])) (f.name q hq)
      · rcases List.mem_cons.1 hq with h2 | hq
        · exact absurd (e.trans (by rw [h2])) (f.name p hp)
        · exact ih h hp hq e
theorem givC_nm {d d' : PD} {l g l' g' : Value} (h : givC d l g = givC d' l' g') : d.nm = d'.nm := by
  have h2 : (givC d l g).toList.take 33 = (givC d' l' g').toList.take 33 := by rw [h]
  rw [givC_list, givC_list] at h2
  have e : ∀ (d : PD) (l g : Value), (d.nm.c.toList ++ [Value.int .i64 d.first] ++ d.up.c.toList ++ d.down.c.toList ++ [l, g]).take 33 = d.nm.c.toList := fun d l g => by
    simp only [List.append_assoc]
    rw [List.take_append_of_le_length (by simp [Vx.c_size]), List.take_of_length_le (by simp [Vx.c_size])]
  rw [e, e] at h2
  exact Vx.c_inj (Array.toList_inj.1 h2)
theorem row_nm {w : World} {b : Nat} {d d' : PD} {l g l' g' : Value} {r r' : Int} {c c' : Value} {u u' : Int} (h : PRow w b d l g r c u) (h' : PRow w b d' l' g' r' c' u') : d.nm = d'.nm ∧ r = r' := by
  have e : partC d l g r c u = partC d' l' g' r' c' u' := by
    have h1 : some (Obj.cells (partC d l g r c u) 90 (0, 0)) = some (Obj.cells (partC d' l' g' r' c' u') 90 (0, 0)) := h.symm.trans h'
    simpa using h1
  have e2 : (givC d l g).toList ++ [Value.int .i64 r, c, .int .i64 u] = (givC d' l' g').toList ++ [Value.int .i64 r', c', .int .i64 u'] := by rw [← partC_list, ← partC_list, e]
  obtain ⟨e3, e4⟩ := List.append_inj e2 (by rw [Array.length_toList, Array.length_toList, givC_size, givC_size])
  refine ⟨givC_nm (Array.toList_inj.1 e3), ?_⟩
  simp only [List.cons.injEq, Value.int.injEq, true_and] at e4
  exact e4.1
theorem pOf_other {w : World} {S : GS} {us : Nat → Int} {gn : Vx → Int} (h : GM w S us gn) (hok : GOk S) {p : PA} (hp : p ∈ S.ps) {v : Vx} (hv : v ∉ own p.d) : pOf S v ≠ p.b := by
  intro e
  unfold pOf at e
  cases hf : find S.ps v with
  | some x =>
    obtain ⟨q, i⟩ := x
    rw [hf] at e
    simp only at e
    obtain ⟨h1, _, _, h4, _⟩ := find_some hf
    have hq := h.prt q h1
    rw [e] at hq
    have hn := (row_nm hq (h.prt p hp)).1
    have := names_eq hok.adm (List.mem_map.2 ⟨q, h1, rfl⟩) (List.mem_map.2 ⟨p, hp, rfl⟩) hn
    exact hv (this ▸ h4)
  | none =>
    rw [hf] at e
    simp only at e
    have hq := h.frm
    rw [e] at hq
    have hr := (row_nm hq (h.prt p hp)).2
    have := hok.falls.2 p hp
    omega
theorem used_not {w : World} {S : GS} {us : Nat → Int} {gn : Vx → Int} (h : GM w S us gn) (hok : GOk S) {p : PA} (hp : p ∈ S.ps) (hf : Free p.d (ds S.ps)) : usS S p.b = 0 := by
  unfold usS
  have : ∀ q ∈ S.ps, ((if pOf S q.d.up = p.b then (1 : Int) else 0) + (if pOf S q.d.down = p.b then (1 : Int) else 0) + ((q.d.gone.countP fun v => decide (pOf S v = p.b) : Nat) : Int)) = 0 := fun q hq => by
    have hq2 := hf q.d (List.mem_map.2 ⟨q, hq, rfl⟩)
    rw [if_neg (pOf_other h hok hp hq2.1), if_neg (pOf_other h hok hp hq2.2.1)]
    have : (q.d.gone.countP fun v => decide (pOf S v = p.b)) = 0 := by
      rw [List.countP_eq_zero]
      intro v hv
      simpa using pOf_other h hok hp (hq2.2.2 v hv)
    rw [this]; rfl
  rw [List.map_congr_left this]
  generalize S.ps = l
  induction l with
  | nil => rfl
  | cons a t ih => rw [List.map_cons, List.sum_cons, ih]; rfl
end Go.Proofs.YtnjeppmpnaemlaaDoor.Grf
/- DERIVED. What the law's GraphKnown asks of its graphs. -/
set_option maxRecDepth 100000
namespace Go.Proofs.YtnjeppmpnaemlaaDoor.Grf
open Go.RowKit Str Go.Maps
theorem giv_up (d : PD) (l g : Value) (v : Vx) : splice (givC d l g).toList 34 v.c.toList = (givC { d with up := v } l g).toList := by
  have e : (givC d l g).toList = (d.nm.c.toList ++ [Value.int .i64 d.first]) ++ (d.up.c.toList ++ (d.down.c.toList ++ [l, g])) := by rw [givC_list]; simp [List.append_assoc]
  have h1 : (d.nm.c.toList ++ [Value.int .i64 d.first]).length = 34 := by simp [Vx.c_size]
  unfold splice
  rw [e, givC_list, List.take_append_of_le_length (by omega), List.take_of_length_le (by omega), List.drop_append, List.drop_of_length_le (by simp [Vx.c_size]), List.drop_append, List.drop_of_length_le (by rw [h1]; simp [Vx.c_size])]
  simp [Vx.c_size, List.append_assoc]
theorem giv_down (d : PD) (l g : Value) (v : Vx) : splice (givC d l g).toList 67 v.c.toList = (givC { d with down := v } l g).toList := by
  have e : (givC d l g).toList = (d.nm.c.toList ++ [Value.int .i64 d.first] ++ d.up.c.toList) ++ (d.down.c.toList ++ [l, g]) := by rw [givC_list]; simp [List.append_assoc]
  have h1 : (d.nm.c.toList ++ [Value.int .i64 d.first] ++ d.up.c.toList).length = 67 := by simp [Vx.c_size]
  unfold splice
  rw [e, givC_list, List.take_append_of_le_length (by omega), List.take_of_length_le (by omega), List.drop_append, List.drop_of_length_le (by rw [h1]; simp [Vx.c_size]), List.drop_append, List.drop_of_length_le (by rw [h1]; simp [Vx.c_size])]
  simp [Vx.c_size, List.append_assoc]
theorem row_up {w : World} {b : Nat} {d : PD} {l g : Value} (h : GRow w b d l g) (v : Vx) : GRow (w.setCells b 34 v.c.toList) b { d with up := v } l g := by
  have := heap_setCells v.c.toList 34 w _ h (by rw [Array.length_toList, Vx.c_size, givC_size]; omega)
  rw [giv_up, Array.toArray_toList] at this
  exact this
theorem row_down {w : World} {b : Nat} {d : PD} {l g : Value} (h : GRow w b d l g) (v : Vx) : GRow (w.setCells b 67 v.c.toList) b { d with down := v } l g := by
  have := heap_setCells v.c.toList 67 w _ h (by rw [Array.length_toList, Vx.c_size, givC_size]; omega)
  rw [giv_down, Array.toArray_toList] at this
  exact this
/-- what the law asks at some vertices. -/
structure KB1 (W : World) (S1 : GS) (y10 y11 y20 y30 : Vx) : Prop where
  a10 : ∀ w, Calls Tryd.prog 15 #[.int .u8 1, .int .i64 0] w fun e w' => e = .returned (.agg y10.c) ∧ Below w.heap.size w w'
  a11 : ∀ w, Calls Tryd.prog 15 #[.int .u8 1, .int .i64 1] w fun e w' => e = .returned (.agg y11.c) ∧ Below w.heap.size w w'
  a20 : ∀ w, Calls Tryd.prog 15 #[.int .u8 2, .int .i64 0] w fun e w' => e = .returned (.agg y20.c) ∧ Below w.heap.size w w'
  a30 : ∀ w, Calls Tryd.prog 15 #[.int .u8 3, .int .i64 0] w fun e w' => e = .returned (.agg y30.c) ∧ Below w.heap.size w w'
  b23 : ∀ u, Below W.heap.size W u → Calls Tryd.prog 18 #[ptr S1.g, .agg y20.c, .agg y30.c] u fun e w' => e = .returned (.bool false) ∧ Below u.heap.size u w'
  b32 : ∀ u, Below W.heap.size W u → Calls Tryd.prog 18 #[ptr S1.g, .agg y30.c, .agg y20.c] u fun e w' => e = .returned (.bool false) ∧ Below u.heap.size u w'
  b01 : ∀ u, Below W.heap.size W u → Calls Tryd.prog 18 #[ptr S1.g, .agg y10.c, .agg y11.c] u fun e w' => e = .returned (.bool true) ∧ Below u.heap.size u w'
  bre : ∀ u, Below W.heap.size W u → Calls Tryd.prog 18 #[ptr S1.g, .agg root.c, .agg fin.c] u fun e w' => e = .returned (.bool true) ∧ Below u.heap.size u w'
  brr : ∀ u, Below W.heap.size W u → Calls Tryd.prog 18 #[ptr S1.g, .agg root.c, .agg root.c] u fun e w' => e = .returned (.bool false) ∧ Below u.heap.size u w'
theorem kb1_of {W : World} {S1 : GS} (h : GX W S1 3) (hp : ds S1.ps = [dThird, dSecond, dFirst]) : KB1 W S1 v10 v11 v20 v30 := by
  have hB : ∀ (a b : Vx) (c : Bool), befD [dThird, dSecond, dFirst] a b = c → ∀ u, Below W.heap.size W u → Calls Tryd.prog 18 #[ptr S1.g, .agg a.c, .agg b.c] u fun e w' => e = .returned (.bool c) ∧ Below u.heap.size u w' := fun a b c hc u hu => by
    have := before_gx S1 3 a b u (h.below hu)
    rw [BefB_D h.gi.gm.lsl, hp, hc] at this
    exact this
  exact ⟨lat_any 1 0 (by omega) (by omega), lat_any 1 1 (by omega) (by omega), lat_any 2 0 (by omega) (by omega), lat_any 3 0 (by omega) (by omega), hB _ _ _ (by kernel_rfl), hB _ _ _ (by kernel_rfl), hB _ _ _ (by kernel_rfl), hB _ _ _ (by kernel_rfl), hB _ _ _ (by kernel_rfl)⟩
/-- a hash that is built. -/
noncomputable def bHash (p : Array (Nat × Value)) : Sem Value := Instr.build 25 p
theorem bHash_of (p : Array (Nat × Value)) : Instr.build 25 p = bHash p := rfl
theorem built_h0 : Tryd.prog.built 25 [] = some (hsC (List.replicate 32 0)) := by kernel_rfl
def hb (k : Int) : List Int := k :: List.replicate 31 0
def z32 : List Int := List.replicate 32 0
theorem run_bHash (x : Int) (w : World) : (bHash #[(0, .int .u8 x)]).run Tryd.prog w = .ok (.agg (hsC (hb x))) w := run_build w _ _ _ (built_hA x)
theorem run_bHash0 (w : World) : (bHash #[]).run Tryd.prog w = .ok (.agg (hsC z32)) w := run_build w _ _ _ built_h0
attribute [irreducible] bHash
theorem us_pos {S : GS} {p : PA} {l1 l2 : List PA} (hS : S.ps = l1 ++ p :: l2) (hok : GOk S) (hf : ¬ Free p.d (ds (l1 ++ l2))) : 0 < usS S p.b := by
  have h1 : 0 ≤ usS S p.b := (sum_zero _ S.ps (fun x _ => by split <;> split <;> omega)).1
  have h2 : usS S p.b ≠ 0 := fun e => hf (free_of hS hok e)
  omega
instance (p : PD) (l : List PD) : Decidable (Free p l) := inferInstanceAs (Decidable (∀ q ∈ l, q.up ∉ own p ∧ q.down ∉ own p ∧ ∀ v ∈ q.gone, v ∉ own p))
theorem add_no {u : World} {S : GS} {n : Nat} (hn : n ≤ 100) (h : GX u S n) (hL : Laid u) {d : PD} {l g : Value} (ok : GvOk u (d, l, g)) (c : Int) (hr : refD (ds S.ps) d = c) (hc : c ≠ 0) :
    Calls Tryd.prog 22 #[ptr S.g, .agg (givC d l g)] u fun e w' => e = .returned (.int .i64 c) ∧ Below u.heap.size u w' := by
  have hr2 : refB S d = c := by rw [refB_D h.gi.gm.lsl]; exact hr
  refine (add_any S n hn u h hL d l g ok.db ok.first ok.ln ok.gn ok.hz).mono ?_
  rintro e w' ⟨rfl, hq⟩
  unfold AddQ at hq
  rw [hr2, if_neg hc] at hq
  exact ⟨by rw [hr2], hq⟩
theorem ref_0 : refD [] dSecond = 10 := by kernel_rfl
theorem ref_6 : refD [dSecond, dFirst] dFirst = 6 := by kernel_rfl
theorem ref_4 : refD [dFirst] { { dSecond with up := v11 } with down := v10 } = 4 := by kernel_rfl
theorem drew_below (w : World) (m : Nat) : Below w.heap.size w (w.drewN m) := ⟨rfl, rfl, rfl, Nat.le_refl _, fun _ _ => rfl⟩
theorem ds_two {l : List PA} {a b : PD} (h : ds l = [a, b]) : ∃ p q, l = [p, q] ∧ p.d = a ∧ q.d = b := by
  unfold ds at h
  obtain ⟨p, t, rfl, h1, h2⟩ := List.map_eq_cons_iff.1 h
  obtain ⟨q, t, rfl, h3, h4⟩ := List.map_eq_cons_iff.1 h2
  obtain rfl := List.map_eq_nil_iff.1 h4
  exact ⟨p, q, rfl, h1, h3⟩
theorem ds_three {l : List PA} {a b c : PD} (h : ds l = [a, b, c]) : ∃ p q r, l = [p, q, r] ∧ p.d = a ∧ q.d = b ∧ r.d = c := by
  unfold ds at h
  obtain ⟨p, t, rfl, h1, h2⟩ := List.map_eq_cons_iff.1 h
  obtain ⟨q, r, h3, h4, h5⟩ := ds_two (l := t) h2
  exact ⟨p, q, r, by rw [h3], h1, h4, h5⟩
abbrev v90 : Vx := vA 9 0 (by omega) (by omega)
theorem free_no : ¬ Free dFirst [dSecond] := of_decide_eq_false (by kernel_rfl)
theorem free_3 : Free dThird [dThird, dSecond, dFirst] := of_decide_eq_true (by kernel_rfl)
theorem nm_1 : decide (dSecond.nm = v10) = false ∧ decide (dFirst.nm = v10) = true := by constructor <;> kernel_rfl
theorem nm_9 : decide (dSecond.nm = v90) = false ∧ decide (dFirst.nm = v90) = false := by constructor <;> kernel_rfl
theorem nm_3 : decide (dThird.nm = v30) = true ∧ decide (dSecond.nm = v30) = false ∧ decide (dFirst.nm = v30) = false := by refine ⟨?_, ?_, ?_⟩ <;> kernel_rfl
theorem rem_1 {W : World} {S : GS} {n : Nat} (h : GX W S n) (hp : ds S.ps = [dSecond, dFirst]) :
    Calls Tryd.prog 23 #[ptr S.g, .agg (hsC (hb 1)), .int .i64 0] W fun e w' => e = .returned (.int .i64 10) ∧ Below W.heap.size W w' := by
  obtain ⟨p, q, hS, hp1, hq1⟩ := ds_two hp
  have hpb : partB S v10 = some q := by
    unfold partB
    rw [hS, List.find?_cons_of_neg (by rw [hp1, nm_1.1]; decide), List.find?_cons_of_pos (by rw [hq1, nm_1.2])]
  refine remove_used S _ _ v10 q W h.gi.gm hpb (us_pos (l1 := [p]) (l2 := []) hS h.gi.ok ?_)
  rw [hq1, show ds ([p] ++ []) = [dSecond] by simp [ds, hp1]]
  exact free_no
theorem rem_9 {W : World} {S : GS} {n : Nat} (h : GX W S n) (hp : ds S.ps = [dSecond, dFirst]) :
    Calls Tryd.prog 23 #[ptr S.g, .agg (hsC (hb 9)), .int .i64 0] W fun e w' => e = .returned (.int .i64 5) ∧ Below W.heap.size W w' := by
  obtain ⟨p, q, hS, hp1, hq1⟩ := ds_two hp
  refine remove_none S _ _ v90 W h.gi.gm ?_
  unfold partB
  rw [hS, List.find?_cons_of_neg (by rw [hp1, nm_9.1]; decide), List.find?_cons_of_neg (by rw [hq1, nm_9.2]; decide)]
  rfl
/-- what the law's last Remove leaves. -/
def Rem3 (W : World) (S : GS) (n : Nat) (e : Ending) (w' : World) : Prop := e = .returned (.int .i64 0) ∧ ∃ S', S'.g = S.g ∧ ds S'.ps = [dSecond, dFirst] ∧ GX w' S' n ∧ ∃ u, Below W.heap.size W u ∧ Chg (blk S) u w'
theorem rem_3 {W : World} {S : GS} {n : Nat} (hn : n ≤ 100) (h : GX W S n) (hp : ds S.ps = [dThird, dSecond, dFirst]) :
    Calls Tryd.prog 23 #[ptr S.g, .agg (hsC (hb 3)), .int .i64 0] W (Rem3 W S n) := by
  obtain ⟨p, q, r, hS, hp1, hq1, hr1⟩ := ds_three hp
  have hpb : partB S v30 = some p := by
    unfold partB
    rw [hS, List.find?_cons_of_pos (by rw [hp1, nm_3.1])]
  have hu : usS S p.b = 0 := used_not h.gi.gm h.gi.ok (by rw [hS]; simp) (by rw [hp1, hp]; exact free_3)
  refine (remove_gx S n hn v30 p W h hpb hu).mono ?_
  rintro e w' ⟨rfl, l1, l2, hl, hg, hu⟩
  refine ⟨rfl, dropS S p (l1 ++ l2), rfl, ?_, hg, hu⟩
  show ds (l1 ++ l2) = _
  have hne1 : q ≠ p := fun e => by rw [e, hp1] at hq1; exact absurd hq1 (fun e => absurd (congrArg (fun d : PD => d.gone.length) e) (by decide))
  have hne2 : r ≠ p := fun e => by rw [e, hp1] at hr1; exact absurd hr1 (fun e => absurd (congrArg (fun d : PD => d.gone.length) e) (by decide))
  rw [hS] at hl
  match l1, hl with
  | [], hl =>
    obtain rfl : [q, r] = l2 := by injection hl
    simp [ds, hq1, hr1]
  | a :: [], hl =>
    injection hl with _ hl
    injection hl with e _
    exact absurd e hne1
  | a :: b :: [], hl =>
    injection hl with _ hl
    injection hl with _ hl
    injection hl with e _
    exact absurd e hne2
  | a :: b :: c :: t, hl =>
    have := congrArg List.length hl
    simp at this
/-- what operations of the law's last region leave. -/
def NewG (z : Value) (w : World) : Prop := ∃ S, z = ptr S.g ∧ S.ps = [] ∧ GX w S 0
theorem NewG.later {z : Value} {w w' : World} (h : NewG z w) (hb : Below w.heap.size w w') : NewG z w' := by
  obtain ⟨S, h1, h2, h3⟩ := h
  exact ⟨S, h1, h2, h3.below hb⟩
def GvP (d : PD) (z : Value) (w : World) : Prop := ∃ l g, z = .agg (givC d l g) ∧ GvOk w (d, l, g)
theorem GvP.later {d : PD} {z : Value} {w w' : World} (h : GvP d z w) (hb : Below w.heap.size w w') : GvP d z w' := by
  obtain ⟨l, g, h1, h2⟩ := h
  exact ⟨l, g, h1, h2.below hb⟩
def RowP (z : Value) (w : World) : Prop := ∃ b l g, z = .slice (some ⟨b, 0, none⟩) 1 1 ∧ GRow w b dFirst l g ∧ GvOk w (dFirst, l, g)
theorem RowP.later {z : Value} {w w' : World} (h : RowP z w) (hb : Below w.heap.size w w') : RowP z w' := by
  obtain ⟨b, l, g, h1, h2, h3⟩ := h
  exact ⟨b, l, g, h1, at_below h2 hb, h3.below hb⟩
def MdP (z : Value) (w : World) : Prop := ∃ S, z = ptr S.g ∧ ds S.ps = [dFirst] ∧ GX w S 1
theorem MdP.later {z : Value} {w w' : World} (h : MdP z w) (hb : Below w.heap.size w w') : MdP z w' := by
  obtain ⟨S, h1, h2, h3⟩ := h
  exact ⟨S, h1, h2, h3.below hb⟩
theorem made_row {w : World} (hL : Laid w) {b : Nat} {l g : Value} (hb : GRow w b dFirst l g) (ho : GvOk w (dFirst, l, g)) :
    Calls Tryd.prog 11 #[.slice (some ⟨b, 0, none⟩) 1 1] w fun e w' => ∃ S, e = .returned (ptr S.g) ∧ ds S.ps = [dFirst] ∧ GX w' S 1 ∧ Below w.heap.size w w' := by
  refine (made_any [(dFirst, l, g)] (by simp) _ w hL ⟨_, 1, rfl, Nat.le_refl _, fun _ => ⟨b, 0, rfl, (Array.getElem?_eq_some_iff.1 hb).1, fun j x hx => ?_⟩⟩ (fun x hx => by rw [List.mem_singleton.1 hx]; exact ho)).mono fun e w' hq => ?_
  · match j, hx with
    | 0, hx => obtain rfl := Option.some.inj hx; exact row_range hb [] _ [] (by simp) 0 rfl
    | j + 1, hx => simp at hx
  · unfold MdQ at hq
    rw [show mdD [] (List.map (fun x : Gvn => x.1) [(dFirst, l, g)]) = some [dFirst] from md_1] at hq
    obtain ⟨S, h1, h2, h3, h4, _⟩ := hq
    exact ⟨S, h1, h2, h3, h4⟩
def RmP (g : Nat) (_ : Value) (w : World) : Prop := ∃ S, S.g = g ∧ ds S.ps = [dSecond, dFirst] ∧ GX w S 3 ∧ Laid w
theorem RmP.later {g : Nat} {z : Value} {w w' : World} (h : RmP g z w) (hb : Below w.heap.size w w') : RmP g z w' := by
  obtain ⟨S, h1, h2, h3, h4⟩ := h
  exact ⟨S, h1, h2, h3.below hb, h4.below hb (Nat.le_refl _)⟩
/-- the worlds of the law's last region: nothing of its beginning turns until operation 73 comes. -/
structure RelK (q : Nat) (w0 W : World) (ll : Array Bool) (wx : World) : Prop where
  all : Below w0.heap.size w0 wx
  bef : ll.getD q false = false → Below W.heap.size W wx
theorem getD_still {l : Array Bool} {q i : Nat} (h : (l.setIfInBounds i true).getD q false = false) : l.getD q false = false := by
  cases e : l.getD q false with
  | false => rfl
  | true => rw [getD_set_true e] at h; cases h
theorem RelK.keep {q i : Nat} {w0 W wx : World} {ll : Array Bool} (h : RelK q w0 W ll wx) : RelK q w0 W (ll.setIfInBounds i true) wx := ⟨h.all, fun e => h.bef (getD_still e)⟩
theorem RelK.call {q i : Nat} {w0 W wx w' : World} {ll : Array Bool} (h : RelK q w0 W ll wx) (low : Below wx.heap.size wx w') : RelK q w0 W (ll.setIfInBounds i true) w' :=
  ⟨h.all.trans (low.mono h.all.size), fun e => (h.bef (getD_still e)).trans (low.mono (h.bef (getD_still e)).size)⟩
theorem RelK.past {q : Nat} {w0 W w' : World} {ll : Array Bool} (hq : q < ll.size) (h : Below w0.heap.size w0 w') : RelK q w0 W (ll.setIfInBounds q true) w' := ⟨h, fun e => by simp [hq] at e⟩
end Go.Proofs.YtnjeppmpnaemlaaDoor.Grf
