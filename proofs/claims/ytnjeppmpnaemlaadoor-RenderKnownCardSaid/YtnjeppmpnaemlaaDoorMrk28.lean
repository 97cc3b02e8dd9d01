/- DERIVED. Texts of ours, merged: XRndPart XRndBase XRndGb XRndWorks XRndNil XRndKnP. -/
import Derived.Test.YtnjeppmpnaemlaaDoorMrk25
import Derived.Test.YtnjeppmpnaemlaaDoorMrk27
/- DERIVED. The laws' part. -/
set_option maxRecDepth 100000
namespace Go.Proofs.YtnjeppmpnaemlaaDoor.Grf
open Go.RowKit Str Go.Maps
attribute [local go_sem ↓ high] loadAtVx loadAtHs loadAtGv
theorem three_new (w : World) (A B C : Obj) : (((w.alloc A).alloc B).alloc C).heap[w.heap.size]? = some A ∧ (((w.alloc A).alloc B).alloc C).heap[w.heap.size + 1]? = some B ∧ (((w.alloc A).alloc B).alloc C).heap[w.heap.size + 2]? = some C := by
  obtain ⟨h1, h2⟩ := two_new w A B
  have hs : ((w.alloc A).alloc B).heap.size = w.heap.size + 2 := by rw [World.size_alloc, World.size_alloc]
  refine ⟨(Go.heap_alloc_old _ _ (by omega)).trans h1, (Go.heap_alloc_old _ _ (by omega)).trans h2, ?_⟩
  rw [← hs]
  exact Go.heap_alloc_new _ _
set_option maxHeartbeats 4000000 in
theorem part_any (d : PD) (p : Nat) (hnm : d.nm.h = hb p) (h0 : d.nm.n = 0) (h1 : d.first = 0) (A : Option Addr) (n c : Nat) (w : World) :
    Calls Tryd.prog 41 #[.int .u8 (p : Nat), .agg d.up.c, .agg d.down.c, .slice A n c] w fun e w' => e = .returned (.agg (givC d (.slice A n c) nils)) ∧ Below w.heap.size w w' := by
  have hb0 : Tryd.prog.built 25 [(0, .int .u8 ((p : Nat) : Int))] = some (hsC d.nm.h) := by rw [hnm]; exact built_hA p
  obtain ⟨x, hx⟩ : ∃ x : Value, x = .int .u8 ((p : Nat) : Int) := ⟨_, rfl⟩
  rw [← hx] at hb0 ⊢
  have HB0 := Lib.hid hb0
  clear hb0 hnm hx
  have h3 := fun C => three_new w (.cells d.up.c 27) (.cells d.down.c 27) (.cells C 31)
  have k3 : ∀ C, Below w.heap.size w (((w.alloc (.cells d.up.c 27)).alloc (.cells d.down.c 27)).alloc (.cells C 31)) := fun C => (((Below.refl _ _).alloc (Nat.le_refl _) _).alloc (by rw [World.size_alloc]; omega) _).alloc (by rw [World.size_alloc, World.size_alloc]; omega) _
  go_enter Tryd.func41, Tryd.ntmps41
  go_upto_region 1 with (fail)
  refine wp_region_lit ?_
  generalize hZ : Tryd.zeroCells31 = Z
  have hZ2 : Z.size = 102 := by rw [← hZ]; kernel_rfl
  obtain ⟨W, hW⟩ : ∃ W, W = ((w.alloc (.cells d.up.c 27)).alloc (.cells d.down.c 27)).alloc (.cells Z 31) := ⟨_, rfl⟩
  have r3 := h3 Z
  have l3 := k3 Z
  rw [← hW] at r3 l3 ⊢
  have ea := box_vx r3.1
  have eb := box_vx r3.2.1
  have HZ := Lib.hid r3.2.2
  have HL := Lib.hid l3
  obtain ⟨q, hq⟩ : ∃ q, q = w.heap.size := ⟨_, rfl⟩
  rw [← hq] at ea eb ⊢
  have HZq : Hid (W.heap[q + 2]? = some (.cells Z 31 (0, 0))) := by rw [hq]; exact HZ.out
  have Hq := Lib.hid hq
  clear r3 l3 h3 k3 hW hZ hq HZ
  refine wpList_plain rfl (fun K hK => ?_)
  go_simp
  refine hK _ _ ?_
  clear hK
  clear K
  refine wpList_buildTo rfl 25 #[(0, .tmp 9)] rfl (some 10) rfl (hsC d.nm.h) (by simp only [List.map_toArray, List.map_cons, List.map_nil]; exact HB0.out) ?_
  refine wpList_plain rfl (fun K hK => ?_)
  go_simp
  refine hK _ _ ?_
  clear hK
  clear K
  refine wpList_plain rfl (fun K hK => ?_)
  go_simp
  refine hK _ _ ?_
  clear hK
  clear K
  refine wpList_plain rfl (fun K hK => ?_)
  go_simp
  refine hK _ _ ?_
  clear hK
  clear K
  refine wpList_buildTo rfl 31 #[(0, .tmp 10), (3, .tmp 11), (4, .tmp 12), (5, .tmp 13)] rfl (some 14) rfl (givC d (.slice A n c) nils) (by simp only [List.map_toArray, List.map_cons, List.map_nil]; exact built_giv d h0 h1 _ _ _) ?_
  refine wpList_store_row rfl 31 (.tmp 8) (.tmp 14) rfl (q + 2) (givC d (.slice A n c) nils) rfl rfl 31 _ HZq.out (infoGiv _ _ _) (by rw [hZ2, givC_size]) (givC_one _ _ _ rfl rfl) ?_
  refine wpList_nil ?_
  have hS := below_setRow HL.out (show w.heap.size ≤ q + 2 by rw [Hq.out]; omega) (givC d (.slice A n c) nils)
  have HS := Lib.hid hS
  clear hS
  go_wp2
  exact bodyPost_ret (v := .agg (givC d (.slice A n c) nils)) (results_cell_row rfl _ _ (q + 2) 31 _ (0, 0) _ rfl (setRow_at HZq.out) Tryd.underlying31 rfl (infoGiv _ _ _)) rfl ⟨rfl, HS.out⟩
end Go.Proofs.YtnjeppmpnaemlaaDoor.Grf
/- DERIVED. The laws' base; parts that come; items of known graphs. -/
set_option maxRecDepth 100000
namespace Go.Proofs.YtnjeppmpnaemlaaDoor.Grf
open Go.RowKit Str Go.Maps
/-- a part that can come. -/
theorem add_yes {u : World} {S : GS} {n : Nat} (hn : n ≤ 100) (h : GX u S n) (hL : Laid u) {d : PD} {l g : Value} (ok : GvOk u (d, l, g)) (hr : refD (ds S.ps) d = 0) (B : Nat) (w0 : World) (hb : ∀ b ∈ blk S, B ≤ b) (hw : Below B w0 u) (hB : B ≤ u.heap.size) :
    Calls Tryd.prog 22 #[ptr S.g, .agg (givC d l g)] u fun e w' => e = .returned (.int .i64 0) ∧ ∃ S', S'.g = S.g ∧ ds S'.ps = d :: ds S.ps ∧ GX w' S' (n + 1) ∧ Below B w0 w' ∧ ∀ b ∈ blk S', B ≤ b := by
  have hr2 : refB S d = 0 := by rw [refB_D h.gi.gm.lsl]; exact hr
  refine (add_any S n hn u h hL d l g ok.db ok.first ok.ln ok.gn ok.hz).mono ?_
  rintro e w' ⟨rfl, hq⟩
  unfold AddQ at hq
  rw [hr2, if_pos rfl] at hq
  obtain ⟨p, hp, hpb, hpl, hg, hc⟩ := hq
  refine ⟨by rw [hr2], moreS S p, rfl, ?_, hg, hc.below hw hB hb, blk_more hb (Nat.le_trans hB hpb) (fun b h => Nat.le_trans hB (hpl b h))⟩
  show p.d :: ds S.ps = _
  rw [hp]
/-- items of a known graph. -/
theorem items_known {w w' : World} {S : GS} {e : Ending} {ps : List PD} {M : List Vx} {I : List It} (hps : ds S.ps = ps) (hl : ∀ p ∈ S.ps, p.ls.length = p.d.lines.length) (hb : linesB ps M = true) (hI : itemsL (befD ps) (aliveL (M.map (lnD ps))) = I) (h : ItmQ w S e w') : ∃ v, ∃ X : List ItV, e = .returned v ∧ X.map (·.1) = I ∧ OwnIt w.heap.size X v w' ∧ Below w.heap.size w w' := by
  obtain ⟨v, N, X, rfl, h1, h2, h3, h4, h5⟩ := h
  rw [hps] at h1 h2
  obtain rfl := linesB_ok hb h1 h2
  refine ⟨v, X, rfl, ?_, h4, h5⟩
  rw [h3, ← hI, ← hps]
  have e1 : BefB S = befD (ds S.ps) := by funext a b; exact BefB_D hl a b
  have e2 : lnS S (gnS S) = lnD (ds S.ps) := by
    funext v
    unfold lnS lnD
    rw [textS_D, gnS_D]
    congr 2
    simp
  rw [e1, e2]
/-- a vertex that is built. -/
noncomputable def bVx (p : Array (Nat × Value)) : Sem Value := Instr.build 27 p
theorem bVx_of (p : Array (Nat × Value)) : Instr.build 27 p = bVx p := rfl
theorem run_bRoot (w : World) : (bVx #[(1, .int .i64 (-1))]).run Tryd.prog w = .ok (.agg root.c) w := run_build w _ _ _ built_root
theorem run_bFin (w : World) : (bVx #[(1, .int .i64 (-2))]).run Tryd.prog w = .ok (.agg fin.c) w := run_build w _ _ _ built_fin
theorem built_v0F (f : Nat → Value) : Tryd.prog.built 27 [(0, .agg ((List.range 32).map f).toArray)] = some ((List.range 32).map f ++ [Value.int .i64 0]).toArray := by kernel_rfl
theorem built_v0 (v : Vx) (h : v.n = 0) : Tryd.prog.built 27 [(0, .agg (hsC v.h))] = some v.c := by
  obtain ⟨f, hf⟩ := hs_fun v.len
  unfold Vx.c
  rw [h]
  unfold hsC
  rw [hf]
  exact built_v0F f
theorem run_bV0 (w : World) (p : Nat) (hp : p < 256) : (bVx #[(0, .agg (hsC (hb p)))]).run Tryd.prog w = .ok (.agg (vA p 0 hp (by omega)).c) w := run_build w _ _ _ (built_v0 (vA p 0 hp (by omega)) rfl)
theorem run_bV (w : World) (p n : Nat) (hp : p < 256) (hn : n ≤ 9223372036854775807) : (bVx #[(0, .agg (hsC (hb p))), (1, .int .i64 (n : Nat))]).run Tryd.prog w = .ok (.agg (vA p n hp hn).c) w := run_build w _ _ _ (built_vtx (vA p n hp hn))
attribute [irreducible] bVx
attribute [local go_sem ↓ high] loadAtVx loadAtHs loadAtGv bHash_of bVx_of
theorem base_results {fn : Func} (h : fn.results = #[.tmp 0, .cell 1 27, .cell 2 27]) {tmps : Array Value} {w : World} {a b : Nat} {x : Value} {u v : Vx} (h0 : tmps.getD 0 undef = x) (ha : tmps.getD 1 undef = ptr a) (hb : tmps.getD 2 undef = ptr b)
    (hu : w.heap[a]? = some (.cells u.c 27 (0, 0))) (hv : w.heap[b]? = some (.cells v.c 27 (0, 0))) : (results fn tmps).run Tryd.prog w = .ok (.tuple #[x, .agg u.c, .agg v.c]) w := by
  have h0' : tmps[0]?.getD undef = x := by simpa using h0
  have ha' : tmps[1]?.getD undef = .pointer (some ⟨a, 0, none⟩) := by simpa using ha
  have hb' : tmps[2]?.getD undef = .pointer (some ⟨b, 0, none⟩) := by simpa using hb
  have ea := run_loadVar_mid (P := Tryd.prog) w a 0 27 u.c.toList _ (row_range hu [] _ [] (by simp) 0 rfl) Tryd.underlying27 rfl (infoVx u)
  have eb := run_loadVar_mid (P := Tryd.prog) w b 0 27 v.c.toList _ (row_range hv [] _ [] (by simp) 0 rfl) Tryd.underlying27 rfl (infoVx v)
  simp only [Array.toArray_toList] at ea eb
  simp only [results, h]
  simp [Sem.run_bind, Result.andThen, h0', ha', hb', asAddr, ea, eb]
/-- a graph, where a box that is none of it is written. -/
theorem GX.setV {w : World} {S : GS} {n q : Nat} {Z c : Array Value} (h : GX w S n) (hq : w.heap[q]? = some (.cells Z 27 (0, 0))) (hz : ∃ x, Z[0]? = some (.int .u8 x)) (hs : c.size = Z.size) (hg : ∀ p ∈ S.ps, p.d.gone = []) : GX (w.setRow q c) S n := by
  have ne : ∀ {b : Nat} {C : Array Value} {T : TypeId}, w.heap[b]? = some (.cells C T (0, 0)) → T ≠ 27 → (w.setRow q c).heap[b]? = some (.cells C T (0, 0)) := fun {b C T} hb hT => by
    refine (setRow_ne (fun e => ?_)).trans hb
    subst e
    rw [hq] at hb
    injection hb with hb
    injection hb with _ hb
    exact hT hb.symm
  have sz : w.heap.size ≤ (w.setRow q c).heap.size := (below_setRow (Below.refl 0 w) (Nat.zero_le q) c).size
  have pt : ∀ {v : Value} {L : List Nat}, L ≠ [] → Ptrs w v L → Ptrs (w.setRow q c) v L := fun {v L} hL hp => by
    refine hp.stay (fun g m k e => setRow_ne (fun e2 => ?_)) sz
    subst e2
    obtain ⟨g', cap, e', _, _, hc⟩ := hp
    rw [e'] at e
    cases e
    cases L with
    | nil => exact hL rfl
    | cons x t =>
      have h1 := hc 0 x rfl
      obtain ⟨y, hy⟩ := hz
      rw [cell_row hq, hy] at h1
      cases h1
  have mp : ∀ {k : TypeId} {b s : Nat} {f : Vx → Option Value}, MapF k w b s f → MapF k (w.setRow q c) b s f := fun {k b s f} hm => by
    refine hm.stay (setRow_ne (fun e => ?_))
    subst e
    obtain ⟨es, ck, hb, _⟩ := hm.ents
    rw [hq] at hb
    cases hb
  have g := h.gi.gm
  refine ⟨⟨⟨ne g.gr (by decide), mp g.mapP, mp g.mapV, ne g.frm (by decide), pt (by simp) g.frc, ne g.lr (by decide), ne g.lf (by decide), fun p hp => ne (g.prt p hp) (by decide), g.lsl, fun p hp i b s h1 h2 => ne (g.ln p hp i b s h1 h2) (by decide), fun p hp => ?_, fun p hp => ?_, fun p hp => ?_⟩, h.gi.ok, h.gi.mne⟩, h.ps, h.added, h.nv, h.db⟩
  · obtain ⟨u, dn, a, b, e⟩ := g.chn p hp
    exact ⟨u, dn, a, b, pt (by simp) e⟩
  · have ho := g.lns p hp
    exact own_keep ho fun k hk => setRow_ne (fun e => own_apart1 ho hq (by decide) (by rw [hk, e]))
  · have ho := g.gns p hp
    have hgo := hg p hp
    unfold OwnV at ho ⊢
    rw [hgo] at ho ⊢
    refine ⟨ho.1, ?_⟩
    rcases ho.2 with h1 | ⟨g', cap, cur, h1, h2, h3, h4, h5, h6, h7⟩
    · exact .inl h1
    · by_cases e : g' = q
      · subst e
        rw [hq] at h3
        cases h3
        exact .inr ⟨g', cap, c, h1, h2, setRow_at hq, h4, h5, by rw [hs]; exact h6, by simp [flatV]⟩
      · exact .inr ⟨g', cap, cur, h1, h2, (setRow_ne (fun e2 => e e2.symm)).trans h3, h4, h5, h6, h7⟩
/-- a part whose lines lie in a row of their own, with no Gone. -/
theorem gv_of {u : World} {d : PD} (hd : DB d) (hf : d.first ≤ 9223372036854775807) (hg : d.gone = []) {b : Nat} (h : u.heap[b]? = some (.cells (d.lines.map Value.string).toArray 9 (0, 0))) : GvOk u (d, .slice (some ⟨b, 0, none⟩) d.lines.length d.lines.length, nils) :=
  ⟨hd, hf, rdS_row h, by show RdV u nils d.gone; rw [hg]; exact rdV_nil _, fun _ => ⟨none, 0, rfl, .inl rfl⟩⟩
def BaseQ (w : World) (e : Ending) (w' : World) : Prop := ∃ S, e = .returned (.tuple #[ptr S.g, .agg v10.c, .agg v11.c]) ∧ ds S.ps = [dFirst] ∧ GX w' S 1 ∧ Below w.heap.size w w' ∧ ∀ b ∈ blk S, w.heap.size ≤ b
set_option maxHeartbeats 4000000 in
theorem base_any (w : World) (hL : Laid w) : Calls Tryd.prog 40 #[] w (BaseQ w) := by
  have HL := Lib.hid hL
  have eb := run_bHash
  have er := run_bRoot
  have ef := run_bFin
  have e0 : ∀ w, (bVx #[(0, .agg (hsC (hb 1)))]).run Tryd.prog w = .ok (.agg v10.c) w := fun w => run_bV0 w 1 (by omega)
  have e1 : ∀ w, (bVx #[(0, .agg (hsC (hb 1))), (1, .int .i64 1)]).run Tryd.prog w = .ok (.agg v11.c) w := fun w => run_bV w 1 1 (by omega) (by omega)
  clear hL
  go_enter Tryd.func40, Tryd.ntmps40
  go_upto_region 1 with (fail)
  generalize hZ : (#[Value.int IntKind.u8 0, Value.int IntKind.u8 0, Value.int IntKind.u8 0, Value.int IntKind.u8 0, Value.int IntKind.u8 0, Value.int IntKind.u8 0, Value.int IntKind.u8 0, Value.int IntKind.u8 0, Value.int IntKind.u8 0, Value.int IntKind.u8 0, Value.int IntKind.u8 0, Value.int IntKind.u8 0, Value.int IntKind.u8 0, Value.int IntKind.u8 0, Value.int IntKind.u8 0, Value.int IntKind.u8 0, Value.int IntKind.u8 0, Value.int IntKind.u8 0, Value.int IntKind.u8 0, Value.int IntKind.u8 0, Value.int IntKind.u8 0, Value.int IntKind.u8 0, Value.int IntKind.u8 0, Value.int IntKind.u8 0, Value.int IntKind.u8 0, Value.int IntKind.u8 0, Value.int IntKind.u8 0, Value.int IntKind.u8 0, Value.int IntKind.u8 0, Value.int IntKind.u8 0, Value.int IntKind.u8 0, Value.int IntKind.u8 0, Value.int IntKind.i64 0] : Array Value) = Z
  have hZ33 : Z.size = 33 := by rw [← hZ]; rfl
  obtain ⟨h1, h2⟩ := two_new w (.cells Z 27) (.cells Z 27)
  have k2 : Below w.heap.size w ((w.alloc (.cells Z 27)).alloc (.cells Z 27)) := ((Below.refl _ _).alloc (Nat.le_refl _) _).alloc (by rw [World.size_alloc]; omega) _
  obtain ⟨W, hW⟩ : ∃ W, W = (w.alloc (.cells Z 27)).alloc (.cells Z 27) := ⟨_, rfl⟩
  rw [← hW] at h1 h2 k2 ⊢
  obtain ⟨q, hq⟩ : ∃ q, q = w.heap.size := ⟨_, rfl⟩
  rw [← hq] at h1 h2 ⊢
  have H1 := Lib.hid h1
  have H2 := Lib.hid h2
  have K2 := Lib.hid k2
  have Hq := Lib.hid hq
  have hN := new_gx W (HL.out.below k2 (Nat.le_refl _))
  have HZ0 := Lib.hid hZ
  clear hZ hW h1 h2 k2 hq
  go_upto_region 2 with (first
    | (go_at_call 21; refine hN.mono ?_; rintro e w1 ⟨S0, rfl, hps0, hgx0, hlo1, hbk0⟩; have Hgx0 := Lib.hid hgx0; have Hlo1 := Lib.hid hlo1; have Hbk0 := Lib.hid hbk0; have Hps0 := Lib.hid hps0; clear hgx0 hlo1 hbk0 hps0))
  have hrow := Go.heap_alloc_new w1 (.cells #[.string ⟨#[97]⟩, .string ⟨#[98]⟩] 9)
  have krow : Below w1.heap.size w1 (w1.alloc (.cells #[.string ⟨#[97]⟩, .string ⟨#[98]⟩] 9)) := (Below.refl _ _).alloc (Nat.le_refl _) _
  have hP : ∀ u, Calls Tryd.prog 41 #[.int .u8 1, .agg root.c, .agg fin.c, .slice (some ⟨w1.heap.size, 0, none⟩) 2 2] u fun e w' => e = .returned (.agg (givC dFirst (.slice (some ⟨w1.heap.size, 0, none⟩) 2 2) nils)) ∧ Below u.heap.size u w' := fun u => part_any dFirst 1 rfl rfl rfl _ _ _ u
  have HAd : Hid (∀ u, Below w1.heap.size w1 u → u.heap[w1.heap.size]? = some (.cells #[.string ⟨#[97]⟩, .string ⟨#[98]⟩] 9 (0, 0)) → Calls Tryd.prog 22 #[ptr S0.g, .agg (givC dFirst (.slice (some ⟨w1.heap.size, 0, none⟩) 2 2) nils)] u fun e w' => e = .returned (.int .i64 0) ∧ ∃ S', S'.g = S0.g ∧ ds S'.ps = [dFirst] ∧ GX w' S' 1 ∧ Below W.heap.size W w' ∧ ∀ b ∈ blk S', W.heap.size ≤ b) := fun u hu hr => by
    have hwu := Hlo1.out.trans (hu.mono Hlo1.out.size)
    have hok : GvOk u (dFirst, .slice (some ⟨w1.heap.size, 0, none⟩) 2 2, nils) := gv_of dF_db (by decide) rfl hr
    have := add_yes (by omega) (Hgx0.out.below hu) (HL.out.below (K2.out.trans (hwu.mono K2.out.size)) (Nat.le_refl _)) hok (by rw [show ds S0.ps = [] by rw [Hps0.out]; rfl]; kernel_rfl) W.heap.size W Hbk0.out hwu hwu.size
    refine this.mono ?_
    rintro e w' ⟨rfl, S', h1, h2, h3⟩
    exact ⟨rfl, S', h1, by rw [h2, Hps0.out]; rfl, h3⟩
  have HR := Lib.hid hrow
  have KR := Lib.hid krow
  clear hrow krow hN
  go_upto_region 3 with (first
    | (go_at_call 41; refine (hP _).mono ?_; rintro e w3 ⟨rfl, hlo3⟩; have hAd := HAd.out w3 (KR.out.trans (hlo3.mono KR.out.size)) ((hlo3.block _ (Array.getElem?_eq_some_iff.1 HR.out).1).trans HR.out); clear hlo3)
    | (go_at_call 22; refine hAd.mono ?_; rintro e w4 ⟨rfl, S1, hg1, hp1, hx1, hl1, hb1⟩; have Hx1 := Lib.hid hx1; have Hl1 := Lib.hid hl1; have Hb1 := Lib.hid hb1; have Hp1 := Lib.hid hp1; have Hg1 := Lib.hid hg1; clear hx1 hl1 hb1 hp1 hg1))
  have r1 := at_below H1.out Hl1.out
  have r2 := at_below H2.out Hl1.out
  have R1 := Lib.hid r1
  have R2 : Hid ((w4.setRow q v10.c).heap[q + 1]? = some (.cells Z 27 (0, 0))) := (setRow_ne (by omega)).trans r2
  have HF : Hid (BaseQ w (.returned (.tuple #[ptr S0.g, .agg v10.c, .agg v11.c])) ((w4.setRow q v10.c).setRow (q + 1) v11.c)) := by
    have hq0 : ∀ b ∈ blk S1, b ≠ q ∧ b ≠ q + 1 := fun b hb => by
      have h1 := Hb1.out b hb
      have h2 := (Array.getElem?_eq_some_iff.1 H1.out).1
      have h3 := (Array.getElem?_eq_some_iff.1 H2.out).1
      omega
    have hlo := K2.out.trans (Hl1.out.mono K2.out.size)
    have s1 := below_setRow hlo (show w.heap.size ≤ q by rw [Hq.out]; exact Nat.le_refl _) v10.c
    have s2 := below_setRow s1 (show w.heap.size ≤ q + 1 by rw [Hq.out]; omega) v11.c
    refine ⟨S1, by rw [Hg1.out], Hp1.out, ?_, s2, fun b hb => Nat.le_trans K2.out.size (Hb1.out b hb)⟩
    have hgo : ∀ p ∈ S1.ps, p.d.gone = [] := fun p hp => by
      have : p.d ∈ ds S1.ps := List.mem_map.2 ⟨p, hp, rfl⟩
      rw [Hp1.out, List.mem_singleton] at this
      rw [this]; rfl
    exact (Hx1.out.setV r1 (by rw [← HZ0.out]; exact ⟨0, rfl⟩) (by rw [hZ33, Vx.c_size]) hgo).setV R2.out (by rw [← HZ0.out]; exact ⟨0, rfl⟩) (by rw [hZ33, Vx.c_size]) hgo
  clear r1 r2
  go_wp2_with (first
    | (refine wpList_store_row rfl 27 (.tmp 1) (.tmp 13) rfl q v10.c rfl rfl 27 _ R1.out (infoVxA _) (by rw [hZ33, Vx.c_size]) (Vx.one _) ?_)
    | (refine wpList_store_row rfl 27 (.tmp 2) (.tmp 15) rfl (q + 1) v11.c rfl rfl 27 _ R2.out (infoVxA _) (by rw [hZ33, Vx.c_size]) (Vx.one _) ?_))
  exact bodyPost_ret (base_results rfl rfl rfl rfl ((setRow_ne (by omega)).trans (setRow_at R1.out)) (setRow_at R2.out)) rfl HF.out
end Go.Proofs.YtnjeppmpnaemlaaDoor.Grf
/- DERIVED. A graph with two boxes of vertices beside it; parts that come. -/
set_option maxRecDepth 100000
namespace Go.Proofs.YtnjeppmpnaemlaaDoor.Grf
open Go.RowKit Str Go.Maps
attribute [local go_sem ↓ high] loadAtVx loadAtHs loadAtGv bHash_of bVx_of
theorem blk_lt {w : World} {S : GS} {n : Nat} (h : GX w S n) : ∀ b ∈ blk S, b < w.heap.size := by
  have g := h.gi.gm
  have lt : ∀ {b : Nat} {o : Obj}, w.heap[b]? = some o → b < w.heap.size := fun hb => (Array.getElem?_eq_some_iff.1 hb).1
  intro b hb
  unfold blk at hb
  simp only [List.mem_cons, List.mem_flatMap] at hb
  rcases hb with rfl | rfl | rfl | rfl | rfl | rfl | ⟨p, hp, rfl | hb⟩
  · exact lt g.gr
  · exact g.mapP.lt
  · exact g.mapV.lt
  · exact lt g.frm
  · exact lt g.lr
  · exact lt g.lf
  · exact lt (g.prt p hp)
  · obtain ⟨i, hi⟩ := List.getElem?_of_mem hb
    have hl := g.lsl p hp
    have hil := (List.getElem?_eq_some_iff.1 hi).1
    exact lt (g.ln p hp i b _ hi (List.getElem?_eq_getElem (by omega)))
/-- a graph of these parts, two boxes beside it. -/
structure GB (w0 : World) (q : Nat) (w : World) (S : GS) (n : Nat) (ps : List PD) : Prop where
  gx : GX w S n
  dsp : ds S.ps = ps
  low : Below w0.heap.size w0 w
  bk : ∀ b ∈ blk S, w0.heap.size ≤ b ∧ b ≠ q ∧ b ≠ q + 1
  r1 : w.heap[q]? = some (.cells v10.c 27 (0, 0))
  r2 : w.heap[q + 1]? = some (.cells v11.c 27 (0, 0))
theorem GB.later {w0 : World} {q : Nat} {w w' : World} {S : GS} {n : Nat} {ps : List PD} (h : GB w0 q w S n ps) (hb : Below w.heap.size w w') : GB w0 q w' S n ps :=
  ⟨h.gx.below hb, h.dsp, h.low.trans (hb.mono h.low.size), h.bk, at_below h.r1 hb, at_below h.r2 hb⟩
theorem GB.laid {w0 : World} {q : Nat} {w : World} {S : GS} {n : Nat} {ps : List PD} (h : GB w0 q w S n ps) (hL : Laid w0) : Laid w := hL.below h.low (Nat.le_refl _)
theorem gb_add2 {w0 : World} {q : Nat} {u : World} {S : GS} {n : Nat} {ps : List PD} (h : GB w0 q u S n ps) (hn : n ≤ 100) (hL : Laid w0) {d : PD} {l g : Value} (ok : GvOk u (d, l, g)) (hr : refD ps d = 0) :
    Calls Tryd.prog 22 #[ptr S.g, .agg (givC d l g)] u fun e w' => e = .returned (.int .i64 0) ∧ ∃ S', S'.g = S.g ∧ GB w0 q w' S' (n + 1) (d :: ps) ∧ Chg (blk S) u w' := by
  have hr2 : refB S d = 0 := by rw [refB_D h.gx.gi.gm.lsl, h.dsp]; exact hr
  refine (add_any S n hn u h.gx (h.laid hL) d l g ok.db ok.first ok.ln ok.gn ok.hz).mono ?_
  rintro e w' ⟨rfl, hq⟩
  unfold AddQ at hq
  rw [hr2, if_pos rfl] at hq
  obtain ⟨p, hp, hpb, hpl, hg, hc⟩ := hq
  have q1 := (Array.getElem?_eq_some_iff.1 h.r1).1
  have q2 := (Array.getElem?_eq_some_iff.1 h.r2).1
  refine ⟨by rw [hr2], moreS S p, rfl, ⟨hg, ?_, hc.below h.low h.low.size (fun k hk => (h.bk k hk).1), fun b hb => ?_, (hc.block q q1 (fun hm => (h.bk q hm).2.1 rfl)).trans h.r1, (hc.block (q + 1) q2 (fun hm => (h.bk _ hm).2.2 rfl)).trans h.r2⟩, hc⟩
  · show p.d :: ds S.ps = _
    rw [hp, h.dsp]
  · unfold blk moreS at hb
    simp only [List.mem_cons, List.flatMap_cons, List.mem_append] at hb
    have hS := h.bk b
    have hl := h.low.size
    unfold blk at hS
    simp only [List.mem_cons] at hS
    rcases hb with hb | hb | hb | hb | hb | hb | (hb | hb) | hb
    · exact hS (.inl hb)
    · exact hS (.inr (.inl hb))
    · exact hS (.inr (.inr (.inl hb)))
    · exact hS (.inr (.inr (.inr (.inl hb))))
    · exact hS (.inr (.inr (.inr (.inr (.inl hb)))))
    · exact hS (.inr (.inr (.inr (.inr (.inr (.inl hb))))))
    · rw [hb]; omega
    · have := hpl b hb; omega
    · exact hS (.inr (.inr (.inr (.inr (.inr (.inr hb))))))
theorem gb_add {w0 : World} {q : Nat} {u : World} {S : GS} {n : Nat} {ps : List PD} (h : GB w0 q u S n ps) (hn : n ≤ 100) (hL : Laid w0) {d : PD} {l g : Value} (ok : GvOk u (d, l, g)) (hr : refD ps d = 0) :
    Calls Tryd.prog 22 #[ptr S.g, .agg (givC d l g)] u fun e w' => e = .returned (.int .i64 0) ∧ ∃ S', S'.g = S.g ∧ GB w0 q w' S' (n + 1) (d :: ps) :=
  (gb_add2 h hn hL ok hr).mono fun _ _ ⟨h1, S', h2, h3, _⟩ => ⟨h1, S', h2, h3⟩
/-- base's graph with its two boxes. -/
theorem gb_base {w w1 : World} {S : GS} (hp : ds S.ps = [dFirst]) (hx : GX w1 S 1) (hlo : Below w.heap.size w w1) (hb : ∀ b ∈ blk S, w.heap.size ≤ b) (Z : Array Value) :
    GB w w1.heap.size (((((w1.alloc (.cells Z 27)).alloc (.cells Z 27))).setRow w1.heap.size v10.c).setRow (w1.heap.size + 1) v11.c) S 1 [dFirst] := by
  obtain ⟨h1, h2⟩ := two_new w1 (.cells Z 27) (.cells Z 27)
  have k2 : Below w1.heap.size w1 ((w1.alloc (.cells Z 27)).alloc (.cells Z 27)) := ((Below.refl _ _).alloc (Nat.le_refl _) _).alloc (by rw [World.size_alloc]; omega) _
  have s1 := below_setRow k2 (Nat.le_refl w1.heap.size) v10.c
  have s2 := below_setRow s1 (show w1.heap.size ≤ w1.heap.size + 1 by omega) v11.c
  have r1 := setRow_at (cs := v10.c) h1
  have r2 := (setRow_ne (g := w1.heap.size) (k := w1.heap.size + 1) (cs := v10.c) (by omega)).trans h2
  refine ⟨hx.below s2, hp, hlo.trans (s2.mono hlo.size), fun b hbb => ⟨hb b hbb, ?_⟩, (setRow_ne (by omega)).trans r1, setRow_at r2⟩
  have := blk_lt hx b hbb
  omega
/-- the part that the law makes of two boxes and a row of lines. -/
theorem lpart (d : PD) (p : Nat) (hnm : d.nm.h = hb p) (h0 : d.nm.n = 0) (h1 : d.first = 0) (hu : d.up = v10) (hd : d.down = v11) (A : Option Addr) (n c : Nat) (w : World) : Calls Tryd.prog 41 #[.int .u8 (p : Nat), .agg v10.c, .agg v11.c, .slice A n c] w fun e w' => e = .returned (.agg (givC d (.slice A n c) nils)) ∧ Below w.heap.size w w' := by
  have := part_any d p hnm h0 h1 A n c w
  rw [hu, hd] at this
  exact this
def dY : PD := ⟨vA 3 0 (by omega) (by omega), 0, vA 1 0 (by omega) (by omega), vA 1 1 (by omega) (by omega), [⟨#[121]⟩], []⟩
theorem dY_db : DB dY := ⟨by decide, by decide, fun s hs => by simp [dY] at hs; rcases hs with rfl; decide⟩
theorem rf_2 : refD [dFirst] dSecond = 0 := by kernel_rfl
theorem rf_3 : refD [dSecond, dFirst] dY = 0 := by kernel_rfl
theorem li_y : linesB [dY, dSecond, dFirst] [v10, v20, v30, v11] = true := by kernel_rfl
theorem tx_y : textI (itemsL (befD [dY, dSecond, dFirst]) (aliveL ([v10, v20, v30, v11].map (lnD [dY, dSecond, dFirst])))) = [⟨#[97]⟩, ⟨#[62, 62, 62, 62, 62, 62, 62]⟩, ⟨#[120]⟩, ⟨#[61, 61, 61, 61, 61, 61, 61]⟩, ⟨#[121]⟩, ⟨#[60, 60, 60, 60, 60, 60, 60]⟩, ⟨#[98]⟩] := by kernel_rfl
theorem it_y : (itemsL (befD [dY, dSecond, dFirst]) (aliveL ([v10, v20, v30, v11].map (lnD [dY, dSecond, dFirst])))).map (fun x => (x.block, x.lines.length, x.mids.length)) = [(false, 1, 0), (true, 2, 1), (false, 1, 0)] := by kernel_rfl
end Go.Proofs.YtnjeppmpnaemlaaDoor.Grf
/- DERIVED. The laws' works. -/
set_option maxRecDepth 100000
namespace Go.Proofs.YtnjeppmpnaemlaaDoor.Grf
open Go.RowKit Str Go.Maps
attribute [local go_sem ↓ high] loadAtVx loadAtHs loadAtGv bHash_of bVx_of
def fitB (I : List It) : Bool := I.all fun x => decide (x.lines.length ≤ 10000) && decide (x.mids.length ≤ 10000) && x.lines.all fun y => decide (y.2.1.size ≤ 281474976710656)
theorem fit_of {I : List It} {X : List ItV} (h : fitB I = true) (hX : X.map (·.1) = I) : ∀ x ∈ X, x.1.lines.length ≤ 10000 ∧ x.1.mids.length ≤ 10000 ∧ ∀ y ∈ x.1.lines, y.2.1.size ≤ 281474976710656 := fun x hx => by
  have hm : x.1 ∈ I := by rw [← hX]; exact List.mem_map.2 ⟨x, hx, rfl⟩
  have := List.all_eq_true.1 h x.1 hm
  simp only [Bool.and_eq_true, decide_eq_true_eq, List.all_eq_true] at this
  exact ⟨this.1.1, this.1.2, this.2⟩
abbrev iY : List It := itemsL (befD [dY, dSecond, dFirst]) (aliveL ([v10, v20, v30, v11].map (lnD [dY, dSecond, dFirst])))
theorem fit_y : fitB iY = true := by kernel_rfl
/-- items of a known graph, told. -/
theorem items_gb {w0 : World} {q : Nat} {w : World} {S : GS} {n : Nat} {ps : List PD} {M : List Vx} {I : List It} (h : GB w0 q w S n ps) (hL : Laid w0) (hn : n ≤ 100) (hv : (verts ps).length ≤ 10000) (hb : linesB ps M = true) (hI : itemsL (befD ps) (aliveL (M.map (lnD ps))) = I) :
    Calls Tryd.prog 32 #[ptr S.g] w fun e w' => ∃ v, ∃ X : List ItV, e = .returned v ∧ X.map (·.1) = I ∧ OwnIt w.heap.size X v w' ∧ Below w.heap.size w w' :=
  (items_any S n hn w h.gx (h.laid hL) (by rw [h.dsp]; exact hv)).mono fun _ _ hq => items_known h.dsp h.gx.gi.gm.lsl hb hI hq
/-- .. and their texts. -/
theorem texts_known {I : List It} {X : List ItV} {v : Value} {w : World} {T : List ByteArray} (hX : X.map (·.1) = I) (hf : fitB I = true) (hI : I.length ≤ 10000) (hT : textI I = T) (h : RdIts w X v) : Calls Tryd.prog 35 #[v] w fun e w' => ∃ v', e = .returned v' ∧ OwnS w.heap.size T v' w' ∧ Below w.heap.size w w' := by
  refine (rtext_any X v w h (by rw [← hX, List.length_map] at hI; exact hI) (fit_of hf hX)).mono ?_
  rintro e w' ⟨v', rfl, h1, h2⟩
  rw [hX, hT] at h1
  exact ⟨v', rfl, h1, h2⟩
theorem same_yes {u v : Value} {L : List ByteArray} {w : World} (h : RdS w u L) (h2 : RdS w v L) (hl : L.length ≤ 1000000) : Calls Tryd.prog 34 #[u, v] w fun e w' => e = .returned (.bool true) ∧ Below w.heap.size w w' := by
  have := same16_any u v L L w h h2 hl
  rw [decide_eq_true rfl] at this
  exact this
/-- the law's texts, laid in a row. -/
theorem same_row {u : Value} {L : List ByteArray} {w : World} (h : RdS w u L) (hl : L.length ≤ 1000000) : Calls Tryd.prog 34 #[u, .slice (some ⟨w.heap.size, 0, none⟩) L.length L.length] (w.alloc (.cells (L.map Value.string).toArray 9)) fun e w' => e = .returned (.bool true) ∧ Below w.heap.size w w' := by
  have k : Below w.heap.size w (w.alloc (.cells (L.map Value.string).toArray 9)) := (Below.refl _ _).alloc (Nat.le_refl _) _
  refine (same_yes (h.below k) (rdS_row (Go.heap_alloc_new w _)) hl).mono ?_
  rintro e w' ⟨rfl, hl⟩
  exact ⟨rfl, k.trans (hl.mono k.size)⟩
set_option maxHeartbeats 8000000 in
theorem works_any (w : World) (hL : Laid w) : Calls Tryd.prog 30 #[] w fun e w' => e = .returned (.bool true) ∧ Below w.heap.size w w' := by
  have HL := Lib.hid hL
  have hB := base_any w hL
  clear hL
  go_enter Tryd.func30, Tryd.ntmps30
  go_upto_region 2 with (first
    | (go_at_call 40; refine hB.mono ?_; rintro e w1 ⟨S1, rfl, hp1, hx1, hlo1, hb1⟩; have hG := gb_base hp1 hx1 hlo1 hb1 (#[Value.int IntKind.u8 0, Value.int IntKind.u8 0, Value.int IntKind.u8 0, Value.int IntKind.u8 0, Value.int IntKind.u8 0, Value.int IntKind.u8 0, Value.int IntKind.u8 0, Value.int IntKind.u8 0, Value.int IntKind.u8 0, Value.int IntKind.u8 0, Value.int IntKind.u8 0, Value.int IntKind.u8 0, Value.int IntKind.u8 0, Value.int IntKind.u8 0, Value.int IntKind.u8 0, Value.int IntKind.u8 0, Value.int IntKind.u8 0, Value.int IntKind.u8 0, Value.int IntKind.u8 0, Value.int IntKind.u8 0, Value.int IntKind.u8 0, Value.int IntKind.u8 0, Value.int IntKind.u8 0, Value.int IntKind.u8 0, Value.int IntKind.u8 0, Value.int IntKind.u8 0, Value.int IntKind.u8 0, Value.int IntKind.u8 0, Value.int IntKind.u8 0, Value.int IntKind.u8 0, Value.int IntKind.u8 0, Value.int IntKind.u8 0, Value.int IntKind.i64 0]); clear hp1 hx1 hlo1 hb1)
    | (refine wpList_store_row rfl 27 (.tmp 2) (.tmp 10) rfl w1.heap.size v10.c rfl rfl 27 _ (two_new w1 _ _).1 (infoVxA _) (by rw [Vx.c_size]; rfl) (Vx.one _) ?_)
    | (refine wpList_store_row rfl 27 (.tmp 3) (.tmp 11) rfl (w1.heap.size + 1) v11.c rfl rfl 27 _ ((setRow_ne (by omega)).trans (two_new w1 _ _).2) (infoVxA _) (by rw [Vx.c_size]; rfl) (Vx.one _) ?_))
  rw [put_none, put_none]
  obtain ⟨W, hW⟩ : ∃ W, W = ((((w1.alloc (.cells (#[Value.int IntKind.u8 0, Value.int IntKind.u8 0, Value.int IntKind.u8 0, Value.int IntKind.u8 0, Value.int IntKind.u8 0, Value.int IntKind.u8 0, Value.int IntKind.u8 0, Value.int IntKind.u8 0, Value.int IntKind.u8 0, Value.int IntKind.u8 0, Value.int IntKind.u8 0, Value.int IntKind.u8 0, Value.int IntKind.u8 0, Value.int IntKind.u8 0, Value.int IntKind.u8 0, Value.int IntKind.u8 0, Value.int IntKind.u8 0, Value.int IntKind.u8 0, Value.int IntKind.u8 0, Value.int IntKind.u8 0, Value.int IntKind.u8 0, Value.int IntKind.u8 0, Value.int IntKind.u8 0, Value.int IntKind.u8 0, Value.int IntKind.u8 0, Value.int IntKind.u8 0, Value.int IntKind.u8 0, Value.int IntKind.u8 0, Value.int IntKind.u8 0, Value.int IntKind.u8 0, Value.int IntKind.u8 0, Value.int IntKind.u8 0, Value.int IntKind.i64 0]) 27)).alloc (.cells (#[Value.int IntKind.u8 0, Value.int IntKind.u8 0, Value.int IntKind.u8 0, Value.int IntKind.u8 0, Value.int IntKind.u8 0, Value.int IntKind.u8 0, Value.int IntKind.u8 0, Value.int IntKind.u8 0, Value.int IntKind.u8 0, Value.int IntKind.u8 0, Value.int IntKind.u8 0, Value.int IntKind.u8 0, Value.int IntKind.u8 0, Value.int IntKind.u8 0, Value.int IntKind.u8 0, Value.int IntKind.u8 0, Value.int IntKind.u8 0, Value.int IntKind.u8 0, Value.int IntKind.u8 0, Value.int IntKind.u8 0, Value.int IntKind.u8 0, Value.int IntKind.u8 0, Value.int IntKind.u8 0, Value.int IntKind.u8 0, Value.int IntKind.u8 0, Value.int IntKind.u8 0, Value.int IntKind.u8 0, Value.int IntKind.u8 0, Value.int IntKind.u8 0, Value.int IntKind.u8 0, Value.int IntKind.u8 0, Value.int IntKind.u8 0, Value.int IntKind.i64 0]) 27))).setRow w1.heap.size v10.c).setRow (w1.heap.size + 1) v11.c := ⟨_, rfl⟩
  rw [← hW] at hG ⊢
  obtain ⟨q, hq⟩ : ∃ q, q = w1.heap.size := ⟨_, rfl⟩
  rw [← hq] at hG ⊢
  have HG := Lib.hid hG
  clear hW hq hG
  obtain ⟨pg, hpg⟩ : ∃ pg, pg = ptr S1.g := ⟨_, rfl⟩
  rw [← hpg]
  have HS1 : Hid (ptr S1.g = pg) := hpg.symm
  clear hpg
  have ea := box_vx HG.out.r1
  have eb := box_vx HG.out.r2
  have hP : ∀ u, Calls Tryd.prog 41 #[.int .u8 2, .agg v10.c, .agg v11.c, .slice (some ⟨W.heap.size, 0, none⟩) 1 1] u fun e w' => e = .returned (.agg (givC dSecond (.slice (some ⟨W.heap.size, 0, none⟩) 1 1) nils)) ∧ Below u.heap.size u w' := fun u => lpart dSecond 2 rfl rfl rfl rfl rfl _ _ _ u
  have HR : Hid ((W.alloc (.cells #[.string ⟨#[120]⟩] 9)).heap[W.heap.size]? = some (.cells #[.string ⟨#[120]⟩] 9 (0, 0))) := Go.heap_alloc_new W _
  have KR : Hid (Below W.heap.size W (W.alloc (.cells #[.string ⟨#[120]⟩] 9))) := (Below.refl _ _).alloc (Nat.le_refl _) _
  have HAd : Hid (∀ u, Below W.heap.size W u → u.heap[W.heap.size]? = some (.cells #[.string ⟨#[120]⟩] 9 (0, 0)) → Calls Tryd.prog 22 #[pg, .agg (givC dSecond (.slice (some ⟨W.heap.size, 0, none⟩) 1 1) nils)] u fun e w' => e = .returned (.int .i64 0) ∧ ∃ S', ptr S'.g = pg ∧ GB w q w' S' 2 (dSecond :: [dFirst])) := fun u hu hr => by
    have := gb_add (HG.out.later hu) (by omega) HL.out (d := dSecond) (l := .slice (some ⟨W.heap.size, 0, none⟩) 1 1) (g := nils) (gv_of dS_db (by decide) rfl hr) rf_2
    rw [HS1.out] at this
    refine this.mono ?_
    rintro e w' ⟨rfl, S', h1, h2⟩
    exact ⟨rfl, S', by rw [h1]; exact HS1.out, h2⟩
  go_upto_region 3 with (first
    | (go_at_call 41; refine (hP _).mono ?_; rintro e w3 ⟨rfl, hlo3⟩; have hAd := HAd.out w3 (KR.out.trans (hlo3.mono KR.out.size)) ((hlo3.block _ (Array.getElem?_eq_some_iff.1 HR.out).1).trans HR.out); clear hlo3)
    | (go_at_call 22; refine hAd.mono ?_; rintro e w4 ⟨rfl, S2, hg2, hG2⟩; have HG2 := Lib.hid hG2; have HS2 := Lib.hid hg2; clear hG2 hg2))
  clear ea eb hP HR KR HAd hAd
  have ea := box_vx HG2.out.r1
  have eb := box_vx HG2.out.r2
  have hP : ∀ u, Calls Tryd.prog 41 #[.int .u8 3, .agg v10.c, .agg v11.c, .slice (some ⟨w4.heap.size, 0, none⟩) 1 1] u fun e w' => e = .returned (.agg (givC dY (.slice (some ⟨w4.heap.size, 0, none⟩) 1 1) nils)) ∧ Below u.heap.size u w' := fun u => lpart dY 3 rfl rfl rfl rfl rfl _ _ _ u
  have HR : Hid ((w4.alloc (.cells #[.string ⟨#[121]⟩] 9)).heap[w4.heap.size]? = some (.cells #[.string ⟨#[121]⟩] 9 (0, 0))) := Go.heap_alloc_new w4 _
  have KR : Hid (Below w4.heap.size w4 (w4.alloc (.cells #[.string ⟨#[121]⟩] 9))) := (Below.refl _ _).alloc (Nat.le_refl _) _
  have HAd : Hid (∀ u, Below w4.heap.size w4 u → u.heap[w4.heap.size]? = some (.cells #[.string ⟨#[121]⟩] 9 (0, 0)) → Calls Tryd.prog 22 #[pg, .agg (givC dY (.slice (some ⟨w4.heap.size, 0, none⟩) 1 1) nils)] u fun e w' => e = .returned (.int .i64 0) ∧ ∃ S', ptr S'.g = pg ∧ GB w q w' S' 3 (dY :: [dSecond, dFirst])) := fun u hu hr => by
    have := gb_add (HG2.out.later hu) (by omega) HL.out (d := dY) (l := .slice (some ⟨w4.heap.size, 0, none⟩) 1 1) (g := nils) (gv_of dY_db (by decide) rfl hr) rf_3
    rw [HS2.out] at this
    refine this.mono ?_
    rintro e w' ⟨rfl, S', h1, h2⟩
    exact ⟨rfl, S', by rw [h1]; exact HS2.out, h2⟩
  go_upto_region 4 with (first
    | (go_at_call 41; refine (hP _).mono ?_; rintro e w5 ⟨rfl, hlo3⟩; have hAd := HAd.out w5 (KR.out.trans (hlo3.mono KR.out.size)) ((hlo3.block _ (Array.getElem?_eq_some_iff.1 HR.out).1).trans HR.out); clear hlo3)
    | (go_at_call 22; refine hAd.mono ?_; rintro e w6 ⟨rfl, S3, hg2, hG2⟩; have HG3 := Lib.hid hG2; have HS3 := Lib.hid hg2; clear hG2 hg2))
  clear ea eb hP HR KR HAd hAd
  have hIt := items_gb HG3.out HL.out (by omega) (of_decide_eq_true (by kernel_rfl)) li_y (I := iY) rfl
  rw [HS3.out] at hIt
  go_upto_region 5 with (go_at_call 32; refine hIt.mono ?_; rintro e w7 ⟨v, X, rfl, hX, hown, hlo7⟩)
  have hl0 : iY.length = 3 := by have := congrArg List.length it_y; rw [List.length_map] at this; exact this
  have hl3 : X.length = 3 := by have := congrArg List.length hX; rw [List.length_map, hl0] at this; exact this
  obtain ⟨x1, hx1, hx2⟩ : ∃ x, X[1]? = some x ∧ x.1.block = true := by
    obtain ⟨x, hx⟩ : ∃ x, X[1]? = some x := ⟨_, List.getElem?_eq_getElem (by omega)⟩
    have h1 : (iY.map (fun x => (x.block, x.lines.length, x.mids.length)))[1]? = some (true, 2, 1) := by rw [it_y]; rfl
    rw [← hX, List.map_map, List.getElem?_map, hx] at h1
    have h2 := Option.some.inj h1
    exact ⟨x, hx, congrArg Prod.fst h2⟩
  have hany : (X.any fun x => x.1.block) = true := List.any_eq_true.2 ⟨x1, List.mem_of_getElem? hx1, hx2⟩
  have hrd := hown.rd
  have hCf := conflict_any v X w7 hrd (by omega)
  rw [hany] at hCf
  have HRd := Lib.hid hrd
  have HX := Lib.hid hX
  have HI3 : Hid (iY.length ≤ 10000) := by show _ ≤ _; rw [hl0]; decide
  obtain ⟨A7, c7, hv, hc7, hr7⟩ := hrd.row
  rw [hl3] at hv hc7
  obtain ⟨g7, o7, rfl, hg7, hcell⟩ := hr7 (by omega)
  subst hv
  have c1 := hcell 1 x1 hx1 1 _ rfl
  rw [hx2] at c1
  have c1a : w7.cell? ⟨g7, o7 + 3 + 1, none⟩ = some (.bool true) := c1
  have c1b : w7.cell? ⟨g7, o7 + 4, none⟩ = some (.bool true) := c1
  have hc7I : (3 : Int) ≤ c7 := by omega
  have Hlo7 := Lib.hid (HG3.out.low.trans (hlo7.mono HG3.out.low.size))
  clear hIt hX hown hlo7 hl0 hl3 hx1 hx2 hany hrd hr7 hcell c1 hg7 hc7
  go_wp2_with (first
    | (go_at_call 38; refine hCf.mono ?_; rintro e w8 ⟨rfl, hlo8⟩; have hTx := texts_known HX.out fit_y HI3.out tx_y (HRd.out.below hlo8); have Hlo8 := Lib.hid hlo8; clear hlo8)
    | (go_at_call 35; refine hTx.mono ?_; rintro e w9 ⟨v9, rfl, ho9, hlo9⟩; have hSm := same_row ho9.rds (by decide); have Hlo9 := Lib.hid hlo9; clear hlo9 ho9)
    | (go_at_call 34; refine hSm.mono ?_; rintro e w10 ⟨rfl, hlo10⟩))
  trace_state
  go_ret
  have h8 := Hlo7.out.trans (Hlo8.out.mono Hlo7.out.size)
  have h9 := h8.trans (Hlo9.out.mono h8.size)
  exact ⟨rfl, h9.trans (hlo10.mono h9.size)⟩
end Go.Proofs.YtnjeppmpnaemlaaDoor.Grf
/- DERIVED. Items of no graph. -/
set_option maxRecDepth 100000
namespace Go.Proofs.YtnjeppmpnaemlaaDoor.Grf
open Go.RowKit Str Go.Maps
attribute [local go_sem ↓ high] loadAtVx loadAtHs loadAtGv
theorem solid_zero (S : Value) (A : Option Addr) (c : Nat) (w : World) : Calls Tryd.prog 56 #[S, .slice A 0 c] w fun e w' => e = .returned nils ∧ w' = w := by
  go_enter Tryd.func56, Tryd.ntmps56
  go_upto_region 4 with (fail)
  go_step3
  go_upto_region 4 with (fail)
  go_step3
  go_upto_region 4 with (fail)
  go_loopw [5, 10] (fun f i wr => i = .int .i64 0 ∧ f = nils ∧ wr = w) (fun _ _ _ => 0)
  case atStart => exact ⟨rfl, rfl, rfl⟩
  case round =>
    obtain ⟨rfl, rfl, rfl⟩ := hrel
    go_wp2
    rw [Exit.noGoto_ret]
    go_ret
    exact ⟨rfl, rfl⟩
set_option maxHeartbeats 4000000 in
theorem items_nil (w : World) : Calls Tryd.prog 32 #[.pointer none] w fun e w' => e = .returned nils ∧ Below w.heap.size w w' := by
  have hLn := no_lines (w := w) (v := .pointer none) (.inl rfl)
  have hDel : ∀ u, Calls Tryd.prog 54 #[nils, fDead] u fun e w' => ∃ A c, e = .returned (.slice A 0 c) ∧ Below u.heap.size u w' := fun u => by
    refine (delete_any nils [] u.heap.size u (World.ownsRow_nil _ _ _ _) (by simp) (Nat.le_refl _)).mono ?_
    rintro e w' ⟨v', rfl, h1, h2⟩
    obtain ⟨A, c, rfl, -, -⟩ := h1.rd
    exact ⟨A, c, rfl, h2⟩
  go_enter Tryd.func32, Tryd.ntmps32
  go_upto_region 5 with (first
    | (go_at_call 24; refine hLn.mono ?_; rintro e w1 ⟨rfl, m, hm⟩; have hlo1 := drew_below w m; rw [← hm] at hlo1; clear hm)
    | (go_at_call 54; refine (hDel _).mono ?_; rintro e w2 ⟨A, c, rfl, hlo2⟩)
    | (go_at_call 56; refine (solid_zero _ _ _ _).mono ?_; rintro e w3 ⟨rfl, rfl⟩))
  have hlo := hlo1.trans (hlo2.mono hlo1.size)
  have HLo := Lib.hid hlo
  clear hlo hlo1 hlo2 hLn hDel
  rename World => w9
  go_loopw [4, 5, 15] (fun iv tl i wr => i = .int .i64 0 ∧ iv = nils ∧ tl = .int .i64 0 ∧ Hid (Below w.heap.size w wr)) (fun _ _ _ _ => 0)
  case atStart => exact ⟨rfl, rfl, rfl, HLo⟩
  case round =>
    obtain ⟨rfl, rfl, rfl, hb⟩ := hrel
    go_wp2
    go_ret
    exact ⟨rfl, hb.out⟩
end Go.Proofs.YtnjeppmpnaemlaaDoor.Grf
/- DERIVED. What RenderKnown builds and asks: reckoned. -/
set_option maxRecDepth 100000
namespace Go.Proofs.YtnjeppmpnaemlaaDoor.Grf
open Go.RowKit Str Go.Maps
def dX12 : PD := ⟨vA 2 0 (by omega) (by omega), 0, vA 1 0 (by omega) (by omega), vA 1 1 (by omega) (by omega), [⟨#[120, 49]⟩, ⟨#[120, 50]⟩], []⟩
theorem dX12_db : DB dX12 := ⟨by decide, by decide, fun s hs => by simp [dX12] at hs; rcases hs with rfl | rfl <;> decide⟩
abbrev v21 : Vx := vA 2 1 (by omega) (by omega)
abbrev v40 : Vx := vA 4 0 (by omega) (by omega)
def dZ : PD := ⟨vA 4 0 (by omega) (by omega), 0, vA 1 0 (by omega) (by omega), vA 1 1 (by omega) (by omega), [⟨#[122]⟩], [v20, v21, v30]⟩
theorem dZ_db : DB dZ := ⟨by decide, by decide, fun s hs => by simp [dZ] at hs; rcases hs with rfl; decide⟩
theorem rf_x : refD [dFirst] dX12 = 0 := by kernel_rfl
theorem rf_xy : refD [dX12, dFirst] dY = 0 := by kernel_rfl
theorem rf_z : refD [dY, dX12, dFirst] dZ = 0 := by kernel_rfl
theorem li_xy : linesB [dY, dX12, dFirst] [v10, v20, v21, v30, v11] = true := by kernel_rfl
theorem li_z : linesB [dZ, dY, dX12, dFirst] [v10, v20, v21, v30, v40, v11] = true := by kernel_rfl
theorem li_0 : linesB [] [] = true := by kernel_rfl
abbrev i1 : List It := itemsL (befD [dSecond, dFirst]) (aliveL ([v10, v20, v11].map (lnD [dSecond, dFirst])))
abbrev i2 : List It := itemsL (befD [dY, dX12, dFirst]) (aliveL ([v10, v20, v21, v30, v11].map (lnD [dY, dX12, dFirst])))
abbrev i3 : List It := itemsL (befD [dZ, dY, dX12, dFirst]) (aliveL ([v10, v20, v21, v30, v40, v11].map (lnD [dZ, dY, dX12, dFirst])))
theorem fit_1 : fitB i1 = true := by kernel_rfl
theorem fit_2 : fitB i2 = true := by kernel_rfl
theorem fit_3 : fitB i3 = true := by kernel_rfl
theorem tx_1' : textI i1 = [⟨#[97]⟩, ⟨#[120]⟩, ⟨#[98]⟩] := by kernel_rfl
theorem tx_2' : textI i2 = [⟨#[97]⟩, ⟨#[62, 62, 62, 62, 62, 62, 62]⟩, ⟨#[120, 49]⟩, ⟨#[120, 50]⟩, ⟨#[61, 61, 61, 61, 61, 61, 61]⟩, ⟨#[121]⟩, ⟨#[60, 60, 60, 60, 60, 60, 60]⟩, ⟨#[98]⟩] := by kernel_rfl
theorem tx_3' : textI i3 = [⟨#[97]⟩, ⟨#[122]⟩, ⟨#[98]⟩] := by kernel_rfl
theorem le_1 : i1.length ≤ 10000 := of_decide_eq_true (by kernel_rfl)
theorem le_2 : i2.length ≤ 10000 := of_decide_eq_true (by kernel_rfl)
theorem le_3 : i3.length ≤ 10000 := of_decide_eq_true (by kernel_rfl)
theorem it_0 : itemsL (befD []) (aliveL (([] : List Vx).map (lnD []))) = [] := by kernel_rfl
/-- a part that is built with Gone. -/
noncomputable def bPt (p : Array (Nat × Value)) : Sem Value := Instr.build 31 p
theorem bPt_of (p : Array (Nat × Value)) : Instr.build 31 p = bPt p := rfl
theorem run_bPt (w : World) (d : PD) (h0 : d.nm.n = 0) (h1 : d.first = 0) (A B : Option Addr) (n c n2 c2 : Nat) : (bPt #[(0, .agg (hsC d.nm.h)), (3, .agg d.up.c), (4, .agg d.down.c), (5, .slice A n c), (6, .slice B n2 c2)]).run Tryd.prog w = .ok (.agg (givC d (.slice A n c) (.slice B n2 c2))) w := run_build w _ _ _ (built_giv2 d h0 h1 A B n c n2 c2)
attribute [irreducible] bPt
/-- a slice of three vertices. -/
noncomputable def three3 (p : Array (Nat × Value)) : Sem Value := Instr.buildSlice 29 3 p
theorem three3_of (p : Array (Nat × Value)) : Instr.buildSlice 29 3 p = three3 p := rfl
def zVx : Array Value := (List.replicate 32 (Value.int .u8 0) ++ [Value.int .i64 0]).toArray
theorem info_vx3 : (Tryd.prog.info? 27).map (fun i => (i.size, i.zero.map (·.cells))) = some (33, some zVx) := by kernel_rfl
theorem fill_v3 (f g h : Nat → Value) : Instr.fill (fun i => some (i * 33, 33)) ((Array.range (3 * 33)).map (fun i => zVx[i % zVx.size]!)) [(0, .agg ((List.range 33).map f).toArray), (1, .agg ((List.range 33).map g).toArray), (2, .agg ((List.range 33).map h).toArray)] = some ((List.range 33).map f ++ (List.range 33).map g ++ (List.range 33).map h).toArray := by kernel_rfl
theorem run_three3 (a b c : Vx) (w : World) : (three3 #[(0, .agg a.c), (1, .agg b.c), (2, .agg c.c)]).run Tryd.prog w = .ok (.slice (some ⟨w.heap.size, 0, none⟩) 3 3) (w.alloc (.cells (flatV [a, b, c]).toArray 27)) := by
  have hi := info_vx3
  cases hie : Tryd.prog.info? 27 with
  | none => rw [hie] at hi; cases hi
  | some ie =>
    rw [hie] at hi
    simp only [Option.map_some, Option.some.injEq, Prod.mk.injEq] at hi
    obtain ⟨hs, hz0⟩ := hi
    cases hz : ie.zero with
    | none => rw [hz] at hz0; cases hz0
    | some z =>
      rw [hz] at hz0
      have hc : z.cells = zVx := Option.some.inj hz0
      unfold three3
      refine run_buildSlice w 29 27 3 _ _ ie z Tryd.underlying29 hie hz (by rw [hs]; omega) (by rw [hs]; omega) ?_
      rw [hs, hc]
      obtain ⟨f, hf⟩ := vx_fun a
      obtain ⟨g, hg⟩ := vx_fun b
      obtain ⟨h, hh⟩ := vx_fun c
      have e : (flatV [a, b, c]).toArray = (a.c.toList ++ b.c.toList ++ c.c.toList).toArray := by simp [flatV]
      rw [e]
      obtain ⟨f, hf⟩ := fun_of a.c 33 a.c_size
      obtain ⟨g, hg⟩ := fun_of b.c 33 b.c_size
      obtain ⟨h, hh⟩ := fun_of c.c 33 c.c_size
      rw [hf, hg, hh]
      exact fill_v3 f g h
attribute [irreducible] three3
theorem rdI_nil (w : World) : RdIts w [] nils := ⟨⟨none, 0, rfl, Nat.le_refl _, fun h => absurd h (by simp)⟩, fun x hx => by cases hx⟩
theorem text_zero (w : World) : Calls Tryd.prog 35 #[nils] w fun e w' => ∃ A c, e = .returned (.slice A 0 c) ∧ Below w.heap.size w w' := by
  refine (rtext_any [] nils w (rdI_nil w) (by simp) (fun x hx => by cases hx)).mono ?_
  rintro e w' ⟨v', rfl, h1, h2⟩
  obtain ⟨A, c, rfl, -, -⟩ := h1.rds
  exact ⟨A, c, rfl, h2⟩
theorem conflict_zero (w : World) : Calls Tryd.prog 38 #[nils] w fun e w' => e = .returned (.bool false) ∧ Below w.heap.size w w' := conflict_any nils [] w (rdI_nil w) (by simp)
theorem items_zero {w : World} {S : GS} (h : GX w S 0) (hp : S.ps = []) (hL : Laid w) : Calls Tryd.prog 32 #[ptr S.g] w fun e w' => ∃ A c, e = .returned (.slice A 0 c) ∧ Below w.heap.size w w' := by
  refine (items_any S 0 (by omega) w h hL (by rw [hp]; decide)).mono ?_
  rintro e w' hq
  obtain ⟨v, X, rfl, hX, ho, hl⟩ := items_known (ps := []) (by rw [hp]; rfl) h.gi.gm.lsl li_0 it_0 hq
  obtain rfl : X = [] := List.map_eq_nil_iff.1 hX
  obtain ⟨A, c, rfl, -, -⟩ := ho.rd.row
  exact ⟨A, c, rfl, hl⟩
theorem rdV_row {w : World} {b : Nat} {l : List Vx} (h : w.heap[b]? = some (.cells (flatV l).toArray 27 (0, 0))) : RdV w (.slice (some ⟨b, 0, none⟩) l.length l.length) l :=
  ⟨_, _, rfl, Nat.le_refl _, fun _ => ⟨b, 0, rfl, (Array.getElem?_eq_some_iff.1 h).1, fun j x hx k u hu => by
    rw [Nat.zero_add, cell_row h]
    have := flatV_at l j k x u hx hu
    simpa using this⟩⟩
end Go.Proofs.YtnjeppmpnaemlaaDoor.Grf
