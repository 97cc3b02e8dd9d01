/- DERIVED. Texts of ours, merged: XGrfAwake XGrfNo XGrfNo2 XGrfRemo XGrfDropA. -/
import Derived.Test.YtnjeppmpnaemlaaDoorMkn20
/- DERIVED. The law's awake. -/
set_option maxRecDepth 100000
namespace Go.Proofs.YtnjeppmpnaemlaaDoor.Grf
open Go.RowKit Str Go.Maps
attribute [local go_sem ↓ high] loadAtVx loadAtHs loadAtGv onePt_of twoPt_of threePt_of
theorem nw_text {w : World} {ps : List PD} {n : Nat} (hn : n ≤ 100) {M : List Vx} {s : ByteArray} (hb : linesB ps M = true) (ht : textL (M.map (lnD ps)) = s) (hl : (verts ps).length ≤ 10000) {S : GS} (hps : ds S.ps = ps) (hg : GX w S n) (hL : Laid w) :
    Calls Tryd.prog 17 #[ptr S.g] w fun e w' => e = .returned (.string s) ∧ Below w.heap.size w w' :=
  (text_any S n hn w hg hL (by rw [hps]; exact hl)).mono fun _ _ h => tx_known hps hb ht h
set_option maxHeartbeats 4000000 in
theorem awake_any (w : World) (hL : Laid w) : Calls Tryd.prog 16 #[] w fun e w' => e = .returned (.bool true) ∧ Below w.heap.size w w' := by
  have HL := Lib.hid hL
  have e1 := run_onePt
  have e3 := run_threePt
  have hA := lfirst_any w
  clear hL
  go_enter Tryd.func16, Tryd.ntmps16
  go_upto_region 1 with (fail)
  refine wp_region_lit ?_
  refine wpList_plain rfl (fun K hK => ?_)
  go_simp
  go_at_call 12
  refine hA.mono ?_
  rintro e w1 ⟨l1, g1, rfl, ok1, low1⟩
  refine hK _ _ ?_
  clear hK K hA
  refine wpList_plain rfl (fun K hK => ?_)
  go_simp
  refine hK _ _ ?_
  clear hK K
  refine wpList_plain rfl (fun K hK => ?_)
  go_simp
  go_at_call 11
  refine (made1_any dFirst l1 g1 _ md_1 w1 (HL.out.below low1 (Nat.le_refl _)) ok1).mono ?_
  rintro e w2 ⟨S, rfl, hps, hgx, low2, -⟩
  refine hK _ _ ?_
  clear hK K ok1
  have low3 := low1.trans (low2.mono low1.size)
  clear low1 low2
  refine wpList_plain rfl (fun K hK => ?_)
  go_simp
  go_at_call 17
  refine (nw_text (by omega) li_1 tx_1 (by decide) hps hgx (HL.out.below low3 (Nat.le_refl _))).mono ?_
  rintro e w4 ⟨rfl, low4⟩
  refine hK _ _ ?_
  clear hK K hps hgx
  have low5 := low3.trans (low4.mono low3.size)
  clear low3 low4
  obtain ⟨pS, hpS⟩ : ∃ pS, pS = ptr S.g := ⟨_, rfl⟩
  rw [← hpS]
  clear hpS
  have hA := lfirst_any w4
  go_wp2_with (first | (go_at_call 12; refine hA.mono ?_; rintro e w6 ⟨l6, g6, rfl, ok6, low6⟩; have hB := lsecond_any w6) | (go_at_call 13; refine hB.mono ?_; rintro e w7 ⟨l7, g7, rfl, ok7, low7⟩; have hC := lthird_any w7) | (go_at_call 14; refine hC.mono ?_; rintro e w8 ⟨l8, g8, rfl, ok8, low8⟩; have low78 := low7.trans (low8.mono low7.size); have low58 := low5.trans ((low6.trans (low78.mono low6.size)).mono low5.size); have hD := made3_any dFirst l6 g6 dSecond l7 g7 dThird l8 g8 _ md_123 w8 (HL.out.below low58 (Nat.le_refl _)) (ok6.below low78) (ok7.below low8) ok8) | (go_at_call 11; refine hD.mono ?_; rintro e w9 ⟨S9, rfl, hps, hgx, low9, -⟩; have low59 := low58.trans (low9.mono low58.size); have hE := nw_text (by omega) li_123 tx_123 (by decide) hps hgx (HL.out.below low59 (Nat.le_refl _))) | (go_at_call 17; refine hE.mono ?_; rintro e w10 ⟨rfl, low10⟩))
  go_ret
  exact ⟨rfl, low59.trans (low10.mono low59.size)⟩
end Go.Proofs.YtnjeppmpnaemlaaDoor.Grf
/- DERIVED. Graphs that are none: nil, or a zero one. -/
set_option maxRecDepth 100000
namespace Go.Proofs.YtnjeppmpnaemlaaDoor.Grf
open Go.RowKit Str Go.Maps
attribute [local go_sem ↓ high] loadAtVx loadAtHs loadAtGv
/-- no graph. -/
def NoG (w : World) (v : Value) : Prop := v = .pointer none ∨ ∃ g, v = ptr g ∧ w.cell? ⟨g, 0, none⟩ = some (.pointer none)
theorem NoG.below {w w' : World} {v : Value} (h : NoG w v) (hb : Below w.heap.size w w') : NoG w' v := by
  rcases h with h | ⟨g, h1, h2⟩
  · exact .inl h
  · exact .inr ⟨g, h1, (hb.cell (World.block_lt_of_cell? _ _ h2)).trans h2⟩
theorem no_made {w : World} {v : Value} (h : NoG w v) : Calls Tryd.prog 46 #[v] w fun e w' => e = .returned (.bool false) ∧ ∃ m, w' = w.drewN m := by
  rcases h with rfl | ⟨g, rfl, h⟩
  · exact made_nil w
  · exact made_zero g w h
set_option maxHeartbeats 1000000 in
theorem no_lines {w : World} {v : Value} (h : NoG w v) : Calls Tryd.prog 24 #[v] w fun e w' => e = .returned nils ∧ ∃ m, w' = w.drewN m := by
  have h1 := no_made h
  clear h
  go_enter Tryd.func24, Tryd.ntmps24
  go_wp2_with (go_at_call 46; refine h1.mono ?_; rintro e w1 ⟨rfl, m, rfl⟩)
  go_ret
  exact ⟨rfl, m, rfl⟩
set_option maxHeartbeats 1000000 in
theorem no_copy {w : World} {v : Value} (h : NoG w v) : Calls Tryd.prog 26 #[v] w fun e w' => e = .returned (.pointer none) ∧ ∃ m, w' = w.drewN m := by
  have h1 := no_made h
  clear h
  go_enter Tryd.func26, Tryd.ntmps26
  go_wp2_with (go_at_call 46; refine h1.mono ?_; rintro e w1 ⟨rfl, m, rfl⟩)
  go_ret
  exact ⟨rfl, m, rfl⟩
set_option maxHeartbeats 1000000 in
theorem no_has {w : World} {v : Value} (h : NoG w v) (x : Vx) : Calls Tryd.prog 25 #[v, .agg x.c] w fun e w' => e = .returned (.bool false) ∧ Below w.heap.size w w' := by
  have hlow := (Below.refl w.heap.size w).alloc (Nat.le_refl _) (.cells x.c 27)
  obtain ⟨w1, hw1⟩ : ∃ w1, w1 = w.alloc (.cells x.c 27) := ⟨_, rfl⟩
  rw [← hw1] at hlow
  have h1 := h.below hlow
  have Hw1 := Lib.hid hw1
  have Hlow := Lib.hid hlow
  have HM : Hid (∀ n, Calls Tryd.prog 46 #[v] (w1.drewN n) fun e w' => e = .returned (.bool false) ∧ ∃ m, w' = (w1.drewN n).drewN m) := fun n => no_made (h1.below ⟨rfl, rfl, rfl, Nat.le_refl _, fun _ _ => rfl⟩)
  clear h h1 hw1 hlow
  go_enter Tryd.func25, Tryd.ntmps25
  go_upto_region 1 with (fail)
  rw [← Hw1.out]
  go_quiet ((go_at_call 46; exact Calls.quiet_of (HM.out _)))
  go_wp2
  go_ret
  exact ⟨rfl, Hlow.out.trans ⟨rfl, rfl, rfl, Nat.le_refl _, fun _ _ => rfl⟩⟩
set_option maxHeartbeats 1000000 in
theorem no_add {w : World} {v : Value} (h : NoG w v) (d : PD) (l g : Value) : Calls Tryd.prog 22 #[v, .agg (givC d l g)] w fun e w' => e = .returned (.int .i64 1) ∧ Below w.heap.size w w' := by
  have hR : ∀ u, Below w.heap.size w u → Calls Tryd.prog 44 #[v, .agg (givC d l g)] u fun e w' => e = .returned (.int .i64 1) ∧ Below u.heap.size u w' := fun u hu => by
    have hlow := (Below.refl u.heap.size u).alloc (Nat.le_refl _) (.cells (givC d l g) 31)
    have h1 := no_made ((h.below hu).below hlow)
    obtain ⟨u1, hu1⟩ : ∃ u1, u1 = u.alloc (.cells (givC d l g) 31) := ⟨_, rfl⟩
    rw [← hu1] at hlow h1
    have HU := Lib.hid hu1.symm
    have Hlow := Lib.hid hlow
    clear hlow hu1 hu h
    go_enter Tryd.func44, Tryd.ntmps44
    go_upto_region 1 with (fail)
    rw [HU.out]
    go_wp2_with (go_at_call 46; refine h1.mono ?_; rintro e w1 ⟨rfl, m, rfl⟩)
    go_ret
    exact ⟨rfl, Hlow.out.trans ⟨rfl, rfl, rfl, Nat.le_refl _, fun _ _ => rfl⟩⟩
  have hbox := Go.heap_alloc_new w (.cells (givC d l g) 31)
  have k1 : Below w.heap.size w (w.alloc (.cells (givC d l g) 31)) := (Below.refl _ _).alloc (Nat.le_refl _) _
  obtain ⟨W, hW⟩ : ∃ W, W = w.alloc (.cells (givC d l g) 31) := ⟨_, rfl⟩
  rw [← hW] at hbox k1
  have eg := loadGv_eq hbox
  have hR1 := hR W k1
  have HW := Lib.hid hW.symm
  have K1 := Lib.hid k1
  clear hR hW k1 hbox h
  go_enter Tryd.func22, Tryd.ntmps22
  go_upto_region 1 with (fail)
  rw [HW.out]
  go_wp2_with (go_at_call 44; refine hR1.mono ?_; rintro e w2 ⟨rfl, low2⟩)
  go_ret
  exact ⟨rfl, K1.out.trans (low2.mono K1.out.size)⟩
set_option maxHeartbeats 1000000 in
theorem no_remove {w : World} {v : Value} (h : NoG w v) (hs : List Int) (n : Int) : Calls Tryd.prog 23 #[v, .agg (hsC hs), .int .i64 n] w fun e w' => e = .returned (.int .i64 1) ∧ Below w.heap.size w w' := by
  have hlow := (Below.refl w.heap.size w).alloc (Nat.le_refl _) (.cells (hsC hs) 25)
  have h1 := no_made (h.below hlow)
  obtain ⟨w1, hw1⟩ : ∃ w1, w1 = w.alloc (.cells (hsC hs) 25) := ⟨_, rfl⟩
  rw [← hw1] at hlow h1
  have Hw1 := Lib.hid hw1.symm
  have Hlow := Lib.hid hlow
  clear h hw1 hlow
  go_enter Tryd.func23, Tryd.ntmps23
  go_upto_region 1 with (fail)
  rw [Hw1.out]
  go_wp2_with (go_at_call 46; refine h1.mono ?_; rintro e w1 ⟨rfl, m, rfl⟩)
  go_ret
  exact ⟨rfl, Hlow.out.trans ⟨rfl, rfl, rfl, Nat.le_refl _, fun _ _ => rfl⟩⟩
end Go.Proofs.YtnjeppmpnaemlaaDoor.Grf
/- DERIVED. Before of no graph. Written by mkno.py. -/
set_option maxRecDepth 100000
namespace Go.Proofs.YtnjeppmpnaemlaaDoor.Grf
open Go.RowKit Str Go.Maps
attribute [local go_sem ↓ high] loadAtVx loadAtHs loadAtGv
set_option maxHeartbeats 8000000 in
theorem no_before {w : World} {v : Value} (h : NoG w v) (a b : Vx) : Calls Tryd.prog 18 #[v, .agg a.c, .agg b.c] w fun e w' => e = .returned (.bool false) ∧ Below w.heap.size w w' := by
  have h2 := two_new w (.cells a.c 27) (.cells b.c 27)
  have k2 : Below w.heap.size w ((w.alloc (.cells a.c 27)).alloc (.cells b.c 27)) := ((Below.refl _ _).alloc (Nat.le_refl _) _).alloc (by rw [World.size_alloc]; omega) _
  obtain ⟨W, hW⟩ : ∃ W, W = (w.alloc (.cells a.c 27)).alloc (.cells b.c 27) := ⟨_, rfl⟩
  rw [← hW] at h2 k2
  have HW := Lib.hid hW.symm
  have K2 := Lib.hid k2
  have Hg : Hid (NoG W v) := h.below k2
  obtain ⟨q4, hq4⟩ : ∃ q4, q4 = w.heap.size := ⟨_, rfl⟩
  rw [← hq4] at h2
  have Hq4 := Lib.hid hq4
  have H4 := Lib.hid h2.1
  clear h2 k2 hW h hq4
  go_enter Tryd.func18, Tryd.ntmps18
  go_upto_region 1 with (fail)
  rw [HW.out, ← Hq4.out]
  have apx : apartB [7, 8, 9, 10, 11, 12, 13, 14, 15, 16, 17, 18, 19, 20, 21, 22, 23, 24, 25, 26, 27, 28, 29, 6] = true := by decide
  refine wp_region_any (by kernel_rfl) ?_
  change wpAny _ _ _ _ _ _ _ (World.drew _)
  refine wpAny_inv (fun ll aa wx => Hid (ll.size = 24 ∧ Below W.heap.size W wx) ∧ ∃ (z : Nat → Value), Hid (aa = ⟨#[v, .agg a.c, .agg b.c, undef, .pointer (some ⟨q4, 0, none⟩), .pointer (some ⟨q4 + 1, 0, none⟩), z 6, z 7, z 8, z 9, z 10, z 11, z 12, z 13, z 14, z 15, z 16, z 17, z 18, z 19, z 20, z 21, z 22, z 23, z 24, z 25, z 26, z 27, z 28, z 29], []⟩) ∧ Holding [7, 8, 9, 10, 11, 12, 13, 14, 15, 16, 17, 18, 19, 20, 21, 22, 23, 24, 25, 26, 27, 28, 29, 6] [some (v), some (.agg a.c), some (.bool false), some (.bool false), none, none, none, some (.bool false), some (.bool false), none, none, none, none, none, none, none, none, none, none, none, none, none, some (.bool false), some (.bool false)] ll z) ?_ (by kernel_rfl) ?_ ?_ _ _ _ _ (unlisted_none _) ?_
  · rintro ll aa wx ⟨hI, _⟩
    exact hI.out.1
  · rintro ll aa wx ⟨hI, z, ha, hz⟩ hall
    have hx := Lib.hid hI.out.2
    have e0 : z 7 = v := hz 0 _ (hall 0 (by decide)) rfl
    have e1 : z 8 = .agg a.c := hz 1 _ (hall 1 (by decide)) rfl
    have e2 : z 9 = .bool false := hz 2 _ (hall 2 (by decide)) rfl
    have e3 : z 10 = .bool false := hz 3 _ (hall 3 (by decide)) rfl
    have e7 : z 14 = .bool false := hz 7 _ (hall 7 (by decide)) rfl
    have e8 : z 15 = .bool false := hz 8 _ (hall 8 (by decide)) rfl
    have e22 : z 29 = .bool false := hz 22 _ (hall 22 (by decide)) rfl
    have e23 : z 6 = .bool false := hz 23 _ (hall 23 (by decide)) rfl
    clear hall hz hI 
    obtain rfl := ha.out
    clear ha
    clear apx
    have E6 := Lib.hid e23
    have HX := Lib.hid hx.out
    clear e0 e1 e2 e3 e7 e8 e22 e23 hx
    rw [E6.out]
    go_wp2
    go_ret
    exact ⟨rfl, K2.out.trans (HX.out.mono K2.out.size)⟩
  · rintro ll aa wx i ⟨hI, z, ha, hz⟩ hi hu hw
    obtain rfl := ha.out
    have hsz := Lib.hid hI.out.1
    have hx := Lib.hid hI.out.2
    clear ha hI
    have hin : i < 24 := hi
    obtain rfl | rfl | rfl | rfl | rfl | rfl | rfl | rfl | rfl | rfl | rfl | rfl | rfl | rfl | rfl | rfl | rfl | rfl | rfl | rfl | rfl | rfl | rfl | rfl : i = 0 ∨ i = 1 ∨ i = 2 ∨ i = 3 ∨ i = 4 ∨ i = 5 ∨ i = 6 ∨ i = 7 ∨ i = 8 ∨ i = 9 ∨ i = 10 ∨ i = 11 ∨ i = 12 ∨ i = 13 ∨ i = 14 ∨ i = 15 ∨ i = 16 ∨ i = 17 ∨ i = 18 ∨ i = 19 ∨ i = 20 ∨ i = 21 ∨ i = 22 ∨ i = 23 := by omega
    · refine wpOp_plain rfl rfl ?_
      go_simp
      exact ⟨⟨by simp [hsz.out], hx.out⟩, upd z 7 (v), (by unfold Hid; simp [upd]), hz.next apx hsz.out 0 (by decide) _ (fun _ h => Option.some.inj h)⟩
    · have cl := (hx.out.block _ (Array.getElem?_eq_some_iff.1 H4.out).1).trans H4.out
      refine wpOp_plain rfl rfl (wp_load_row 27 (.tmp 4) rfl (q4) rfl 27 a.c (0, 0) _ cl Tryd.underlying27 rfl (infoVxA a) ?_)
      go_simp
      exact ⟨⟨by simp [hsz.out], hx.out⟩, upd z 8 (.agg a.c), (by unfold Hid; simp [upd]), hz.next apx hsz.out 1 (by decide) _ (fun _ h => Option.some.inj h)⟩
    · have e0 : z 7 = v := hz 0 _ (hw 0 (by kernel_rfl)) rfl
      have e1 : z 8 = .agg a.c := hz 1 _ (hw 1 (by kernel_rfl)) rfl
      have hh := no_has (Hg.out.below hx.out) a
      refine wpOp_plain rfl rfl ?_
      go_simp
      go_at_call 25
      refine hh.mono ?_
      rintro e w8 ⟨rfl, low⟩
      exact ⟨⟨by simp [hsz.out], hx.out.trans (low.mono hx.out.size)⟩, upd z 9 (.bool false), (by unfold Hid; simp [upd, e0, e1]), hz.next apx hsz.out 2 (by decide) _ (fun _ h => Option.some.inj h)⟩
    · have e2 : z 9 = .bool false := hz 2 _ (hw 2 (by kernel_rfl)) rfl
      refine wpOp_plain rfl rfl ?_
      go_simp
      exact ⟨⟨by simp [hsz.out], hx.out⟩, upd z 10 (.bool false), (by unfold Hid; simp [upd, e2]), hz.next apx hsz.out 3 (by decide) _ (fun _ h => Option.some.inj h)⟩
    · have e3 : z 10 = .bool false := hz 3 _ (hw 3 (by kernel_rfl)) rfl
      refine wpOp_skip rfl (by simp [Region.wanted, yielded, e3]) ?_
      go_simp
      exact ⟨⟨by simp [hsz.out], hx.out⟩, upd z 11 (undef), (by unfold Hid; simp [upd, e3]), hz.next apx hsz.out 4 (by decide) _ (fun _ h => by cases h)⟩
    · have e3 : z 10 = .bool false := hz 3 _ (hw 3 (by kernel_rfl)) rfl
      refine wpOp_skip rfl (by simp [Region.wanted, yielded, e3]) ?_
      go_simp
      exact ⟨⟨by simp [hsz.out], hx.out⟩, upd z 12 (undef), (by unfold Hid; simp [upd, e3]), hz.next apx hsz.out 5 (by decide) _ (fun _ h => by cases h)⟩
    · have e3 : z 10 = .bool false := hz 3 _ (hw 3 (by kernel_rfl)) rfl
      refine wpOp_skip rfl (by simp [Region.wanted, yielded, e3]) ?_
      go_simp
      exact ⟨⟨by simp [hsz.out], hx.out⟩, upd z 13 (undef), (by unfold Hid; simp [upd, e3]), hz.next apx hsz.out 6 (by decide) _ (fun _ h => by cases h)⟩
    · have e3 : z 10 = .bool false := hz 3 _ (hw 3 (by kernel_rfl)) rfl
      refine wpOp_plain rfl rfl ?_
      go_simp
      exact ⟨⟨by simp [hsz.out], hx.out⟩, upd z 14 (.bool false), (by unfold Hid; simp [upd, e3]), hz.next apx hsz.out 7 (by decide) _ (fun _ h => Option.some.inj h)⟩
    · have e7 : z 14 = .bool false := hz 7 _ (hw 7 (by kernel_rfl)) rfl
      refine wpOp_plain rfl rfl ?_
      go_simp
      exact ⟨⟨by simp [hsz.out], hx.out⟩, upd z 15 (.bool false), (by unfold Hid; simp [upd, e7]), hz.next apx hsz.out 8 (by decide) _ (fun _ h => Option.some.inj h)⟩
    · have e8 : z 15 = .bool false := hz 8 _ (hw 8 (by kernel_rfl)) rfl
      refine wpOp_skip rfl (by simp [Region.wanted, yielded, e8]) ?_
      go_simp
      exact ⟨⟨by simp [hsz.out], hx.out⟩, upd z 16 (undef), (by unfold Hid; simp [upd, e8]), hz.next apx hsz.out 9 (by decide) _ (fun _ h => by cases h)⟩
    · have e8 : z 15 = .bool false := hz 8 _ (hw 8 (by kernel_rfl)) rfl
      refine wpOp_skip rfl (by simp [Region.wanted, yielded, e8]) ?_
      go_simp
      exact ⟨⟨by simp [hsz.out], hx.out⟩, upd z 17 (undef), (by unfold Hid; simp [upd, e8]), hz.next apx hsz.out 10 (by decide) _ (fun _ h => by cases h)⟩
    · have e8 : z 15 = .bool false := hz 8 _ (hw 8 (by kernel_rfl)) rfl
      refine wpOp_skip rfl (by simp [Region.wanted, yielded, e8]) ?_
      go_simp
      exact ⟨⟨by simp [hsz.out], hx.out⟩, upd z 18 (undef), (by unfold Hid; simp [upd, e8]), hz.next apx hsz.out 11 (by decide) _ (fun _ h => by cases h)⟩
    · have e8 : z 15 = .bool false := hz 8 _ (hw 8 (by kernel_rfl)) rfl
      refine wpOp_skip rfl (by simp [Region.wanted, yielded, e8]) ?_
      go_simp
      exact ⟨⟨by simp [hsz.out], hx.out⟩, upd z 19 (undef), (by unfold Hid; simp [upd, e8]), hz.next apx hsz.out 12 (by decide) _ (fun _ h => by cases h)⟩
    · have e8 : z 15 = .bool false := hz 8 _ (hw 8 (by kernel_rfl)) rfl
      refine wpOp_skip rfl (by simp [Region.wanted, yielded, e8]) ?_
      go_simp
      exact ⟨⟨by simp [hsz.out], hx.out⟩, upd z 20 (undef), (by unfold Hid; simp [upd, e8]), hz.next apx hsz.out 13 (by decide) _ (fun _ h => by cases h)⟩
    · have e8 : z 15 = .bool false := hz 8 _ (hw 8 (by kernel_rfl)) rfl
      refine wpOp_skip rfl (by simp [Region.wanted, yielded, e8]) ?_
      go_simp
      exact ⟨⟨by simp [hsz.out], hx.out⟩, upd z 21 (undef), (by unfold Hid; simp [upd, e8]), hz.next apx hsz.out 14 (by decide) _ (fun _ h => by cases h)⟩
    · have e8 : z 15 = .bool false := hz 8 _ (hw 8 (by kernel_rfl)) rfl
      refine wpOp_skip rfl (by simp [Region.wanted, yielded, e8]) ?_
      go_simp
      exact ⟨⟨by simp [hsz.out], hx.out⟩, upd z 22 (undef), (by unfold Hid; simp [upd, e8]), hz.next apx hsz.out 15 (by decide) _ (fun _ h => by cases h)⟩
    · have e8 : z 15 = .bool false := hz 8 _ (hw 8 (by kernel_rfl)) rfl
      refine wpOp_skip rfl (by simp [Region.wanted, yielded, e8]) ?_
      go_simp
      exact ⟨⟨by simp [hsz.out], hx.out⟩, upd z 23 (undef), (by unfold Hid; simp [upd, e8]), hz.next apx hsz.out 16 (by decide) _ (fun _ h => by cases h)⟩
    · have e8 : z 15 = .bool false := hz 8 _ (hw 8 (by kernel_rfl)) rfl
      refine wpOp_skip rfl (by simp [Region.wanted, yielded, e8]) ?_
      go_simp
      exact ⟨⟨by simp [hsz.out], hx.out⟩, upd z 24 (undef), (by unfold Hid; simp [upd, e8]), hz.next apx hsz.out 17 (by decide) _ (fun _ h => by cases h)⟩
    · have e8 : z 15 = .bool false := hz 8 _ (hw 8 (by kernel_rfl)) rfl
      refine wpOp_skip rfl (by simp [Region.wanted, yielded, e8]) ?_
      go_simp
      exact ⟨⟨by simp [hsz.out], hx.out⟩, upd z 25 (undef), (by unfold Hid; simp [upd, e8]), hz.next apx hsz.out 18 (by decide) _ (fun _ h => by cases h)⟩
    · have e8 : z 15 = .bool false := hz 8 _ (hw 8 (by kernel_rfl)) rfl
      refine wpOp_skip rfl (by simp [Region.wanted, yielded, e8]) ?_
      go_simp
      exact ⟨⟨by simp [hsz.out], hx.out⟩, upd z 26 (undef), (by unfold Hid; simp [upd, e8]), hz.next apx hsz.out 19 (by decide) _ (fun _ h => by cases h)⟩
    · have e8 : z 15 = .bool false := hz 8 _ (hw 8 (by kernel_rfl)) rfl
      refine wpOp_skip rfl (by simp [Region.wanted, yielded, e8]) ?_
      go_simp
      exact ⟨⟨by simp [hsz.out], hx.out⟩, upd z 27 (undef), (by unfold Hid; simp [upd, e8]), hz.next apx hsz.out 20 (by decide) _ (fun _ h => by cases h)⟩
    · have e8 : z 15 = .bool false := hz 8 _ (hw 8 (by kernel_rfl)) rfl
      refine wpOp_skip rfl (by simp [Region.wanted, yielded, e8]) ?_
      go_simp
      exact ⟨⟨by simp [hsz.out], hx.out⟩, upd z 28 (undef), (by unfold Hid; simp [upd, e8]), hz.next apx hsz.out 21 (by decide) _ (fun _ h => by cases h)⟩
    · have e8 : z 15 = .bool false := hz 8 _ (hw 8 (by kernel_rfl)) rfl
      refine wpOp_plain rfl rfl ?_
      go_simp
      exact ⟨⟨by simp [hsz.out], hx.out⟩, upd z 29 (.bool false), (by unfold Hid; simp [upd, e8]), hz.next apx hsz.out 22 (by decide) _ (fun _ h => Option.some.inj h)⟩
    · have e22 : z 29 = .bool false := hz 22 _ (hw 22 (by kernel_rfl)) rfl
      refine wpOp_plain rfl rfl ?_
      go_simp
      exact ⟨⟨by simp [hsz.out], hx.out⟩, upd z 6 (.bool false), (by unfold Hid; simp [upd, e22]), hz.next apx hsz.out 23 (by decide) _ (fun _ h => Option.some.inj h)⟩
  · exact ⟨⟨rfl, (Below.refl _ _).drew⟩, fun xx => (#[v, .agg a.c, .agg b.c, undef, .pointer (some ⟨q4, 0, none⟩), .pointer (some ⟨q4 + 1, 0, none⟩), .bool false, undef, undef, undef, undef, undef, undef, undef, undef, undef, undef, undef, undef, undef, undef, undef, undef, undef, undef, undef, undef, undef, undef, undef] : Array Value).getD xx undef, (by rfl), Holding.start⟩
end Go.Proofs.YtnjeppmpnaemlaaDoor.Grf
/- DERIVED. Remove, but for drop. Written by mkremove.py. -/
set_option maxRecDepth 100000
namespace Go.Proofs.YtnjeppmpnaemlaaDoor.Grf
open Go.RowKit Str Go.Maps
attribute [local go_sem ↓ high] loadAtVx loadAtHs loadAtGv
theorem hs_boxH {w : World} {b : Nat} {h : List Int} (hb : w.heap[b]? = some (.cells (hsC h) 25 (0, 0))) : w.rangeAt b 0 (hsC h).toList := row_range hb [] _ [] (by simp) 0 rfl
set_option maxHeartbeats 8000000 in
theorem remove_none (S : GS) (us : Nat → Int) (gn : Vx → Int) (x : Vx) (w : World) (h : GM w S us gn) (hq : partB S x = none) :
    Calls Tryd.prog 23 #[ptr S.g, .agg (hsC x.h), .int .i64 x.n] w fun e w' => e = .returned (.int .i64 5) ∧ Below w.heap.size w w' := by
  have HQ := Lib.hid hq
  clear hq
  have hnew := Go.heap_alloc_new w (.cells (hsC x.h) 25)
  have hlow : Below w.heap.size w (w.alloc (.cells (hsC x.h) 25)) := (Below.refl _ _).alloc (Nat.le_refl _) _
  obtain ⟨w1, hw1⟩ : ∃ w1, w1 = w.alloc (.cells (hsC x.h) 25) := ⟨_, rfl⟩
  rw [← hw1] at hnew hlow
  have h1 := h.below hlow
  have hM := made_yes S.g w1 h1.g0
  have HW := Lib.hid hw1.symm
  have K2 := Lib.hid hlow
  obtain ⟨q4, hq4⟩ : ∃ q4, q4 = w.heap.size := ⟨_, rfl⟩
  rw [← hq4] at hnew
  have Hq4 := Lib.hid hq4
  have H40 := Lib.hid hnew
  have Hg0 := Lib.hid h1
  clear hnew hlow hw1 h1 h hq4
  go_enter Tryd.func23, Tryd.ntmps23
  go_upto_region 1 with (fail)
  rw [HW.out, ← Hq4.out]
  go_upto_region 3 with (go_at_call 46; refine hM.mono ?_; rintro e w2 ⟨rfl, m, rfl⟩)
  obtain ⟨W, hW⟩ : ∃ W, W = w1.drewN m := ⟨_, rfl⟩
  rw [← hW]
  have H4 : Hid (W.heap[q4]? = some (.cells (hsC x.h) 25 (0, 0))) := by show _; rw [hW]; exact H40.out
  have Hg : Hid (GM W S us gn) := by show GM _ _ _ _; rw [hW]; exact Hg0.out.drewN m
  have HG2 : Hid (W.cell? ⟨S.g, 2, none⟩ = some (.map (some S.mp))) := row_cell Hg.out.gr [ptr S.g, ptr S.fr] [.map (some S.mv), .int .i64 S.added] _ rfl 2 rfl
  have KW : Hid (Below w.heap.size w W) := by show Below _ _ _; rw [hW]; exact K2.out.trans ⟨rfl, rfl, rfl, Nat.le_refl _, fun _ _ => rfl⟩
  clear hW H40 Hg0 hM
  have apx : apartB [11, 12, 13, 14, 15, 16, 17, 18, 7] = true := by decide
  refine wp_region_any (by kernel_rfl) ?_
  change wpAny _ _ _ _ _ _ _ (World.drew _)
  refine wpAny_inv (fun ll aa wx => Hid (ll.size = 9 ∧ Below W.heap.size W wx) ∧ ∃ (z : Nat → Value), Hid (aa = ⟨#[ptr S.g, .agg (hsC x.h), .int .i64 x.n, undef, .pointer (some ⟨q4, 0, none⟩), undef, .int .i64 0, z 7, ptr S.g, .bool true, .bool false, z 11, z 12, z 13, z 14, z 15, z 16, z 17, z 18, undef, undef, undef, undef, undef, undef, undef, undef, undef, undef, undef, undef], []⟩) ∧ Holding [11, 12, 13, 14, 15, 16, 17, 18, 7] [some (ptr S.g), some (.pointer (some ⟨S.g, 0, none⟩)), some (.pointer (some ⟨S.g, 2, none⟩)), some (.map (some S.mp)), some (.agg (hsC x.h)), some (.int .i64 x.n), some (.agg x.c), some (.pointer none), some (.pointer none)] ll z) ?_ (by kernel_rfl) ?_ ?_ _ _ _ _ (unlisted_none _) ?_
  · rintro ll aa wx ⟨hI, _⟩
    exact hI.out.1
  · rintro ll aa wx ⟨hI, z, ha, hz⟩ hall
    have hx := Lib.hid hI.out.2
    have e0 : z 11 = ptr S.g := hz 0 _ (hall 0 (by decide)) rfl
    have e1 : z 12 = .pointer (some ⟨S.g, 0, none⟩) := hz 1 _ (hall 1 (by decide)) rfl
    have e2 : z 13 = .pointer (some ⟨S.g, 2, none⟩) := hz 2 _ (hall 2 (by decide)) rfl
    have e3 : z 14 = .map (some S.mp) := hz 3 _ (hall 3 (by decide)) rfl
    have e4 : z 15 = .agg (hsC x.h) := hz 4 _ (hall 4 (by decide)) rfl
    have e5 : z 16 = .int .i64 x.n := hz 5 _ (hall 5 (by decide)) rfl
    have e6 : z 17 = .agg x.c := hz 6 _ (hall 6 (by decide)) rfl
    have e7 : z 18 = .pointer none := hz 7 _ (hall 7 (by decide)) rfl
    have e8 : z 7 = .pointer none := hz 8 _ (hall 8 (by decide)) rfl
    clear hall hz hI 
    obtain rfl := ha.out
    clear ha
    clear apx
    have E7 := Lib.hid e8
    have HX := Lib.hid hx.out
    clear e0 e1 e2 e3 e4 e5 e6 e7 e8 hx
    rw [E7.out]
    go_wp2
    go_ret
    exact ⟨rfl, KW.out.trans (HX.out.mono KW.out.size)⟩
  · rintro ll aa wx i ⟨hI, z, ha, hz⟩ hi hu hw
    obtain rfl := ha.out
    have hsz := Lib.hid hI.out.1
    have hx := Lib.hid hI.out.2
    clear ha hI
    have hin : i < 9 := hi
    obtain rfl | rfl | rfl | rfl | rfl | rfl | rfl | rfl | rfl : i = 0 ∨ i = 1 ∨ i = 2 ∨ i = 3 ∨ i = 4 ∨ i = 5 ∨ i = 6 ∨ i = 7 ∨ i = 8 := by omega
    · refine wpOp_plain rfl rfl ?_
      go_simp
      exact ⟨⟨by simp [hsz.out], hx.out⟩, upd z 11 (ptr S.g), (by unfold Hid; simp [upd]), hz.next apx hsz.out 0 (by decide) _ (fun _ h => Option.some.inj h)⟩
    · have e0 : z 11 = ptr S.g := hz 0 _ (hw 0 (by kernel_rfl)) rfl
      refine wpOp_plain rfl rfl ?_
      go_simp
      exact ⟨⟨by simp [hsz.out], hx.out⟩, upd z 12 (.pointer (some ⟨S.g, 0, none⟩)), (by unfold Hid; simp [upd, e0]), hz.next apx hsz.out 1 (by decide) _ (fun _ h => Option.some.inj h)⟩
    · have e1 : z 12 = .pointer (some ⟨S.g, 0, none⟩) := hz 1 _ (hw 1 (by kernel_rfl)) rfl
      refine wpOp_plain rfl rfl ?_
      go_simp
      exact ⟨⟨by simp [hsz.out], hx.out⟩, upd z 13 (.pointer (some ⟨S.g, 2, none⟩)), (by unfold Hid; simp [upd, e1]), hz.next apx hsz.out 2 (by decide) _ (fun _ h => Option.some.inj h)⟩
    · have e2 : z 13 = .pointer (some ⟨S.g, 2, none⟩) := hz 2 _ (hw 2 (by kernel_rfl)) rfl
      have cl : wx.cell? ⟨S.g, 2, none⟩ = some (.map (some S.mp)) := (hx.out.cell (p := ⟨S.g, 2, none⟩) (World.block_lt_of_cell? _ _ HG2.out)).trans HG2.out
      refine wpOp_plain rfl rfl ?_
      go_simp
      exact ⟨⟨by simp [hsz.out], hx.out⟩, upd z 14 (.map (some S.mp)), (by unfold Hid; simp [upd, e2]), hz.next apx hsz.out 3 (by decide) _ (fun _ h => Option.some.inj h)⟩
    · have cl := loadHs_eq x.len (hs_boxH (at_below H4.out hx.out))
      refine wpOp_plain rfl rfl ?_
      go_simp
      exact ⟨⟨by simp [hsz.out], hx.out⟩, upd z 15 (.agg (hsC x.h)), (by unfold Hid; simp [upd]), hz.next apx hsz.out 4 (by decide) _ (fun _ h => Option.some.inj h)⟩
    · refine wpOp_plain rfl rfl ?_
      go_simp
      exact ⟨⟨by simp [hsz.out], hx.out⟩, upd z 16 (.int .i64 x.n), (by unfold Hid; simp [upd]), hz.next apx hsz.out 5 (by decide) _ (fun _ h => Option.some.inj h)⟩
    · have e4 : z 15 = .agg (hsC x.h) := hz 4 _ (hw 4 (by kernel_rfl)) rfl
      have e5 : z 16 = .int .i64 x.n := hz 5 _ (hw 5 (by kernel_rfl)) rfl
      refine wpOp_plain rfl rfl (wp_buildV 95 #[(0, .tmp 15), (1, .tmp 16)] rfl x.c (by simp only [List.map_toArray, List.map_cons, List.map_nil]; show Tryd.prog.built _ [(0, z 15), (1, z 16)] = _; rw [e4, e5]; exact built_name x) ?_)
      go_simp
      exact ⟨⟨by simp [hsz.out], hx.out⟩, upd z 17 (.agg x.c), (by unfold Hid; simp [upd, e4, e5]), hz.next apx hsz.out 6 (by decide) _ (fun _ h => Option.some.inj h)⟩
    · have e3 : z 14 = .map (some S.mp) := hz 3 _ (hw 3 (by kernel_rfl)) rfl
      have e6 : z 17 = .agg x.c := hz 6 _ (hw 6 (by kernel_rfl)) rfl
      have lk := (Hg.out.below hx.out).lookP x
      rw [HQ.out] at lk
      simp only [Option.map_none, Option.getD_none] at lk
      refine wpOp_plain rfl rfl ?_
      go_simp
      exact ⟨⟨by simp [hsz.out], hx.out⟩, upd z 18 (.pointer none), (by unfold Hid; simp [upd, e3, e6]), hz.next apx hsz.out 7 (by decide) _ (fun _ h => Option.some.inj h)⟩
    · have e7 : z 18 = .pointer none := hz 7 _ (hw 7 (by kernel_rfl)) rfl
      refine wpOp_plain rfl rfl ?_
      go_simp
      exact ⟨⟨by simp [hsz.out], hx.out⟩, upd z 7 (.pointer none), (by unfold Hid; simp [upd, e7]), hz.next apx hsz.out 8 (by decide) _ (fun _ h => Option.some.inj h)⟩
  · exact ⟨⟨rfl, (Below.refl _ _).drew⟩, fun xx => (#[ptr S.g, .agg (hsC x.h), .int .i64 x.n, undef, .pointer (some ⟨q4, 0, none⟩), undef, .int .i64 0, undef, ptr S.g, .bool true, .bool false, undef, undef, undef, undef, undef, undef, undef, undef, undef, undef, undef, undef, undef, undef, undef, undef, undef, undef, undef, undef] : Array Value).getD xx undef, (by rfl), Holding.start⟩
set_option maxHeartbeats 8000000 in
theorem remove_used (S : GS) (us : Nat → Int) (gn : Vx → Int) (x : Vx) (p : PA) (w : World) (h : GM w S us gn) (hq : partB S x = some p) (hus : 0 < us p.b) :
    Calls Tryd.prog 23 #[ptr S.g, .agg (hsC x.h), .int .i64 x.n] w fun e w' => e = .returned (.int .i64 10) ∧ Below w.heap.size w w' := by
  have HQ := Lib.hid hq
  have Hus := Lib.hid hus
  clear hq hus
  have hnew := Go.heap_alloc_new w (.cells (hsC x.h) 25)
  have hlow : Below w.heap.size w (w.alloc (.cells (hsC x.h) 25)) := (Below.refl _ _).alloc (Nat.le_refl _) _
  obtain ⟨w1, hw1⟩ : ∃ w1, w1 = w.alloc (.cells (hsC x.h) 25) := ⟨_, rfl⟩
  rw [← hw1] at hnew hlow
  have h1 := h.below hlow
  have hM := made_yes S.g w1 h1.g0
  have HW := Lib.hid hw1.symm
  have K2 := Lib.hid hlow
  obtain ⟨q4, hq4⟩ : ∃ q4, q4 = w.heap.size := ⟨_, rfl⟩
  rw [← hq4] at hnew
  have Hq4 := Lib.hid hq4
  have H40 := Lib.hid hnew
  have Hg0 := Lib.hid h1
  clear hnew hlow hw1 h1 h hq4
  go_enter Tryd.func23, Tryd.ntmps23
  go_upto_region 1 with (fail)
  rw [HW.out, ← Hq4.out]
  go_upto_region 3 with (go_at_call 46; refine hM.mono ?_; rintro e w2 ⟨rfl, m, rfl⟩)
  obtain ⟨W, hW⟩ : ∃ W, W = w1.drewN m := ⟨_, rfl⟩
  rw [← hW]
  have H4 : Hid (W.heap[q4]? = some (.cells (hsC x.h) 25 (0, 0))) := by show _; rw [hW]; exact H40.out
  have Hg : Hid (GM W S us gn) := by show GM _ _ _ _; rw [hW]; exact Hg0.out.drewN m
  have HG2 : Hid (W.cell? ⟨S.g, 2, none⟩ = some (.map (some S.mp))) := row_cell Hg.out.gr [ptr S.g, ptr S.fr] [.map (some S.mv), .int .i64 S.added] _ rfl 2 rfl
  have KW : Hid (Below w.heap.size w W) := by show Below _ _ _; rw [hW]; exact K2.out.trans ⟨rfl, rfl, rfl, Nat.le_refl _, fun _ _ => rfl⟩
  clear hW H40 Hg0 hM
  have apx : apartB [11, 12, 13, 14, 15, 16, 17, 18, 7] = true := by decide
  refine wp_region_any (by kernel_rfl) ?_
  change wpAny _ _ _ _ _ _ _ (World.drew _)
  refine wpAny_inv (fun ll aa wx => Hid (ll.size = 9 ∧ Below W.heap.size W wx) ∧ ∃ (z : Nat → Value), Hid (aa = ⟨#[ptr S.g, .agg (hsC x.h), .int .i64 x.n, undef, .pointer (some ⟨q4, 0, none⟩), undef, .int .i64 0, z 7, ptr S.g, .bool true, .bool false, z 11, z 12, z 13, z 14, z 15, z 16, z 17, z 18, undef, undef, undef, undef, undef, undef, undef, undef, undef, undef, undef, undef], []⟩) ∧ Holding [11, 12, 13, 14, 15, 16, 17, 18, 7] [some (ptr S.g), some (.pointer (some ⟨S.g, 0, none⟩)), some (.pointer (some ⟨S.g, 2, none⟩)), some (.map (some S.mp)), some (.agg (hsC x.h)), some (.int .i64 x.n), some (.agg x.c), some (ptr p.b), some (ptr p.b)] ll z) ?_ (by kernel_rfl) ?_ ?_ _ _ _ _ (unlisted_none _) ?_
  · rintro ll aa wx ⟨hI, _⟩
    exact hI.out.1
  · rintro ll aa wx ⟨hI, z, ha, hz⟩ hall
    have hx := Lib.hid hI.out.2
    have e0 : z 11 = ptr S.g := hz 0 _ (hall 0 (by decide)) rfl
    have e1 : z 12 = .pointer (some ⟨S.g, 0, none⟩) := hz 1 _ (hall 1 (by decide)) rfl
    have e2 : z 13 = .pointer (some ⟨S.g, 2, none⟩) := hz 2 _ (hall 2 (by decide)) rfl
    have e3 : z 14 = .map (some S.mp) := hz 3 _ (hall 3 (by decide)) rfl
    have e4 : z 15 = .agg (hsC x.h) := hz 4 _ (hall 4 (by decide)) rfl
    have e5 : z 16 = .int .i64 x.n := hz 5 _ (hall 5 (by decide)) rfl
    have e6 : z 17 = .agg x.c := hz 6 _ (hall 6 (by decide)) rfl
    have e7 : z 18 = ptr p.b := hz 7 _ (hall 7 (by decide)) rfl
    have e8 : z 7 = ptr p.b := hz 8 _ (hall 8 (by decide)) rfl
    clear hall hz hI 
    obtain rfl := ha.out
    clear ha
    clear apx
    have E7 := Lib.hid e8
    have HX := Lib.hid hx.out
    clear e0 e1 e2 e3 e4 e5 e6 e7 e8 hx
    rw [E7.out]
    have hP := (Hg.out.prt p (List.mem_of_find?_eq_some HQ.out)).us
    have hc := (HX.out.cell (World.block_lt_of_cell? _ _ hP)).trans hP
    clear hP
    obtain ⟨z, hz⟩ : ∃ z, z = us p.b := ⟨_, rfl⟩
    rw [← hz] at hc
    have hz0 : 0 < z := by rw [hz]; exact Hus.out
    clear hz
    go_wp2
    go_ret
    exact ⟨rfl, KW.out.trans (HX.out.mono KW.out.size)⟩
  · rintro ll aa wx i ⟨hI, z, ha, hz⟩ hi hu hw
    obtain rfl := ha.out
    have hsz := Lib.hid hI.out.1
    have hx := Lib.hid hI.out.2
    clear ha hI
    have hin : i < 9 := hi
    obtain rfl | rfl | rfl | rfl | rfl | rfl | rfl | rfl | rfl : i = 0 ∨ i = 1 ∨ i = 2 ∨ i = 3 ∨ i = 4 ∨ i = 5 ∨ i = 6 ∨ i = 7 ∨ i = 8 := by omega
    · refine wpOp_plain rfl rfl ?_
      go_simp
      exact ⟨⟨by simp [hsz.out], hx.out⟩, upd z 11 (ptr S.g), (by unfold Hid; simp [upd]), hz.next apx hsz.out 0 (by decide) _ (fun _ h => Option.some.inj h)⟩
    · have e0 : z 11 = ptr S.g := hz 0 _ (hw 0 (by kernel_rfl)) rfl
      refine wpOp_plain rfl rfl ?_
      go_simp
      exact ⟨⟨by simp [hsz.out], hx.out⟩, upd z 12 (.pointer (some ⟨S.g, 0, none⟩)), (by unfold Hid; simp [upd, e0]), hz.next apx hsz.out 1 (by decide) _ (fun _ h => Option.some.inj h)⟩
    · have e1 : z 12 = .pointer (some ⟨S.g, 0, none⟩) := hz 1 _ (hw 1 (by kernel_rfl)) rfl
      refine wpOp_plain rfl rfl ?_
      go_simp
      exact ⟨⟨by simp [hsz.out], hx.out⟩, upd z 13 (.pointer (some ⟨S.g, 2, none⟩)), (by unfold Hid; simp [upd, e1]), hz.next apx hsz.out 2 (by decide) _ (fun _ h => Option.some.inj h)⟩
    · have e2 : z 13 = .pointer (some ⟨S.g, 2, none⟩) := hz 2 _ (hw 2 (by kernel_rfl)) rfl
      have cl : wx.cell? ⟨S.g, 2, none⟩ = some (.map (some S.mp)) := (hx.out.cell (p := ⟨S.g, 2, none⟩) (World.block_lt_of_cell? _ _ HG2.out)).trans HG2.out
      refine wpOp_plain rfl rfl ?_
      go_simp
      exact ⟨⟨by simp [hsz.out], hx.out⟩, upd z 14 (.map (some S.mp)), (by unfold Hid; simp [upd, e2]), hz.next apx hsz.out 3 (by decide) _ (fun _ h => Option.some.inj h)⟩
    · have cl := loadHs_eq x.len (hs_boxH (at_below H4.out hx.out))
      refine wpOp_plain rfl rfl ?_
      go_simp
      exact ⟨⟨by simp [hsz.out], hx.out⟩, upd z 15 (.agg (hsC x.h)), (by unfold Hid; simp [upd]), hz.next apx hsz.out 4 (by decide) _ (fun _ h => Option.some.inj h)⟩
    · refine wpOp_plain rfl rfl ?_
      go_simp
      exact ⟨⟨by simp [hsz.out], hx.out⟩, upd z 16 (.int .i64 x.n), (by unfold Hid; simp [upd]), hz.next apx hsz.out 5 (by decide) _ (fun _ h => Option.some.inj h)⟩
    · have e4 : z 15 = .agg (hsC x.h) := hz 4 _ (hw 4 (by kernel_rfl)) rfl
      have e5 : z 16 = .int .i64 x.n := hz 5 _ (hw 5 (by kernel_rfl)) rfl
      refine wpOp_plain rfl rfl (wp_buildV 95 #[(0, .tmp 15), (1, .tmp 16)] rfl x.c (by simp only [List.map_toArray, List.map_cons, List.map_nil]; show Tryd.prog.built _ [(0, z 15), (1, z 16)] = _; rw [e4, e5]; exact built_name x) ?_)
      go_simp
      exact ⟨⟨by simp [hsz.out], hx.out⟩, upd z 17 (.agg x.c), (by unfold Hid; simp [upd, e4, e5]), hz.next apx hsz.out 6 (by decide) _ (fun _ h => Option.some.inj h)⟩
    · have e3 : z 14 = .map (some S.mp) := hz 3 _ (hw 3 (by kernel_rfl)) rfl
      have e6 : z 17 = .agg x.c := hz 6 _ (hw 6 (by kernel_rfl)) rfl
      have lk := (Hg.out.below hx.out).lookP x
      rw [HQ.out] at lk
      simp only [Option.map_some, Option.getD_some] at lk
      refine wpOp_plain rfl rfl ?_
      go_simp
      exact ⟨⟨by simp [hsz.out], hx.out⟩, upd z 18 (ptr p.b), (by unfold Hid; simp [upd, e3, e6]), hz.next apx hsz.out 7 (by decide) _ (fun _ h => Option.some.inj h)⟩
    · have e7 : z 18 = ptr p.b := hz 7 _ (hw 7 (by kernel_rfl)) rfl
      refine wpOp_plain rfl rfl ?_
      go_simp
      exact ⟨⟨by simp [hsz.out], hx.out⟩, upd z 7 (ptr p.b), (by unfold Hid; simp [upd, e7]), hz.next apx hsz.out 8 (by decide) _ (fun _ h => Option.some.inj h)⟩
  · exact ⟨⟨rfl, (Below.refl _ _).drew⟩, fun xx => (#[ptr S.g, .agg (hsC x.h), .int .i64 x.n, undef, .pointer (some ⟨q4, 0, none⟩), undef, .int .i64 0, undef, ptr S.g, .bool true, .bool false, undef, undef, undef, undef, undef, undef, undef, undef, undef, undef, undef, undef, undef, undef, undef, undef, undef, undef, undef, undef] : Array Value).getD xx undef, (by rfl), Holding.start⟩
set_option maxHeartbeats 8000000 in
theorem remove_drop (S : GS) (us : Nat → Int) (gn : Vx → Int) (x : Vx) (p : PA) (w : World) (h : GM w S us gn) (hq : partB S x = some p) (hus : us p.b = 0) (Q : World → Prop)
    (hd : ∀ u, Below w.heap.size w u → Calls Tryd.prog 47 #[ptr S.g, ptr p.b] u fun e w' => e = .returned (.tuple #[]) ∧ Q w') :
    Calls Tryd.prog 23 #[ptr S.g, .agg (hsC x.h), .int .i64 x.n] w fun e w' => e = .returned (.int .i64 0) ∧ Q w' := by
  have HQ := Lib.hid hq
  have Hus := Lib.hid hus
  have HD := Lib.hid hd
  clear hq hus hd
  have hnew := Go.heap_alloc_new w (.cells (hsC x.h) 25)
  have hlow : Below w.heap.size w (w.alloc (.cells (hsC x.h) 25)) := (Below.refl _ _).alloc (Nat.le_refl _) _
  obtain ⟨w1, hw1⟩ : ∃ w1, w1 = w.alloc (.cells (hsC x.h) 25) := ⟨_, rfl⟩
  rw [← hw1] at hnew hlow
  have h1 := h.below hlow
  have hM := made_yes S.g w1 h1.g0
  have HW := Lib.hid hw1.symm
  have K2 := Lib.hid hlow
  obtain ⟨q4, hq4⟩ : ∃ q4, q4 = w.heap.size := ⟨_, rfl⟩
  rw [← hq4] at hnew
  have Hq4 := Lib.hid hq4
  have H40 := Lib.hid hnew
  have Hg0 := Lib.hid h1
  clear hnew hlow hw1 h1 h hq4
  go_enter Tryd.func23, Tryd.ntmps23
  go_upto_region 1 with (fail)
  rw [HW.out, ← Hq4.out]
  go_upto_region 3 with (go_at_call 46; refine hM.mono ?_; rintro e w2 ⟨rfl, m, rfl⟩)
  obtain ⟨W, hW⟩ : ∃ W, W = w1.drewN m := ⟨_, rfl⟩
  rw [← hW]
  have H4 : Hid (W.heap[q4]? = some (.cells (hsC x.h) 25 (0, 0))) := by show _; rw [hW]; exact H40.out
  have Hg : Hid (GM W S us gn) := by show GM _ _ _ _; rw [hW]; exact Hg0.out.drewN m
  have HG2 : Hid (W.cell? ⟨S.g, 2, none⟩ = some (.map (some S.mp))) := row_cell Hg.out.gr [ptr S.g, ptr S.fr] [.map (some S.mv), .int .i64 S.added] _ rfl 2 rfl
  have KW : Hid (Below w.heap.size w W) := by show Below _ _ _; rw [hW]; exact K2.out.trans ⟨rfl, rfl, rfl, Nat.le_refl _, fun _ _ => rfl⟩
  clear hW H40 Hg0 hM
  have apx : apartB [11, 12, 13, 14, 15, 16, 17, 18, 7] = true := by decide
  refine wp_region_any (by kernel_rfl) ?_
  change wpAny _ _ _ _ _ _ _ (World.drew _)
  refine wpAny_inv (fun ll aa wx => Hid (ll.size = 9 ∧ Below W.heap.size W wx) ∧ ∃ (z : Nat → Value), Hid (aa = ⟨#[ptr S.g, .agg (hsC x.h), .int .i64 x.n, undef, .pointer (some ⟨q4, 0, none⟩), undef, .int .i64 0, z 7, ptr S.g, .bool true, .bool false, z 11, z 12, z 13, z 14, z 15, z 16, z 17, z 18, undef, undef, undef, undef, undef, undef, undef, undef, undef, undef, undef, undef], []⟩) ∧ Holding [11, 12, 13, 14, 15, 16, 17, 18, 7] [some (ptr S.g), some (.pointer (some ⟨S.g, 0, none⟩)), some (.pointer (some ⟨S.g, 2, none⟩)), some (.map (some S.mp)), some (.agg (hsC x.h)), some (.int .i64 x.n), some (.agg x.c), some (ptr p.b), some (ptr p.b)] ll z) ?_ (by kernel_rfl) ?_ ?_ _ _ _ _ (unlisted_none _) ?_
  · rintro ll aa wx ⟨hI, _⟩
    exact hI.out.1
  · rintro ll aa wx ⟨hI, z, ha, hz⟩ hall
    have hx := Lib.hid hI.out.2
    have e0 : z 11 = ptr S.g := hz 0 _ (hall 0 (by decide)) rfl
    have e1 : z 12 = .pointer (some ⟨S.g, 0, none⟩) := hz 1 _ (hall 1 (by decide)) rfl
    have e2 : z 13 = .pointer (some ⟨S.g, 2, none⟩) := hz 2 _ (hall 2 (by decide)) rfl
    have e3 : z 14 = .map (some S.mp) := hz 3 _ (hall 3 (by decide)) rfl
    have e4 : z 15 = .agg (hsC x.h) := hz 4 _ (hall 4 (by decide)) rfl
    have e5 : z 16 = .int .i64 x.n := hz 5 _ (hall 5 (by decide)) rfl
    have e6 : z 17 = .agg x.c := hz 6 _ (hall 6 (by decide)) rfl
    have e7 : z 18 = ptr p.b := hz 7 _ (hall 7 (by decide)) rfl
    have e8 : z 7 = ptr p.b := hz 8 _ (hall 8 (by decide)) rfl
    clear hall hz hI 
    obtain rfl := ha.out
    clear ha
    clear apx
    have E7 := Lib.hid e8
    have HX := Lib.hid hx.out
    clear e0 e1 e2 e3 e4 e5 e6 e7 e8 hx
    rw [E7.out]
    have hP := (Hg.out.prt p (List.mem_of_find?_eq_some HQ.out)).us
    have hc := (HX.out.cell (World.block_lt_of_cell? _ _ hP)).trans hP
    clear hP
    rw [Hus.out] at hc
    have hDr := HD.out _ (KW.out.trans (HX.out.mono KW.out.size))
    go_wp2_with (go_at_call 47; refine hDr.mono ?_; rintro e w9 ⟨rfl, hq⟩)
    go_ret
    exact ⟨rfl, hq⟩
  · rintro ll aa wx i ⟨hI, z, ha, hz⟩ hi hu hw
    obtain rfl := ha.out
    have hsz := Lib.hid hI.out.1
    have hx := Lib.hid hI.out.2
    clear ha hI
    have hin : i < 9 := hi
    obtain rfl | rfl | rfl | rfl | rfl | rfl | rfl | rfl | rfl : i = 0 ∨ i = 1 ∨ i = 2 ∨ i = 3 ∨ i = 4 ∨ i = 5 ∨ i = 6 ∨ i = 7 ∨ i = 8 := by omega
    · refine wpOp_plain rfl rfl ?_
      go_simp
      exact ⟨⟨by simp [hsz.out], hx.out⟩, upd z 11 (ptr S.g), (by unfold Hid; simp [upd]), hz.next apx hsz.out 0 (by decide) _ (fun _ h => Option.some.inj h)⟩
    · have e0 : z 11 = ptr S.g := hz 0 _ (hw 0 (by kernel_rfl)) rfl
      refine wpOp_plain rfl rfl ?_
      go_simp
      exact ⟨⟨by simp [hsz.out], hx.out⟩, upd z 12 (.pointer (some ⟨S.g, 0, none⟩)), (by unfold Hid; simp [upd, e0]), hz.next apx hsz.out 1 (by decide) _ (fun _ h => Option.some.inj h)⟩
    · have e1 : z 12 = .pointer (some ⟨S.g, 0, none⟩) := hz 1 _ (hw 1 (by kernel_rfl)) rfl
      refine wpOp_plain rfl rfl ?_
      go_simp
      exact ⟨⟨by simp [hsz.out], hx.out⟩, upd z 13 (.pointer (some ⟨S.g, 2, none⟩)), (by unfold Hid; simp [upd, e1]), hz.next apx hsz.out 2 (by decide) _ (fun _ h => Option.some.inj h)⟩
    · have e2 : z 13 = .pointer (some ⟨S.g, 2, none⟩) := hz 2 _ (hw 2 (by kernel_rfl)) rfl
      have cl : wx.cell? ⟨S.g, 2, none⟩ = some (.map (some S.mp)) := (hx.out.cell (p := ⟨S.g, 2, none⟩) (World.block_lt_of_cell? _ _ HG2.out)).trans HG2.out
      refine wpOp_plain rfl rfl ?_
      go_simp
      exact ⟨⟨by simp [hsz.out], hx.out⟩, upd z 14 (.map (some S.mp)), (by unfold Hid; simp [upd, e2]), hz.next apx hsz.out 3 (by decide) _ (fun _ h => Option.some.inj h)⟩
    · have cl := loadHs_eq x.len (hs_boxH (at_below H4.out hx.out))
      refine wpOp_plain rfl rfl ?_
      go_simp
      exact ⟨⟨by simp [hsz.out], hx.out⟩, upd z 15 (.agg (hsC x.h)), (by unfold Hid; simp [upd]), hz.next apx hsz.out 4 (by decide) _ (fun _ h => Option.some.inj h)⟩
    · refine wpOp_plain rfl rfl ?_
      go_simp
      exact ⟨⟨by simp [hsz.out], hx.out⟩, upd z 16 (.int .i64 x.n), (by unfold Hid; simp [upd]), hz.next apx hsz.out 5 (by decide) _ (fun _ h => Option.some.inj h)⟩
    · have e4 : z 15 = .agg (hsC x.h) := hz 4 _ (hw 4 (by kernel_rfl)) rfl
      have e5 : z 16 = .int .i64 x.n := hz 5 _ (hw 5 (by kernel_rfl)) rfl
      refine wpOp_plain rfl rfl (wp_buildV 95 #[(0, .tmp 15), (1, .tmp 16)] rfl x.c (by simp only [List.map_toArray, List.map_cons, List.map_nil]; show Tryd.prog.built _ [(0, z 15), (1, z 16)] = _; rw [e4, e5]; exact built_name x) ?_)
      go_simp
      exact ⟨⟨by simp [hsz.out], hx.out⟩, upd z 17 (.agg x.c), (by unfold Hid; simp [upd, e4, e5]), hz.next apx hsz.out 6 (by decide) _ (fun _ h => Option.some.inj h)⟩
    · have e3 : z 14 = .map (some S.mp) := hz 3 _ (hw 3 (by kernel_rfl)) rfl
      have e6 : z 17 = .agg x.c := hz 6 _ (hw 6 (by kernel_rfl)) rfl
      have lk := (Hg.out.below hx.out).lookP x
      rw [HQ.out] at lk
      simp only [Option.map_some, Option.getD_some] at lk
      refine wpOp_plain rfl rfl ?_
      go_simp
      exact ⟨⟨by simp [hsz.out], hx.out⟩, upd z 18 (ptr p.b), (by unfold Hid; simp [upd, e3, e6]), hz.next apx hsz.out 7 (by decide) _ (fun _ h => Option.some.inj h)⟩
    · have e7 : z 18 = ptr p.b := hz 7 _ (hw 7 (by kernel_rfl)) rfl
      refine wpOp_plain rfl rfl ?_
      go_simp
      exact ⟨⟨by simp [hsz.out], hx.out⟩, upd z 7 (ptr p.b), (by unfold Hid; simp [upd, e7]), hz.next apx hsz.out 8 (by decide) _ (fun _ h => Option.some.inj h)⟩
  · exact ⟨⟨rfl, (Below.refl _ _).drew⟩, fun xx => (#[ptr S.g, .agg (hsC x.h), .int .i64 x.n, undef, .pointer (some ⟨q4, 0, none⟩), undef, .int .i64 0, undef, ptr S.g, .bool true, .bool false, undef, undef, undef, undef, undef, undef, undef, undef, undef, undef, undef, undef, undef, undef, undef, undef, undef, undef, undef, undef] : Array Value).getD xx undef, (by rfl), Holding.start⟩
end Go.Proofs.YtnjeppmpnaemlaaDoor.Grf
/- DERIVED. PLAIN MATHEMATICS: a part that no other one names goes. -/
set_option maxRecDepth 100000
namespace Go.Proofs.YtnjeppmpnaemlaaDoor.Grf
open Go.RowKit Str Go.Maps
theorem verts_app : ∀ (l1 l2 : List PD) (v : Vx), v ∈ verts (l1 ++ l2) ↔ (∃ q ∈ l1, v ∈ own q) ∨ v ∈ verts l2
  | [], l2, v => by simp
  | q :: t, l2, v => by
    show v ∈ own q ++ verts (t ++ l2) ↔ _
    rw [List.mem_append, verts_app t l2 v]
    constructor
    · rintro (h | ⟨r, hr, hv⟩ | h)
      · exact .inl ⟨q, List.mem_cons_self, h⟩
      · exact .inl ⟨r, List.mem_cons_of_mem _ hr, hv⟩
      · exact .inr h
    · rintro (⟨r, hr, hv⟩ | h)
      · rcases List.mem_cons.1 hr with rfl | hr
        · exact .inl hv
        · exact .inr (.inl ⟨r, hr, hv⟩)
      · exact .inr (.inr h)
theorem verts_drop (l1 l2 : List PD) (p : PD) (v : Vx) : v ∈ verts (l1 ++ p :: l2) ↔ v ∈ own p ∨ v ∈ verts (l1 ++ l2) := by
  rw [verts_app, verts_app]
  show _ ∨ v ∈ own p ++ verts l2 ↔ _
  rw [List.mem_append]
  constructor
  · rintro (h | h | h)
    · exact .inr (.inl h)
    · exact .inl h
    · exact .inr (.inr h)
  · rintro (h | h | h)
    · exact .inr (.inl h)
    · exact .inl h
    · exact .inr (.inr h)
/-- does no part of these name one of p's lines? -/
def Free (p : PD) (l : List PD) : Prop := ∀ q ∈ l, q.up ∉ own p ∧ q.down ∉ own p ∧ ∀ v ∈ q.gone, v ∉ own p
theorem le_drop (p : PD) (l2 : List PD) : ∀ (l1 : List PD), Free p l1 → ∀ a b : Vx, a ∉ own p → b ∉ own p → (le (l1 ++ p :: l2) a b ↔ le (l1 ++ l2) a b)
  | [], _, a, b, ha, hb => by
    show le (p :: l2) a b ↔ _
    rw [le, if_neg ha, if_neg hb]
    exact Iff.rfl
  | q :: t, hf, a, b, ha, hb => by
    have hq := hf q List.mem_cons_self
    have ht : Free p t := fun r hr => hf r (List.mem_cons_of_mem _ hr)
    show le (q :: (t ++ p :: l2)) a b ↔ le (q :: (t ++ l2)) a b
    rw [le, le]
    by_cases h1 : a ∈ own q
    · rw [if_pos h1, if_pos h1]
      by_cases h2 : b ∈ own q
      · rw [if_pos h2, if_pos h2]
      · rw [if_neg h2, if_neg h2]
        exact le_drop p l2 t ht _ _ hq.2.1 hb
    · rw [if_neg h1, if_neg h1]
      by_cases h2 : b ∈ own q
      · rw [if_pos h2, if_pos h2]
        exact le_drop p l2 t ht _ _ ha hq.1
      · rw [if_neg h2, if_neg h2]
        exact le_drop p l2 t ht _ _ ha hb
theorem adm_drop (p : PD) (l2 : List PD) : ∀ (l1 : List PD), Free p l1 → Adm (l1 ++ p :: l2) → Adm (l1 ++ l2)
  | [], _, h => by
    cases h with
    | cons h f l ne => exact h
  | q :: t, hf, h => by
    have hq := hf q List.mem_cons_self
    have ht : Free p t := fun r hr => hf r (List.mem_cons_of_mem _ hr)
    have h' : Adm (q :: (t ++ p :: l2)) := h
    cases h' with
    | cons h f l ne =>
      have inn : ∀ {v : Vx}, v ∈ verts (t ++ p :: l2) → v ∉ own p → v ∈ verts (t ++ l2) := fun {v} hv hn => ((verts_drop t l2 p v).1 hv).resolve_left hn
      refine .cons (adm_drop p l2 t ht h) ⟨fun r hr => f.name r ?_, fun v hv hin => f.apart v hv ((verts_drop t l2 p v).2 (.inr hin)), f.nodup, inn f.upIn hq.1, inn f.downIn hq.2.1, fun v hv => ⟨inn (f.goneIn v hv).1 (hq.2.2 v hv), (f.goneIn v hv).2⟩, f.goneNd, f.first0, f.upNe, f.downNe⟩ ((le_drop p l2 t ht _ _ hq.1 hq.2.1).1 l) ne
      rcases List.mem_append.1 hr with hr | hr
      · exact List.mem_append.2 (.inl hr)
      · exact List.mem_append.2 (.inr (List.mem_cons_of_mem _ hr))
end Go.Proofs.YtnjeppmpnaemlaaDoor.Grf
