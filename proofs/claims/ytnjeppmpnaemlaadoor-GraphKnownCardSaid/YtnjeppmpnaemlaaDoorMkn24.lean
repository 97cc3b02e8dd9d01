/- DERIVED. Texts of ours, merged: XGrfKnown. -/
import Derived.Test.YtnjeppmpnaemlaaDoorMkn23
/- DERIVED. The law's GraphKnown. -/
set_option maxRecDepth 100000
namespace Go.Proofs.YtnjeppmpnaemlaaDoor.Grf
open Go.RowKit Str Go.Maps
attribute [local go_sem ↓ high] loadAtVx loadAtHs loadAtGv onePt_of twoPt_of threePt_of bHash_of
set_option maxHeartbeats 8000000 in
theorem known_any (w : World) (hL : Laid w) : Calls Tryd.prog 3 #[] w fun e w' => e = .returned (.bool true) ∧ Below w.heap.size w w' := by
  have HL := Lib.hid hL
  have e1 := run_onePt
  have e2 := run_twoPt
  have e3 := run_threePt
  have hA := lfirst_any w
  clear hL
  go_enter Tryd.func3, Tryd.ntmps3
  go_upto_region 2 with (first | (go_at_call 12; refine hA.mono ?_; rintro e w1 ⟨l1, g1, rfl, ok1, low1⟩; have hB := lsecond_any w1) | (go_at_call 13; refine hB.mono ?_; rintro e w2 ⟨l2, g2, rfl, ok2, low2⟩; have hC := lthird_any w2) | (go_at_call 14; refine hC.mono ?_; rintro e w3 ⟨l3, g3, rfl, ok3, low3⟩; have low23 := low2.trans (low3.mono low2.size); have low03 := low1.trans (low23.mono low1.size); have hD := made3_any dFirst l1 g1 dSecond l2 g2 dThird l3 g3 _ md_123 w3 (HL.out.below low03 (Nat.le_refl _)) (ok1.below low23) (ok2.below low3) ok3) | (go_at_call 11; refine hD.mono ?_; rintro e w4 ⟨S1, rfl, hps1, hgx1, low4, hblk1⟩; have low04 := low03.trans (low4.mono low03.size)))
  have Hs3 := Lib.hid low03.size
  clear hA hB hC hD ok1 ok2 ok3 low1 low2 low3 low23 low03 low4 e3
  have hA := lsecond_any w4
  go_upto_region 3 with (first | (go_at_call 13; refine hA.mono ?_; rintro e w5 ⟨l5, g5, rfl, ok5, low5⟩; obtain ⟨A5, c5, hl5, -⟩ := ok5.ln; obtain ⟨B5, d5, hg5, -⟩ := ok5.gn; simp only at hl5 hg5; subst hl5; subst hg5) | (refine wpList_store_row rfl 31 (.tmp 2) (.tmp 11) rfl w5.heap.size (givC dSecond _ _) rfl rfl 31 _ (Go.heap_alloc_new w5 _) (infoGiv _ _ _) (by rw [zero_given, givC_size]) (givC_one _ _ _ rfl rfl) ?_; rw [World.setRow_alloc_new]))
  have hR6 := Go.heap_alloc_new w5 (.cells (givC dSecond (.slice A5 dSecond.lines.length c5) (.slice B5 dSecond.gone.length d5)) 31)
  have low6 : Below w5.heap.size w5 (w5.alloc (.cells (givC dSecond (.slice A5 dSecond.lines.length c5) (.slice B5 dSecond.gone.length d5)) 31)) := (Below.refl _ _).alloc (Nat.le_refl _) _
  obtain ⟨w6, hw6⟩ : ∃ w6, w6 = w5.alloc (.cells (givC dSecond (.slice A5 dSecond.lines.length c5) (.slice B5 dSecond.gone.length d5)) 31) := ⟨_, rfl⟩
  rw [← hw6] at hR6 low6 ⊢
  obtain ⟨bx, hbx⟩ : ∃ bx, bx = w5.heap.size := ⟨_, rfl⟩
  rw [← hbx] at hR6 ⊢
  obtain ⟨lv, hlv⟩ : ∃ lv, lv = Value.slice A5 dSecond.lines.length c5 := ⟨_, rfl⟩
  obtain ⟨gv, hgv⟩ : ∃ gv, gv = Value.slice B5 dSecond.gone.length d5 := ⟨_, rfl⟩
  rw [← hlv, ← hgv] at hR6 ok5
  have hR : GRow w6 bx dSecond lv gv := hR6
  have low46 := low5.trans (low6.mono low5.size)
  have HB4 : Hid (w4.heap.size ≤ bx) := by show _ ≤ _; rw [hbx]; exact low5.size
  have HOk5 := Lib.hid ok5
  have Hbx := Lib.hid hbx
  have H56 := Lib.hid low6
  have HLv : Hid (∃ A n c, lv = Value.slice A n c) := ⟨_, _, _, hlv⟩
  have HGv : Hid (∃ A n c, gv = Value.slice A n c) := ⟨_, _, _, hgv⟩
  clear hw6 hR6 low6 hA low5 ok5 hbx hlv hgv
  have h11 : ∀ w, Calls Tryd.prog 15 #[.int .u8 1, .int .i64 1] w fun e w' => e = .returned (.agg v11.c) ∧ Below w.heap.size w w' := lat_any 1 1 (by omega) (by omega)
  have h10 : ∀ w, Calls Tryd.prog 15 #[.int .u8 1, .int .i64 0] w fun e w' => e = .returned (.agg v10.c) ∧ Below w.heap.size w w' := lat_any 1 0 (by omega) (by omega)
  obtain ⟨x11, hx11⟩ : ∃ x, x = v11 := ⟨_, rfl⟩
  obtain ⟨x10, hx10⟩ : ∃ x, x = v10 := ⟨_, rfl⟩
  rw [← hx11] at h11
  rw [← hx10] at h10
  have H11 := Lib.hid h11
  have H10 := Lib.hid h10
  have HX11 := Lib.hid hx11
  have HX10 := Lib.hid hx10
  have HRR := Lib.hid hR
  clear h11 h10 hx11 hx10 hR
  go_upto_region 4 with (first | (go_at_call 15; refine (H11.out _).mono ?_; rintro e w7 ⟨rfl, low7⟩) | (go_at_call 15; refine (H10.out _).mono ?_; rintro e w8 ⟨rfl, low8⟩; have low68 := low7.trans (low8.mono low7.size); have HR8 := Lib.hid (at_below HRR.out low68); have HU8 := Lib.hid (row_up HR8.out x11); have HV8 := Lib.hid (row_down HU8.out x10)) | (refine wpList_store_mid rfl 27 (.tmp 14) (.tmp 12) rfl bx 34 x11.c rfl rfl (there_row HR8.out 34 (by rw [Vx.c_size, givC_size]; omega)) (infoVxA _) (Vx.one _) ?_) | (refine wpList_store_mid rfl 27 (.tmp 15) (.tmp 13) rfl bx 67 x10.c rfl rfl (there_row HU8.out 67 (by rw [Vx.c_size, givC_size]; omega)) (infoVxA _) (Vx.one _) ?_))
  obtain ⟨w9, hw9⟩ : ∃ w9, w9 = (w8.setCells bx 34 x11.c.toList).setCells bx 67 x10.c.toList := ⟨_, rfl⟩
  have hV9 : GRow w9 bx { { dSecond with up := x11 } with down := x10 } lv gv := by rw [hw9]; exact HV8.out
  have hc9 : Chg [bx] w8 w9 := by rw [hw9]; exact ((Chg.refl [bx] w8).setCells (by simp) _ _).setCells (by simp) _ _
  rw [← hw9]
  have low58 := H56.out.trans (low68.mono H56.out.size)
  have low59 : Below w5.heap.size w5 w9 := hc9.below low58 low58.size (fun k hk => by rw [List.mem_singleton.1 hk, Hbx.out]; exact Nat.le_refl _)
  have low49 : Below w4.heap.size w4 w9 := hc9.below (low46.trans (low68.mono low46.size)) (Nat.le_trans low46.size low68.size) (fun k hk => by rw [List.mem_singleton.1 hk]; exact HB4.out)
  have low09 := low04.trans (low49.mono low04.size)
  have hT : GvOk w9 ({ { dSecond with up := x11 } with down := x10 }, lv, gv) := by
    have := HOk5.out.below low59
    exact ⟨⟨this.db.lines, this.db.gone, this.db.big⟩, this.first, this.ln, this.gn, this.hz⟩
  obtain ⟨dT, hdT⟩ : ∃ dT : PD, dT = { { dSecond with up := x11 } with down := x10 } := ⟨_, rfl⟩
  rw [← hdT] at hV9 hT
  rw [HX11.out, HX10.out] at hdT
  have HV9 := Lib.hid hV9
  have HT := Lib.hid hT
  have HdT := Lib.hid hdT
  have Hgx1 := Lib.hid (hgx1.below low49)
  have Hblk1 := Lib.hid hblk1
  have Hps1 := Lib.hid hps1
  have L09 := Lib.hid low09
  clear hw9 hV9 hc9 low58 low59 low49 low09 hT hdT HV8 HU8 HR8 HRR H56 Hbx HOk5 HX11 HX10 H11 H10 low46 low68 low7 low8 hgx1 hblk1 hps1 low04 HB4
  have hA := lfirst_any w9
  go_upto_region 5 with (first | (go_at_call 12; refine hA.mono ?_; rintro e w10 ⟨l10, g10, rfl, ok10, low10⟩; have hB := lsecond_any w10) | (go_at_call 13; refine hB.mono ?_; rintro e w11 ⟨l11, g11, rfl, ok11, low11⟩; have low911 := low10.trans (low11.mono low10.size); have hD := made2_any dFirst l10 g10 dSecond l11 g11 _ md_12 w11 (HL.out.below (L09.out.trans (low911.mono L09.out.size)) (Nat.le_refl _)) (ok10.below low11) ok11) | (go_at_call 11; refine hD.mono ?_; rintro e w12 ⟨S2, rfl, hps2, hgx2, low12, hblk2⟩; have low912 := low911.trans (low12.mono low911.size)))
  clear hA hB hD ok10 ok11 low10 low11 low911 low12 e2
  have HV12 := Lib.hid (at_below HV9.out low912)
  have HT12 := Lib.hid (HT.out.below low912)
  have G1 := Lib.hid (Hgx1.out.below low912)
  have G2 := Lib.hid hgx2
  have Hps2 := Lib.hid hps2
  have Hblk2 := Lib.hid hblk2
  have L12 := Lib.hid (L09.out.trans (low912.mono L09.out.size))
  clear HV9 HT Hgx1 low912 L09 hgx2 hps2 hblk2
  go_upto_region 7 with (fail)
  have hz := Go.heap_alloc_new w12 (.cells #[Value.pointer none, Value.pointer none, Value.map none, Value.map none, Value.int IntKind.i64 0] 38)
  have low13 : Below w12.heap.size w12 (w12.alloc (.cells #[Value.pointer none, Value.pointer none, Value.map none, Value.map none, Value.int IntKind.i64 0] 38)) := (Below.refl _ _).alloc (Nat.le_refl _) _
  obtain ⟨W, hW⟩ : ∃ W, W = w12.alloc (.cells #[Value.pointer none, Value.pointer none, Value.map none, Value.map none, Value.int IntKind.i64 0] 38) := ⟨_, rfl⟩
  rw [← hW] at hz low13 ⊢
  obtain ⟨zb, hzb⟩ : ∃ zb, zb = w12.heap.size := ⟨_, rfl⟩
  rw [← hzb] at hz ⊢
  have HZ : Hid (NoG W (ptr zb)) := .inr ⟨zb, rfl, cell_row hz 0⟩
  have HV := Lib.hid (at_below HV12.out low13)
  have HT := Lib.hid (HT12.out.below low13)
  have F1 := Lib.hid (G1.out.below low13)
  have F2 := Lib.hid (G2.out.below low13)
  have HLW := Lib.hid (HL.out.below (L12.out.trans (low13.mono L12.out.size)) (Nat.le_refl _))
  have hk := kb1_of F1.out Hps1.out
  have LW := Lib.hid (L12.out.trans (low13.mono L12.out.size))
  clear hz low13 hW hzb HV12 HT12 G1 G2 L12
  obtain ⟨y10, h10⟩ : ∃ y, y = v10 := ⟨_, rfl⟩
  obtain ⟨y11, h11⟩ : ∃ y, y = v11 := ⟨_, rfl⟩
  obtain ⟨y20, h20⟩ : ∃ y, y = v20 := ⟨_, rfl⟩
  obtain ⟨y30, h30⟩ : ∃ y, y = v30 := ⟨_, rfl⟩
  rw [← h10, ← h11, ← h20, ← h30] at hk
  clear h10 h11 h20 h30
  have HK := Lib.hid hk
  clear hk
  have e3 := run_threePt
  have cur : Hid (Below W.heap.size W W) := Below.refl _ _
  generalize Value.agg (givC dFirst l1 g1) = s6
  generalize Value.agg (givC dSecond l2 g2) = s7
  generalize Value.agg (givC dThird l3 g3) = s8
  generalize Value.slice (some { block := w3.heap.size, off := 0 }) 3 3 = s9
  generalize Value.agg (givC dSecond (Value.slice A5 dSecond.lines.length c5) (Value.slice B5 dSecond.gone.length d5)) = s11
  generalize Value.agg (givC dFirst l10 g10) = s16
  generalize Value.agg (givC dSecond l11 g11) = s17
  generalize Value.slice (some { block := w11.heap.size, off := 0 }) 2 2 = s18
  go_upto_region 8 with (first
    | (go_at_call 16; refine (awake_any _ (HLW.out.below cur.out (Nat.le_refl _))).mono ?_; rintro e wn ⟨rfl, low⟩; replace cur := Lib.hid (cur.out.trans (low.mono cur.out.size)); clear low)
    | (go_at_call 12; refine (lfirst_any _).mono ?_; rintro e wn ⟨lF, gF, rfl, okF, lowF⟩; replace cur := Lib.hid (cur.out.trans (lowF.mono cur.out.size)))
    | (go_at_call 14; refine (lthird_any _).mono ?_; rintro e wn ⟨lT, gT, rfl, okT, lowT⟩; replace cur := Lib.hid (cur.out.trans (lowT.mono cur.out.size)))
    | (go_at_call 13; refine (lsecond_any _).mono ?_; rintro e wS ⟨lS, gS, rfl, okS, lowS⟩; replace cur := Lib.hid (cur.out.trans (lowS.mono cur.out.size)))
    | (go_at_call 11; refine (made3_any dFirst lF gF dThird lT gT dSecond lS gS _ md_132 _ (HLW.out.below cur.out (Nat.le_refl _)) (okF.below (lowT.trans (lowS.mono lowT.size))) (okT.below lowS) okS).mono ?_; rintro e wn ⟨S3, rfl, hps3, hgx3, lowM, -⟩; replace cur := Lib.hid (cur.out.trans (lowM.mono cur.out.size)))
    | (go_at_call 17; refine (nw_text (by omega) li_132 tx_132 (by decide) hps3 hgx3 (HLW.out.below cur.out (Nat.le_refl _))).mono ?_; rintro e wn ⟨rfl, low⟩; replace cur := Lib.hid (cur.out.trans (low.mono cur.out.size)); clear low hps3 hgx3)
    | (go_at_call 19; refine (lroot_any _).mono ?_; rintro e wn ⟨rfl, low⟩; replace cur := Lib.hid (cur.out.trans (low.mono cur.out.size)); clear low)
    | (go_at_call 20; refine (lend_any _).mono ?_; rintro e wn ⟨rfl, low⟩; replace cur := Lib.hid (cur.out.trans (low.mono cur.out.size)); clear low)
    | (go_at_call 15; (first | with_reducible refine (HK.out.a10 _).mono ?_ | with_reducible refine (HK.out.a11 _).mono ?_ | with_reducible refine (HK.out.a20 _).mono ?_ | with_reducible refine (HK.out.a30 _).mono ?_); rintro e wn ⟨rfl, low⟩; replace cur := Lib.hid (cur.out.trans (low.mono cur.out.size)); clear low)
    | (go_at_call 18; (first | with_reducible refine (HK.out.b23 _ cur.out).mono ?_ | with_reducible refine (HK.out.b32 _ cur.out).mono ?_ | with_reducible refine (HK.out.b01 _ cur.out).mono ?_ | with_reducible refine (HK.out.bre _ cur.out).mono ?_ | with_reducible refine (HK.out.brr _ cur.out).mono ?_); rintro e wn ⟨rfl, low⟩; replace cur := Lib.hid (cur.out.trans (low.mono cur.out.size)); clear low))
  clear okF lowF okT lowT okS lowS lowM
  clear HK e3
  have eb := run_bHash
  have eb0 := run_bHash0
  have e1 := run_onePt
  go_upto_region 9 with (fail)
  generalize Value.agg x11.c = s12
  generalize Value.agg x10.c = s13
  generalize Value.pointer (some { block := bx, off := 34 }) = s14
  generalize Value.pointer (some { block := bx, off := 67 }) = s15
  generalize Value.agg #[Value.pointer none, Value.pointer none, Value.map none, Value.map none, Value.int IntKind.i64 0] = s20
  generalize Value.agg (givC dFirst lF gF) = s33
  generalize Value.agg (givC dThird lT gT) = s34
  generalize Value.agg (givC dSecond lS gS) = s35
  generalize Value.slice (some { block := wS.heap.size, off := 0 }) 3 3 = s36
  generalize ptr S3.g = s37
  generalize Value.string { data := #[40, 97, 41, 32, 120, 32, 121, 32, 98, 32] } = s38
  generalize Value.agg y20.c = s43
  generalize Value.agg y30.c = s44
  generalize Value.agg y10.c = s55
  generalize Value.agg y11.c = s56
  generalize Value.agg root.c = s62
  generalize Value.agg fin.c = s63
  have apx : apartB [73, 74, 75, 76, 77, 78, 79, 80, 81, 82, 83, 84, 85, 86, 87, 88, 89, 90, 91, 92, 93, 94, 95, 96, 97, 98, 99, 100, 101, 102, 103, 104, 105, 106, 107, 108, 109, 110, 111, 112, 113, 114, 115, 116, 117, 118, 119, 120, 121, 122, 123, 124, 125, 126, 127, 128, 129, 130, 131, 132, 133, 134, 135, 136, 137, 138, 139, 140, 141, 142, 143, 144, 145, 146, 147, 148, 149, 150, 151, 152, 153, 0] = true := by decide
  refine wp_region_any (by kernel_rfl) ?_
  change wpAny _ _ _ _ _ _ _ (World.drew _)
  refine wpAny_inv2 (fun ll aa wx => Hid (ll.size = 82 ∧ RelK 73 w W ll wx) ∧ ∃ (z : Nat → Value), Hid (aa = ⟨#[z 0, ptr S1.g, .pointer (some ⟨bx, 0, none⟩), ptr S2.g, .pointer none, .pointer (some ⟨zb, 0, none⟩), s6, s7, s8, s9, ptr S1.g, s11, s12, s13, s14, s15, s16, s17, s18, ptr S2.g, s20, .pointer (some ⟨zb, 0, none⟩), .bool true, .bool false, .bool false, ptr S1.g, .bool false, .bool false, .bool false, ptr S2.g, .bool false, .bool false, .bool false, s33, s34, s35, s36, s37, s38, .bool false, .bool false, .bool false, ptr S1.g, s43, s44, .bool false, .bool false, .bool false, ptr S1.g, s44, s43, .bool false, .bool false, .bool false, ptr S1.g, s55, s56, .bool true, .bool false, .bool false, .bool false, ptr S1.g, s62, s63, .bool true, .bool false, .bool false, .bool false, ptr S1.g, s62, s62, .bool false, .bool false, z 73, z 74, z 75, z 76, z 77, z 78, z 79, z 80, z 81, z 82, z 83, z 84, z 85, z 86, z 87, z 88, z 89, z 90, z 91, z 92, z 93, z 94, z 95, z 96, z 97, z 98, z 99, z 100, z 101, z 102, z 103, z 104, z 105, z 106, z 107, z 108, z 109, z 110, z 111, z 112, z 113, z 114, z 115, z 116, z 117, z 118, z 119, z 120, z 121, z 122, z 123, z 124, z 125, z 126, z 127, z 128, z 129, z 130, z 131, z 132, z 133, z 134, z 135, z 136, z 137, z 138, z 139, z 140, z 141, z 142, z 143, z 144, z 145, z 146, z 147, z 148, z 149, z 150, z 151, z 152, z 153], []⟩) ∧ Holding [73, 74, 75, 76, 77, 78, 79, 80, 81, 82, 83, 84, 85, 86, 87, 88, 89, 90, 91, 92, 93, 94, 95, 96, 97, 98, 99, 100, 101, 102, 103, 104, 105, 106, 107, 108, 109, 110, 111, 112, 113, 114, 115, 116, 117, 118, 119, 120, 121, 122, 123, 124, 125, 126, 127, 128, 129, 130, 131, 132, 133, 134, 135, 136, 137, 138, 139, 140, 141, 142, 143, 144, 145, 146, 147, 148, 149, 150, 151, 152, 153, 0] [none, none, some (.int .i64 10), some (.bool true), some (.bool true), some (ptr S2.g), some (.agg (hsC (hb 1))), some (.int .i64 10), some (.bool true), some (.bool true), some (.bool true), some (ptr S2.g), some (.agg (hsC (hb 9))), some (.int .i64 5), some (.bool true), some (.bool true), some (.bool true), some (ptr S2.g), none, some (.int .i64 6), some (.bool true), some (.bool true), some (.bool true), none, none, none, some (.agg (givC dT lv gv)), some (.int .i64 4), some (.bool true), some (.bool true), some (.bool true), some (.pointer none), none, some (.int .i64 1), some (.bool true), some (.bool true), some (.bool true), some (.pointer (some ⟨zb, 0, none⟩)), some (.agg (hsC z32)), some (.int .i64 1), some (.bool true), some (.bool true), some (.bool true), some (.pointer none), some (nils), some (.int .i64 0), some (.pointer (some ⟨zb, 0, none⟩)), some (nils), some (.int .i64 0), some (.int .i64 0), some (.bool true), some (.bool true), some (.bool true), some (.pointer none), some (.agg root.c), some (.bool false), some (.bool true), some (.bool true), some (.bool true), some (.pointer (some ⟨zb, 0, none⟩)), some (.agg root.c), some (.agg fin.c), some (.bool false), some (.bool true), some (.bool true), some (.bool true), some (.pointer none), some (.pointer none), some (.bool true), some (.bool true), some (.bool true), some (ptr S1.g), some (.agg (hsC (hb 3))), some (.int .i64 0), some (.bool true), some (.bool true), some (.bool true), some (ptr S1.g), some (.string ⟨#[97, 32, 120, 32, 98, 32]⟩), some (.bool true), some (.bool true), some (.bool true)] ll z ∧ Whu ll 0 2 (NewG) (z 73) wx ∧ Whu ll 1 2 (GvP dSecond) (z 74) wx ∧ Whu ll 18 19 (GvP dFirst) (z 91) wx ∧ Whu ll 23 24 (GvP dFirst) (z 96) wx ∧ Whu ll 24 25 (RowP) (z 97) wx ∧ Whu ll 25 27 (MdP) (z 98) wx ∧ Whu ll 32 33 (GvP dFirst) (z 105) wx ∧ Whu ll 73 78 (RmP S1.g) (z 146) wx) ?_ (by kernel_rfl) ?_ ?_ _ rfl _ _ ?_
  · rintro ll aa wx ⟨hI, _⟩
    exact hI.out.1
  · rintro ll aa wx ⟨hI, z, ha, hz, hp0, hp1, hp18, hp23, hp24, hp25, hp32, hp73⟩ hall
    have hx := Lib.hid hI.out.2
    have e2 : z 75 = .int .i64 10 := hz 2 _ (hall 2 (by decide)) rfl
    have e3 : z 76 = .bool true := hz 3 _ (hall 3 (by decide)) rfl
    have e4 : z 77 = .bool true := hz 4 _ (hall 4 (by decide)) rfl
    have e5 : z 78 = ptr S2.g := hz 5 _ (hall 5 (by decide)) rfl
    have e6 : z 79 = .agg (hsC (hb 1)) := hz 6 _ (hall 6 (by decide)) rfl
    have e7 : z 80 = .int .i64 10 := hz 7 _ (hall 7 (by decide)) rfl
    have e8 : z 81 = .bool true := hz 8 _ (hall 8 (by decide)) rfl
    have e9 : z 82 = .bool true := hz 9 _ (hall 9 (by decide)) rfl
    have e10 : z 83 = .bool true := hz 10 _ (hall 10 (by decide)) rfl
    have e11 : z 84 = ptr S2.g := hz 11 _ (hall 11 (by decide)) rfl
    have e12 : z 85 = .agg (hsC (hb 9)) := hz 12 _ (hall 12 (by decide)) rfl
    have e13 : z 86 = .int .i64 5 := hz 13 _ (hall 13 (by decide)) rfl
    have e14 : z 87 = .bool true := hz 14 _ (hall 14 (by decide)) rfl
    have e15 : z 88 = .bool true := hz 15 _ (hall 15 (by decide)) rfl
    have e16 : z 89 = .bool true := hz 16 _ (hall 16 (by decide)) rfl
    have e17 : z 90 = ptr S2.g := hz 17 _ (hall 17 (by decide)) rfl
    have e19 : z 92 = .int .i64 6 := hz 19 _ (hall 19 (by decide)) rfl
    have e20 : z 93 = .bool true := hz 20 _ (hall 20 (by decide)) rfl
    have e21 : z 94 = .bool true := hz 21 _ (hall 21 (by decide)) rfl
    have e22 : z 95 = .bool true := hz 22 _ (hall 22 (by decide)) rfl
    have e26 : z 99 = .agg (givC dT lv gv) := hz 26 _ (hall 26 (by decide)) rfl
    have e27 : z 100 = .int .i64 4 := hz 27 _ (hall 27 (by decide)) rfl
    have e28 : z 101 = .bool true := hz 28 _ (hall 28 (by decide)) rfl
    have e29 : z 102 = .bool true := hz 29 _ (hall 29 (by decide)) rfl
    have e30 : z 103 = .bool true := hz 30 _ (hall 30 (by decide)) rfl
    have e31 : z 104 = .pointer none := hz 31 _ (hall 31 (by decide)) rfl
    have e33 : z 106 = .int .i64 1 := hz 33 _ (hall 33 (by decide)) rfl
    have e34 : z 107 = .bool true := hz 34 _ (hall 34 (by decide)) rfl
    have e35 : z 108 = .bool true := hz 35 _ (hall 35 (by decide)) rfl
    have e36 : z 109 = .bool true := hz 36 _ (hall 36 (by decide)) rfl
    have e37 : z 110 = .pointer (some ⟨zb, 0, none⟩) := hz 37 _ (hall 37 (by decide)) rfl
    have e38 : z 111 = .agg (hsC z32) := hz 38 _ (hall 38 (by decide)) rfl
    have e39 : z 112 = .int .i64 1 := hz 39 _ (hall 39 (by decide)) rfl
    have e40 : z 113 = .bool true := hz 40 _ (hall 40 (by decide)) rfl
    have e41 : z 114 = .bool true := hz 41 _ (hall 41 (by decide)) rfl
    have e42 : z 115 = .bool true := hz 42 _ (hall 42 (by decide)) rfl
    have e43 : z 116 = .pointer none := hz 43 _ (hall 43 (by decide)) rfl
    have e44 : z 117 = nils := hz 44 _ (hall 44 (by decide)) rfl
    have e45 : z 118 = .int .i64 0 := hz 45 _ (hall 45 (by decide)) rfl
    have e46 : z 119 = .pointer (some ⟨zb, 0, none⟩) := hz 46 _ (hall 46 (by decide)) rfl
    have e47 : z 120 = nils := hz 47 _ (hall 47 (by decide)) rfl
    have e48 : z 121 = .int .i64 0 := hz 48 _ (hall 48 (by decide)) rfl
    have e49 : z 122 = .int .i64 0 := hz 49 _ (hall 49 (by decide)) rfl
    have e50 : z 123 = .bool true := hz 50 _ (hall 50 (by decide)) rfl
    have e51 : z 124 = .bool true := hz 51 _ (hall 51 (by decide)) rfl
    have e52 : z 125 = .bool true := hz 52 _ (hall 52 (by decide)) rfl
    have e53 : z 126 = .pointer none := hz 53 _ (hall 53 (by decide)) rfl
    have e54 : z 127 = .agg root.c := hz 54 _ (hall 54 (by decide)) rfl
    have e55 : z 128 = .bool false := hz 55 _ (hall 55 (by decide)) rfl
    have e56 : z 129 = .bool true := hz 56 _ (hall 56 (by decide)) rfl
    have e57 : z 130 = .bool true := hz 57 _ (hall 57 (by decide)) rfl
    have e58 : z 131 = .bool true := hz 58 _ (hall 58 (by decide)) rfl
    have e59 : z 132 = .pointer (some ⟨zb, 0, none⟩) := hz 59 _ (hall 59 (by decide)) rfl
    have e60 : z 133 = .agg root.c := hz 60 _ (hall 60 (by decide)) rfl
    have e61 : z 134 = .agg fin.c := hz 61 _ (hall 61 (by decide)) rfl
    have e62 : z 135 = .bool false := hz 62 _ (hall 62 (by decide)) rfl
    have e63 : z 136 = .bool true := hz 63 _ (hall 63 (by decide)) rfl
    have e64 : z 137 = .bool true := hz 64 _ (hall 64 (by decide)) rfl
    have e65 : z 138 = .bool true := hz 65 _ (hall 65 (by decide)) rfl
    have e66 : z 139 = .pointer none := hz 66 _ (hall 66 (by decide)) rfl
    have e67 : z 140 = .pointer none := hz 67 _ (hall 67 (by decide)) rfl
    have e68 : z 141 = .bool true := hz 68 _ (hall 68 (by decide)) rfl
    have e69 : z 142 = .bool true := hz 69 _ (hall 69 (by decide)) rfl
    have e70 : z 143 = .bool true := hz 70 _ (hall 70 (by decide)) rfl
    have e71 : z 144 = ptr S1.g := hz 71 _ (hall 71 (by decide)) rfl
    have e72 : z 145 = .agg (hsC (hb 3)) := hz 72 _ (hall 72 (by decide)) rfl
    have e73 : z 146 = .int .i64 0 := hz 73 _ (hall 73 (by decide)) rfl
    have e74 : z 147 = .bool true := hz 74 _ (hall 74 (by decide)) rfl
    have e75 : z 148 = .bool true := hz 75 _ (hall 75 (by decide)) rfl
    have e76 : z 149 = .bool true := hz 76 _ (hall 76 (by decide)) rfl
    have e77 : z 150 = ptr S1.g := hz 77 _ (hall 77 (by decide)) rfl
    have e78 : z 151 = .string ⟨#[97, 32, 120, 32, 98, 32]⟩ := hz 78 _ (hall 78 (by decide)) rfl
    have e79 : z 152 = .bool true := hz 79 _ (hall 79 (by decide)) rfl
    have e80 : z 153 = .bool true := hz 80 _ (hall 80 (by decide)) rfl
    have e81 : z 0 = .bool true := hz 81 _ (hall 81 (by decide)) rfl
    clear hall hz hI hp0 hp1 hp18 hp23 hp24 hp25 hp32 hp73
    obtain rfl := ha.out
    clear ha
    clear apx
    have HB := Lib.hid hx.out.all
    clear hx e2 e3 e4 e5 e6 e7 e8 e9 e10 e11 e12 e13 e14 e15 e16 e17 e19 e20 e21 e22 e26 e27 e28 e29 e30 e31 e33 e34 e35 e36 e37 e38 e39 e40 e41 e42 e43 e44 e45 e46 e47 e48 e49 e50 e51 e52 e53 e54 e55 e56 e57 e58 e59 e60 e61 e62 e63 e64 e65 e66 e67 e68 e69 e70 e71 e72 e73 e74 e75 e76 e77 e78 e79 e80
    go_wp2
    go_ret
    exact ⟨congrArg Ending.returned e81, HB.out⟩
  · rintro ll aa wx i ⟨hI, z, ha, hz, hp0, hp1, hp18, hp23, hp24, hp25, hp32, hp73⟩ hcl hi hu hw
    obtain rfl := ha.out
    have hsz := Lib.hid hI.out.1
    have hx := Lib.hid hI.out.2
    clear ha hI
    have hin : i < 82 := hi
    obtain rfl | rfl | rfl | rfl | rfl | rfl | rfl | rfl | rfl | rfl | rfl | rfl | rfl | rfl | rfl | rfl | rfl | rfl | rfl | rfl | rfl | rfl | rfl | rfl | rfl | rfl | rfl | rfl | rfl | rfl | rfl | rfl | rfl | rfl | rfl | rfl | rfl | rfl | rfl | rfl | rfl | rfl | rfl | rfl | rfl | rfl | rfl | rfl | rfl | rfl | rfl | rfl | rfl | rfl | rfl | rfl | rfl | rfl | rfl | rfl | rfl | rfl | rfl | rfl | rfl | rfl | rfl | rfl | rfl | rfl | rfl | rfl | rfl | rfl | rfl | rfl | rfl | rfl | rfl | rfl | rfl | rfl : i = 0 ∨ i = 1 ∨ i = 2 ∨ i = 3 ∨ i = 4 ∨ i = 5 ∨ i = 6 ∨ i = 7 ∨ i = 8 ∨ i = 9 ∨ i = 10 ∨ i = 11 ∨ i = 12 ∨ i = 13 ∨ i = 14 ∨ i = 15 ∨ i = 16 ∨ i = 17 ∨ i = 18 ∨ i = 19 ∨ i = 20 ∨ i = 21 ∨ i = 22 ∨ i = 23 ∨ i = 24 ∨ i = 25 ∨ i = 26 ∨ i = 27 ∨ i = 28 ∨ i = 29 ∨ i = 30 ∨ i = 31 ∨ i = 32 ∨ i = 33 ∨ i = 34 ∨ i = 35 ∨ i = 36 ∨ i = 37 ∨ i = 38 ∨ i = 39 ∨ i = 40 ∨ i = 41 ∨ i = 42 ∨ i = 43 ∨ i = 44 ∨ i = 45 ∨ i = 46 ∨ i = 47 ∨ i = 48 ∨ i = 49 ∨ i = 50 ∨ i = 51 ∨ i = 52 ∨ i = 53 ∨ i = 54 ∨ i = 55 ∨ i = 56 ∨ i = 57 ∨ i = 58 ∨ i = 59 ∨ i = 60 ∨ i = 61 ∨ i = 62 ∨ i = 63 ∨ i = 64 ∨ i = 65 ∨ i = 66 ∨ i = 67 ∨ i = 68 ∨ i = 69 ∨ i = 70 ∨ i = 71 ∨ i = 72 ∨ i = 73 ∨ i = 74 ∨ i = 75 ∨ i = 76 ∨ i = 77 ∨ i = 78 ∨ i = 79 ∨ i = 80 ∨ i = 81 := by omega
    · refine wpOp_plain rfl rfl ?_
      go_simp
      go_at_call 21
      refine (new_gx _ (HL.out.below hx.out.all (Nat.le_refl _))).mono ?_
      rintro e w9 ⟨S9, rfl, hps9, hg9, low, -⟩
      exact ⟨⟨by simp [hsz.out], hx.out.call low⟩, upd z 73 (ptr S9.g), (by unfold Hid; simp [upd]), hz.next apx hsz.out 0 (by decide) _ (fun _ h => by cases h), Whu.done (⟨S9, rfl, hps9, hg9⟩), (hp1.keep (by decide)).map (fun h => h.later low), (hp18.keep (by decide)).map (fun h => h.later low), (hp23.keep (by decide)).map (fun h => h.later low), (hp24.keep (by decide)).map (fun h => h.later low), (hp25.keep (by decide)).map (fun h => h.later low), (hp32.keep (by decide)).map (fun h => h.later low), (hp73.keep (by decide)).map (fun h => h.later low)⟩
    · refine wpOp_plain rfl rfl ?_
      go_simp
      go_at_call 13
      refine (lsecond_any _).mono ?_
      rintro e w9 ⟨l9, g9, rfl, ok9, low⟩
      exact ⟨⟨by simp [hsz.out], hx.out.call low⟩, upd z 74 (.agg (givC dSecond l9 g9)), (by unfold Hid; simp [upd]), hz.next apx hsz.out 1 (by decide) _ (fun _ h => by cases h), (hp0.keep (by decide)).map (fun h => h.later low), Whu.done (⟨l9, g9, rfl, ok9⟩), (hp18.keep (by decide)).map (fun h => h.later low), (hp23.keep (by decide)).map (fun h => h.later low), (hp24.keep (by decide)).map (fun h => h.later low), (hp25.keep (by decide)).map (fun h => h.later low), (hp32.keep (by decide)).map (fun h => h.later low), (hp73.keep (by decide)).map (fun h => h.later low)⟩
    · have p0 := hp0.get (hw 0 (by kernel_rfl)) hu
      have p1 := hp1.get (hw 1 (by kernel_rfl)) hu
      obtain ⟨S9, hv8, hps9, hg9⟩ := p0
      obtain ⟨l9, g9, hv9, hok9⟩ := p1
      refine wpOp_plain rfl rfl ?_
      go_simp
      go_at_call 22
      refine (add_no (by omega) hg9 (HL.out.below hx.out.all (Nat.le_refl _)) hok9 10 (by rw [hps9]; exact ref_0) (by decide)).mono ?_
      rintro e w9 ⟨rfl, low⟩
      exact ⟨⟨by simp [hsz.out], hx.out.call low⟩, upd z 75 (.int .i64 10), (by unfold Hid; simp [upd, hv8, hv9]), hz.next apx hsz.out 2 (by decide) _ (fun _ h => Option.some.inj h), Whu.past (by rw [hsz.out]; decide), Whu.past (by rw [hsz.out]; decide), (hp18.keep (by decide)).map (fun h => h.later low), (hp23.keep (by decide)).map (fun h => h.later low), (hp24.keep (by decide)).map (fun h => h.later low), (hp25.keep (by decide)).map (fun h => h.later low), (hp32.keep (by decide)).map (fun h => h.later low), (hp73.keep (by decide)).map (fun h => h.later low)⟩
    · have e2 : z 75 = .int .i64 10 := hz 2 _ (hw 2 (by kernel_rfl)) rfl
      refine wpOp_plain rfl rfl ?_
      go_simp
      exact ⟨⟨by simp [hsz.out], hx.out.keep⟩, upd z 76 (.bool true), (by unfold Hid; simp [upd, e2]), hz.next apx hsz.out 3 (by decide) _ (fun _ h => Option.some.inj h), hp0.keep (by decide), hp1.keep (by decide), hp18.keep (by decide), hp23.keep (by decide), hp24.keep (by decide), hp25.keep (by decide), hp32.keep (by decide), hp73.keep (by decide)⟩
    · have e3 : z 76 = .bool true := hz 3 _ (hw 3 (by kernel_rfl)) rfl
      refine wpOp_plain rfl rfl ?_
      go_simp
      exact ⟨⟨by simp [hsz.out], hx.out.keep⟩, upd z 77 (.bool true), (by unfold Hid; simp [upd, e3]), hz.next apx hsz.out 4 (by decide) _ (fun _ h => Option.some.inj h), hp0.keep (by decide), hp1.keep (by decide), hp18.keep (by decide), hp23.keep (by decide), hp24.keep (by decide), hp25.keep (by decide), hp32.keep (by decide), hp73.keep (by decide)⟩
    · have e4 : z 77 = .bool true := hz 4 _ (hw 4 (by kernel_rfl)) rfl
      refine wpOp_want rfl (by simp [Region.wanted, yielded, e4]) ?_
      go_simp
      exact ⟨⟨by simp [hsz.out], hx.out.keep⟩, upd z 78 (ptr S2.g), (by unfold Hid; simp [upd, e4]), hz.next apx hsz.out 5 (by decide) _ (fun _ h => Option.some.inj h), hp0.keep (by decide), hp1.keep (by decide), hp18.keep (by decide), hp23.keep (by decide), hp24.keep (by decide), hp25.keep (by decide), hp32.keep (by decide), hp73.keep (by decide)⟩
    · have e4 : z 77 = .bool true := hz 4 _ (hw 4 (by kernel_rfl)) rfl
      refine wpOp_want rfl (by simp [Region.wanted, yielded, e4]) ?_
      go_simp
      exact ⟨⟨by simp [hsz.out], hx.out.keep⟩, upd z 79 (.agg (hsC (hb 1))), (by unfold Hid; simp [upd, e4]), hz.next apx hsz.out 6 (by decide) _ (fun _ h => Option.some.inj h), hp0.keep (by decide), hp1.keep (by decide), hp18.keep (by decide), hp23.keep (by decide), hp24.keep (by decide), hp25.keep (by decide), hp32.keep (by decide), hp73.keep (by decide)⟩
    · have e4 : z 77 = .bool true := hz 4 _ (hw 4 (by kernel_rfl)) rfl
      have e5 : z 78 = ptr S2.g := hz 5 _ (hw 5 (by kernel_rfl)) rfl
      have e6 : z 79 = .agg (hsC (hb 1)) := hz 6 _ (hw 6 (by kernel_rfl)) rfl
      have hs := hx.out.bef (not_listed (fun hq => hcl 10 7 (hcl 15 10 (hcl 16 15 (hcl 21 16 (hcl 22 21 (hcl 29 22 (hcl 30 29 (hcl 35 30 (hcl 36 35 (hcl 41 36 (hcl 42 41 (hcl 51 42 (hcl 52 51 (hcl 57 52 (hcl 58 57 (hcl 64 58 (hcl 65 64 (hcl 69 65 (hcl 70 69 (hcl 73 70 (hq) (by kernel_rfl)) (by kernel_rfl)) (by kernel_rfl)) (by kernel_rfl)) (by kernel_rfl)) (by kernel_rfl)) (by kernel_rfl)) (by kernel_rfl)) (by kernel_rfl)) (by kernel_rfl)) (by kernel_rfl)) (by kernel_rfl)) (by kernel_rfl)) (by kernel_rfl)) (by kernel_rfl)) (by kernel_rfl)) (by kernel_rfl)) (by kernel_rfl)) (by kernel_rfl)) (by kernel_rfl)) hu)
      refine wpOp_want rfl (by simp [Region.wanted, yielded, e4]) ?_
      go_simp
      go_at_call 23
      refine (rem_1 (F2.out.below hs) Hps2.out).mono ?_
      rintro e w9 ⟨rfl, low⟩
      exact ⟨⟨by simp [hsz.out], hx.out.call low⟩, upd z 80 (.int .i64 10), (by unfold Hid; simp [upd, e4, e5, e6]), hz.next apx hsz.out 7 (by decide) _ (fun _ h => Option.some.inj h), (hp0.keep (by decide)).map (fun h => h.later low), (hp1.keep (by decide)).map (fun h => h.later low), (hp18.keep (by decide)).map (fun h => h.later low), (hp23.keep (by decide)).map (fun h => h.later low), (hp24.keep (by decide)).map (fun h => h.later low), (hp25.keep (by decide)).map (fun h => h.later low), (hp32.keep (by decide)).map (fun h => h.later low), (hp73.keep (by decide)).map (fun h => h.later low)⟩
    · have e4 : z 77 = .bool true := hz 4 _ (hw 4 (by kernel_rfl)) rfl
      have e7 : z 80 = .int .i64 10 := hz 7 _ (hw 7 (by kernel_rfl)) rfl
      refine wpOp_want rfl (by simp [Region.wanted, yielded, e4]) ?_
      go_simp
      exact ⟨⟨by simp [hsz.out], hx.out.keep⟩, upd z 81 (.bool true), (by unfold Hid; simp [upd, e4, e7]), hz.next apx hsz.out 8 (by decide) _ (fun _ h => Option.some.inj h), hp0.keep (by decide), hp1.keep (by decide), hp18.keep (by decide), hp23.keep (by decide), hp24.keep (by decide), hp25.keep (by decide), hp32.keep (by decide), hp73.keep (by decide)⟩
    · have e4 : z 77 = .bool true := hz 4 _ (hw 4 (by kernel_rfl)) rfl
      have e8 : z 81 = .bool true := hz 8 _ (hw 8 (by kernel_rfl)) rfl
      refine wpOp_plain rfl rfl ?_
      go_simp
      exact ⟨⟨by simp [hsz.out], hx.out.keep⟩, upd z 82 (.bool true), (by unfold Hid; simp [upd, e4, e8]), hz.next apx hsz.out 9 (by decide) _ (fun _ h => Option.some.inj h), hp0.keep (by decide), hp1.keep (by decide), hp18.keep (by decide), hp23.keep (by decide), hp24.keep (by decide), hp25.keep (by decide), hp32.keep (by decide), hp73.keep (by decide)⟩
    · have e9 : z 82 = .bool true := hz 9 _ (hw 9 (by kernel_rfl)) rfl
      refine wpOp_plain rfl rfl ?_
      go_simp
      exact ⟨⟨by simp [hsz.out], hx.out.keep⟩, upd z 83 (.bool true), (by unfold Hid; simp [upd, e9]), hz.next apx hsz.out 10 (by decide) _ (fun _ h => Option.some.inj h), hp0.keep (by decide), hp1.keep (by decide), hp18.keep (by decide), hp23.keep (by decide), hp24.keep (by decide), hp25.keep (by decide), hp32.keep (by decide), hp73.keep (by decide)⟩
    · have e10 : z 83 = .bool true := hz 10 _ (hw 10 (by kernel_rfl)) rfl
      refine wpOp_want rfl (by simp [Region.wanted, yielded, e10]) ?_
      go_simp
      exact ⟨⟨by simp [hsz.out], hx.out.keep⟩, upd z 84 (ptr S2.g), (by unfold Hid; simp [upd, e10]), hz.next apx hsz.out 11 (by decide) _ (fun _ h => Option.some.inj h), hp0.keep (by decide), hp1.keep (by decide), hp18.keep (by decide), hp23.keep (by decide), hp24.keep (by decide), hp25.keep (by decide), hp32.keep (by decide), hp73.keep (by decide)⟩
    · have e10 : z 83 = .bool true := hz 10 _ (hw 10 (by kernel_rfl)) rfl
      refine wpOp_want rfl (by simp [Region.wanted, yielded, e10]) ?_
      go_simp
      exact ⟨⟨by simp [hsz.out], hx.out.keep⟩, upd z 85 (.agg (hsC (hb 9))), (by unfold Hid; simp [upd, e10]), hz.next apx hsz.out 12 (by decide) _ (fun _ h => Option.some.inj h), hp0.keep (by decide), hp1.keep (by decide), hp18.keep (by decide), hp23.keep (by decide), hp24.keep (by decide), hp25.keep (by decide), hp32.keep (by decide), hp73.keep (by decide)⟩
    · have e10 : z 83 = .bool true := hz 10 _ (hw 10 (by kernel_rfl)) rfl
      have e11 : z 84 = ptr S2.g := hz 11 _ (hw 11 (by kernel_rfl)) rfl
      have e12 : z 85 = .agg (hsC (hb 9)) := hz 12 _ (hw 12 (by kernel_rfl)) rfl
      have hs := hx.out.bef (not_listed (fun hq => hcl 16 13 (hcl 21 16 (hcl 22 21 (hcl 29 22 (hcl 30 29 (hcl 35 30 (hcl 36 35 (hcl 41 36 (hcl 42 41 (hcl 51 42 (hcl 52 51 (hcl 57 52 (hcl 58 57 (hcl 64 58 (hcl 65 64 (hcl 69 65 (hcl 70 69 (hcl 73 70 (hq) (by kernel_rfl)) (by kernel_rfl)) (by kernel_rfl)) (by kernel_rfl)) (by kernel_rfl)) (by kernel_rfl)) (by kernel_rfl)) (by kernel_rfl)) (by kernel_rfl)) (by kernel_rfl)) (by kernel_rfl)) (by kernel_rfl)) (by kernel_rfl)) (by kernel_rfl)) (by kernel_rfl)) (by kernel_rfl)) (by kernel_rfl)) (by kernel_rfl)) hu)
      refine wpOp_want rfl (by simp [Region.wanted, yielded, e10]) ?_
      go_simp
      go_at_call 23
      refine (rem_9 (F2.out.below hs) Hps2.out).mono ?_
      rintro e w9 ⟨rfl, low⟩
      exact ⟨⟨by simp [hsz.out], hx.out.call low⟩, upd z 86 (.int .i64 5), (by unfold Hid; simp [upd, e10, e11, e12]), hz.next apx hsz.out 13 (by decide) _ (fun _ h => Option.some.inj h), (hp0.keep (by decide)).map (fun h => h.later low), (hp1.keep (by decide)).map (fun h => h.later low), (hp18.keep (by decide)).map (fun h => h.later low), (hp23.keep (by decide)).map (fun h => h.later low), (hp24.keep (by decide)).map (fun h => h.later low), (hp25.keep (by decide)).map (fun h => h.later low), (hp32.keep (by decide)).map (fun h => h.later low), (hp73.keep (by decide)).map (fun h => h.later low)⟩
    · have e10 : z 83 = .bool true := hz 10 _ (hw 10 (by kernel_rfl)) rfl
      have e13 : z 86 = .int .i64 5 := hz 13 _ (hw 13 (by kernel_rfl)) rfl
      refine wpOp_want rfl (by simp [Region.wanted, yielded, e10]) ?_
      go_simp
      exact ⟨⟨by simp [hsz.out], hx.out.keep⟩, upd z 87 (.bool true), (by unfold Hid; simp [upd, e10, e13]), hz.next apx hsz.out 14 (by decide) _ (fun _ h => Option.some.inj h), hp0.keep (by decide), hp1.keep (by decide), hp18.keep (by decide), hp23.keep (by decide), hp24.keep (by decide), hp25.keep (by decide), hp32.keep (by decide), hp73.keep (by decide)⟩
    · have e10 : z 83 = .bool true := hz 10 _ (hw 10 (by kernel_rfl)) rfl
      have e14 : z 87 = .bool true := hz 14 _ (hw 14 (by kernel_rfl)) rfl
      refine wpOp_plain rfl rfl ?_
      go_simp
      exact ⟨⟨by simp [hsz.out], hx.out.keep⟩, upd z 88 (.bool true), (by unfold Hid; simp [upd, e10, e14]), hz.next apx hsz.out 15 (by decide) _ (fun _ h => Option.some.inj h), hp0.keep (by decide), hp1.keep (by decide), hp18.keep (by decide), hp23.keep (by decide), hp24.keep (by decide), hp25.keep (by decide), hp32.keep (by decide), hp73.keep (by decide)⟩
    · have e15 : z 88 = .bool true := hz 15 _ (hw 15 (by kernel_rfl)) rfl
      refine wpOp_plain rfl rfl ?_
      go_simp
      exact ⟨⟨by simp [hsz.out], hx.out.keep⟩, upd z 89 (.bool true), (by unfold Hid; simp [upd, e15]), hz.next apx hsz.out 16 (by decide) _ (fun _ h => Option.some.inj h), hp0.keep (by decide), hp1.keep (by decide), hp18.keep (by decide), hp23.keep (by decide), hp24.keep (by decide), hp25.keep (by decide), hp32.keep (by decide), hp73.keep (by decide)⟩
    · have e16 : z 89 = .bool true := hz 16 _ (hw 16 (by kernel_rfl)) rfl
      refine wpOp_want rfl (by simp [Region.wanted, yielded, e16]) ?_
      go_simp
      exact ⟨⟨by simp [hsz.out], hx.out.keep⟩, upd z 90 (ptr S2.g), (by unfold Hid; simp [upd, e16]), hz.next apx hsz.out 17 (by decide) _ (fun _ h => Option.some.inj h), hp0.keep (by decide), hp1.keep (by decide), hp18.keep (by decide), hp23.keep (by decide), hp24.keep (by decide), hp25.keep (by decide), hp32.keep (by decide), hp73.keep (by decide)⟩
    · have e16 : z 89 = .bool true := hz 16 _ (hw 16 (by kernel_rfl)) rfl
      refine wpOp_want rfl (by simp [Region.wanted, yielded, e16]) ?_
      go_simp
      go_at_call 12
      refine (lfirst_any _).mono ?_
      rintro e w9 ⟨l9, g9, rfl, ok9, low⟩
      exact ⟨⟨by simp [hsz.out], hx.out.call low⟩, upd z 91 (.agg (givC dFirst l9 g9)), (by unfold Hid; simp [upd, e16]), hz.next apx hsz.out 18 (by decide) _ (fun _ h => by cases h), (hp0.keep (by decide)).map (fun h => h.later low), (hp1.keep (by decide)).map (fun h => h.later low), Whu.done (⟨l9, g9, rfl, ok9⟩), (hp23.keep (by decide)).map (fun h => h.later low), (hp24.keep (by decide)).map (fun h => h.later low), (hp25.keep (by decide)).map (fun h => h.later low), (hp32.keep (by decide)).map (fun h => h.later low), (hp73.keep (by decide)).map (fun h => h.later low)⟩
    · have e16 : z 89 = .bool true := hz 16 _ (hw 16 (by kernel_rfl)) rfl
      have e17 : z 90 = ptr S2.g := hz 17 _ (hw 17 (by kernel_rfl)) rfl
      have hs := hx.out.bef (not_listed (fun hq => hcl 22 19 (hcl 29 22 (hcl 30 29 (hcl 35 30 (hcl 36 35 (hcl 41 36 (hcl 42 41 (hcl 51 42 (hcl 52 51 (hcl 57 52 (hcl 58 57 (hcl 64 58 (hcl 65 64 (hcl 69 65 (hcl 70 69 (hcl 73 70 (hq) (by kernel_rfl)) (by kernel_rfl)) (by kernel_rfl)) (by kernel_rfl)) (by kernel_rfl)) (by kernel_rfl)) (by kernel_rfl)) (by kernel_rfl)) (by kernel_rfl)) (by kernel_rfl)) (by kernel_rfl)) (by kernel_rfl)) (by kernel_rfl)) (by kernel_rfl)) (by kernel_rfl)) (by kernel_rfl)) hu)
      have p18 := hp18.get (hw 18 (by kernel_rfl)) hu
      obtain ⟨l9, g9, hv9, hok9⟩ := p18
      refine wpOp_want rfl (by simp [Region.wanted, yielded, e16]) ?_
      go_simp
      go_at_call 22
      refine (add_no (by omega) (F2.out.below hs) (HL.out.below hx.out.all (Nat.le_refl _)) hok9 6 (by rw [Hps2.out]; exact ref_6) (by decide)).mono ?_
      rintro e w9 ⟨rfl, low⟩
      exact ⟨⟨by simp [hsz.out], hx.out.call low⟩, upd z 92 (.int .i64 6), (by unfold Hid; simp [upd, e16, e17, hv9]), hz.next apx hsz.out 19 (by decide) _ (fun _ h => Option.some.inj h), (hp0.keep (by decide)).map (fun h => h.later low), (hp1.keep (by decide)).map (fun h => h.later low), Whu.past (by rw [hsz.out]; decide), (hp23.keep (by decide)).map (fun h => h.later low), (hp24.keep (by decide)).map (fun h => h.later low), (hp25.keep (by decide)).map (fun h => h.later low), (hp32.keep (by decide)).map (fun h => h.later low), (hp73.keep (by decide)).map (fun h => h.later low)⟩
    · have e16 : z 89 = .bool true := hz 16 _ (hw 16 (by kernel_rfl)) rfl
      have e19 : z 92 = .int .i64 6 := hz 19 _ (hw 19 (by kernel_rfl)) rfl
      refine wpOp_want rfl (by simp [Region.wanted, yielded, e16]) ?_
      go_simp
      exact ⟨⟨by simp [hsz.out], hx.out.keep⟩, upd z 93 (.bool true), (by unfold Hid; simp [upd, e16, e19]), hz.next apx hsz.out 20 (by decide) _ (fun _ h => Option.some.inj h), hp0.keep (by decide), hp1.keep (by decide), hp18.keep (by decide), hp23.keep (by decide), hp24.keep (by decide), hp25.keep (by decide), hp32.keep (by decide), hp73.keep (by decide)⟩
    · have e16 : z 89 = .bool true := hz 16 _ (hw 16 (by kernel_rfl)) rfl
      have e20 : z 93 = .bool true := hz 20 _ (hw 20 (by kernel_rfl)) rfl
      refine wpOp_plain rfl rfl ?_
      go_simp
      exact ⟨⟨by simp [hsz.out], hx.out.keep⟩, upd z 94 (.bool true), (by unfold Hid; simp [upd, e16, e20]), hz.next apx hsz.out 21 (by decide) _ (fun _ h => Option.some.inj h), hp0.keep (by decide), hp1.keep (by decide), hp18.keep (by decide), hp23.keep (by decide), hp24.keep (by decide), hp25.keep (by decide), hp32.keep (by decide), hp73.keep (by decide)⟩
    · have e21 : z 94 = .bool true := hz 21 _ (hw 21 (by kernel_rfl)) rfl
      refine wpOp_plain rfl rfl ?_
      go_simp
      exact ⟨⟨by simp [hsz.out], hx.out.keep⟩, upd z 95 (.bool true), (by unfold Hid; simp [upd, e21]), hz.next apx hsz.out 22 (by decide) _ (fun _ h => Option.some.inj h), hp0.keep (by decide), hp1.keep (by decide), hp18.keep (by decide), hp23.keep (by decide), hp24.keep (by decide), hp25.keep (by decide), hp32.keep (by decide), hp73.keep (by decide)⟩
    · have e22 : z 95 = .bool true := hz 22 _ (hw 22 (by kernel_rfl)) rfl
      refine wpOp_want rfl (by simp [Region.wanted, yielded, e22]) ?_
      go_simp
      go_at_call 12
      refine (lfirst_any _).mono ?_
      rintro e w9 ⟨l9, g9, rfl, ok9, low⟩
      exact ⟨⟨by simp [hsz.out], hx.out.call low⟩, upd z 96 (.agg (givC dFirst l9 g9)), (by unfold Hid; simp [upd, e22]), hz.next apx hsz.out 23 (by decide) _ (fun _ h => by cases h), (hp0.keep (by decide)).map (fun h => h.later low), (hp1.keep (by decide)).map (fun h => h.later low), (hp18.keep (by decide)).map (fun h => h.later low), Whu.done (⟨l9, g9, rfl, ok9⟩), (hp24.keep (by decide)).map (fun h => h.later low), (hp25.keep (by decide)).map (fun h => h.later low), (hp32.keep (by decide)).map (fun h => h.later low), (hp73.keep (by decide)).map (fun h => h.later low)⟩
    · have e22 : z 95 = .bool true := hz 22 _ (hw 22 (by kernel_rfl)) rfl
      have p23 := hp23.get (hw 23 (by kernel_rfl)) hu
      obtain ⟨l9, g9, hv9, hok9⟩ := p23
      refine wpOp_want rfl (by simp [Region.wanted, yielded, e22]) ?_
      go_simp
      have lown : Below wx.heap.size wx (wx.alloc (.cells (givC dFirst l9 g9) 31)) := (Below.refl _ _).alloc (Nat.le_refl _) _
      exact ⟨⟨by simp [hsz.out], hx.out.call lown⟩, upd z 97 (.slice (some ⟨wx.heap.size, 0, none⟩) 1 1), (by unfold Hid; simp [upd, e22, hv9]), hz.next apx hsz.out 24 (by decide) _ (fun _ h => by cases h), (hp0.keep (by decide)).map (fun h => h.later lown), (hp1.keep (by decide)).map (fun h => h.later lown), (hp18.keep (by decide)).map (fun h => h.later lown), Whu.past (by rw [hsz.out]; decide), Whu.done (⟨wx.heap.size, l9, g9, rfl, Go.heap_alloc_new wx _, hok9.below lown⟩), (hp25.keep (by decide)).map (fun h => h.later lown), (hp32.keep (by decide)).map (fun h => h.later lown), (hp73.keep (by decide)).map (fun h => h.later lown)⟩
    · have e22 : z 95 = .bool true := hz 22 _ (hw 22 (by kernel_rfl)) rfl
      have p24 := hp24.get (hw 24 (by kernel_rfl)) hu
      obtain ⟨b9, l9, g9, hv9, hb9, hok9⟩ := p24
      refine wpOp_want rfl (by simp [Region.wanted, yielded, e22]) ?_
      go_simp
      go_at_call 11
      refine (made_row (HL.out.below hx.out.all (Nat.le_refl _)) hb9 hok9).mono ?_
      rintro e w9 ⟨S9, rfl, hps9, hg9, low⟩
      exact ⟨⟨by simp [hsz.out], hx.out.call low⟩, upd z 98 (ptr S9.g), (by unfold Hid; simp [upd, e22, hv9]), hz.next apx hsz.out 25 (by decide) _ (fun _ h => by cases h), (hp0.keep (by decide)).map (fun h => h.later low), (hp1.keep (by decide)).map (fun h => h.later low), (hp18.keep (by decide)).map (fun h => h.later low), (hp23.keep (by decide)).map (fun h => h.later low), Whu.past (by rw [hsz.out]; decide), Whu.done (⟨S9, rfl, hps9, hg9⟩), (hp32.keep (by decide)).map (fun h => h.later low), (hp73.keep (by decide)).map (fun h => h.later low)⟩
    · have e22 : z 95 = .bool true := hz 22 _ (hw 22 (by kernel_rfl)) rfl
      have hs := hx.out.bef (not_listed (fun hq => hcl 27 26 (hcl 30 27 (hcl 35 30 (hcl 36 35 (hcl 41 36 (hcl 42 41 (hcl 51 42 (hcl 52 51 (hcl 57 52 (hcl 58 57 (hcl 64 58 (hcl 65 64 (hcl 69 65 (hcl 70 69 (hcl 73 70 (hq) (by kernel_rfl)) (by kernel_rfl)) (by kernel_rfl)) (by kernel_rfl)) (by kernel_rfl)) (by kernel_rfl)) (by kernel_rfl)) (by kernel_rfl)) (by kernel_rfl)) (by kernel_rfl)) (by kernel_rfl)) (by kernel_rfl)) (by kernel_rfl)) (by kernel_rfl)) (by kernel_rfl)) hu)
      have eg := loadGv_eq (at_below HV.out hs)
      refine wpOp_want rfl (by simp [Region.wanted, yielded, e22]) ?_
      go_simp
      exact ⟨⟨by simp [hsz.out], hx.out.keep⟩, upd z 99 (.agg (givC dT lv gv)), (by unfold Hid; simp [upd, e22]), hz.next apx hsz.out 26 (by decide) _ (fun _ h => Option.some.inj h), hp0.keep (by decide), hp1.keep (by decide), hp18.keep (by decide), hp23.keep (by decide), hp24.keep (by decide), hp25.keep (by decide), hp32.keep (by decide), hp73.keep (by decide)⟩
    · have e22 : z 95 = .bool true := hz 22 _ (hw 22 (by kernel_rfl)) rfl
      have e26 : z 99 = .agg (givC dT lv gv) := hz 26 _ (hw 26 (by kernel_rfl)) rfl
      have hs := hx.out.bef (not_listed (fun hq => hcl 30 27 (hcl 35 30 (hcl 36 35 (hcl 41 36 (hcl 42 41 (hcl 51 42 (hcl 52 51 (hcl 57 52 (hcl 58 57 (hcl 64 58 (hcl 65 64 (hcl 69 65 (hcl 70 69 (hcl 73 70 (hq) (by kernel_rfl)) (by kernel_rfl)) (by kernel_rfl)) (by kernel_rfl)) (by kernel_rfl)) (by kernel_rfl)) (by kernel_rfl)) (by kernel_rfl)) (by kernel_rfl)) (by kernel_rfl)) (by kernel_rfl)) (by kernel_rfl)) (by kernel_rfl)) (by kernel_rfl)) hu)
      have p25 := hp25.get (hw 25 (by kernel_rfl)) hu
      obtain ⟨S9, hv9, hps9, hg9⟩ := p25
      refine wpOp_want rfl (by simp [Region.wanted, yielded, e22]) ?_
      go_simp
      go_at_call 22
      refine (add_no (by omega) hg9 (HL.out.below hx.out.all (Nat.le_refl _)) (HT.out.below hs) 4 (by rw [hps9, HdT.out]; exact ref_4) (by decide)).mono ?_
      rintro e w9 ⟨rfl, low⟩
      exact ⟨⟨by simp [hsz.out], hx.out.call low⟩, upd z 100 (.int .i64 4), (by unfold Hid; simp [upd, e22, e26, hv9]), hz.next apx hsz.out 27 (by decide) _ (fun _ h => Option.some.inj h), (hp0.keep (by decide)).map (fun h => h.later low), (hp1.keep (by decide)).map (fun h => h.later low), (hp18.keep (by decide)).map (fun h => h.later low), (hp23.keep (by decide)).map (fun h => h.later low), (hp24.keep (by decide)).map (fun h => h.later low), Whu.past (by rw [hsz.out]; decide), (hp32.keep (by decide)).map (fun h => h.later low), (hp73.keep (by decide)).map (fun h => h.later low)⟩
    · have e22 : z 95 = .bool true := hz 22 _ (hw 22 (by kernel_rfl)) rfl
      have e27 : z 100 = .int .i64 4 := hz 27 _ (hw 27 (by kernel_rfl)) rfl
      refine wpOp_want rfl (by simp [Region.wanted, yielded, e22]) ?_
      go_simp
      exact ⟨⟨by simp [hsz.out], hx.out.keep⟩, upd z 101 (.bool true), (by unfold Hid; simp [upd, e22, e27]), hz.next apx hsz.out 28 (by decide) _ (fun _ h => Option.some.inj h), hp0.keep (by decide), hp1.keep (by decide), hp18.keep (by decide), hp23.keep (by decide), hp24.keep (by decide), hp25.keep (by decide), hp32.keep (by decide), hp73.keep (by decide)⟩
    · have e22 : z 95 = .bool true := hz 22 _ (hw 22 (by kernel_rfl)) rfl
      have e28 : z 101 = .bool true := hz 28 _ (hw 28 (by kernel_rfl)) rfl
      refine wpOp_plain rfl rfl ?_
      go_simp
      exact ⟨⟨by simp [hsz.out], hx.out.keep⟩, upd z 102 (.bool true), (by unfold Hid; simp [upd, e22, e28]), hz.next apx hsz.out 29 (by decide) _ (fun _ h => Option.some.inj h), hp0.keep (by decide), hp1.keep (by decide), hp18.keep (by decide), hp23.keep (by decide), hp24.keep (by decide), hp25.keep (by decide), hp32.keep (by decide), hp73.keep (by decide)⟩
    · have e29 : z 102 = .bool true := hz 29 _ (hw 29 (by kernel_rfl)) rfl
      refine wpOp_plain rfl rfl ?_
      go_simp
      exact ⟨⟨by simp [hsz.out], hx.out.keep⟩, upd z 103 (.bool true), (by unfold Hid; simp [upd, e29]), hz.next apx hsz.out 30 (by decide) _ (fun _ h => Option.some.inj h), hp0.keep (by decide), hp1.keep (by decide), hp18.keep (by decide), hp23.keep (by decide), hp24.keep (by decide), hp25.keep (by decide), hp32.keep (by decide), hp73.keep (by decide)⟩
    · have e30 : z 103 = .bool true := hz 30 _ (hw 30 (by kernel_rfl)) rfl
      refine wpOp_want rfl (by simp [Region.wanted, yielded, e30]) ?_
      go_simp
      exact ⟨⟨by simp [hsz.out], hx.out.keep⟩, upd z 104 (.pointer none), (by unfold Hid; simp [upd, e30]), hz.next apx hsz.out 31 (by decide) _ (fun _ h => Option.some.inj h), hp0.keep (by decide), hp1.keep (by decide), hp18.keep (by decide), hp23.keep (by decide), hp24.keep (by decide), hp25.keep (by decide), hp32.keep (by decide), hp73.keep (by decide)⟩
    · have e30 : z 103 = .bool true := hz 30 _ (hw 30 (by kernel_rfl)) rfl
      refine wpOp_want rfl (by simp [Region.wanted, yielded, e30]) ?_
      go_simp
      go_at_call 12
      refine (lfirst_any _).mono ?_
      rintro e w9 ⟨l9, g9, rfl, ok9, low⟩
      exact ⟨⟨by simp [hsz.out], hx.out.call low⟩, upd z 105 (.agg (givC dFirst l9 g9)), (by unfold Hid; simp [upd, e30]), hz.next apx hsz.out 32 (by decide) _ (fun _ h => by cases h), (hp0.keep (by decide)).map (fun h => h.later low), (hp1.keep (by decide)).map (fun h => h.later low), (hp18.keep (by decide)).map (fun h => h.later low), (hp23.keep (by decide)).map (fun h => h.later low), (hp24.keep (by decide)).map (fun h => h.later low), (hp25.keep (by decide)).map (fun h => h.later low), Whu.done (⟨l9, g9, rfl, ok9⟩), (hp73.keep (by decide)).map (fun h => h.later low)⟩
    · have e30 : z 103 = .bool true := hz 30 _ (hw 30 (by kernel_rfl)) rfl
      have e31 : z 104 = .pointer none := hz 31 _ (hw 31 (by kernel_rfl)) rfl
      have p32 := hp32.get (hw 32 (by kernel_rfl)) hu
      obtain ⟨l9, g9, hv9, hok9⟩ := p32
      refine wpOp_want rfl (by simp [Region.wanted, yielded, e30]) ?_
      go_simp
      go_at_call 22
      refine (no_add (v := .pointer none) (.inl rfl) dFirst _ _).mono ?_
      rintro e w9 ⟨rfl, low⟩
      exact ⟨⟨by simp [hsz.out], hx.out.call low⟩, upd z 106 (.int .i64 1), (by unfold Hid; simp [upd, e30, e31, hv9]), hz.next apx hsz.out 33 (by decide) _ (fun _ h => Option.some.inj h), (hp0.keep (by decide)).map (fun h => h.later low), (hp1.keep (by decide)).map (fun h => h.later low), (hp18.keep (by decide)).map (fun h => h.later low), (hp23.keep (by decide)).map (fun h => h.later low), (hp24.keep (by decide)).map (fun h => h.later low), (hp25.keep (by decide)).map (fun h => h.later low), Whu.past (by rw [hsz.out]; decide), (hp73.keep (by decide)).map (fun h => h.later low)⟩
    · have e30 : z 103 = .bool true := hz 30 _ (hw 30 (by kernel_rfl)) rfl
      have e33 : z 106 = .int .i64 1 := hz 33 _ (hw 33 (by kernel_rfl)) rfl
      refine wpOp_want rfl (by simp [Region.wanted, yielded, e30]) ?_
      go_simp
      exact ⟨⟨by simp [hsz.out], hx.out.keep⟩, upd z 107 (.bool true), (by unfold Hid; simp [upd, e30, e33]), hz.next apx hsz.out 34 (by decide) _ (fun _ h => Option.some.inj h), hp0.keep (by decide), hp1.keep (by decide), hp18.keep (by decide), hp23.keep (by decide), hp24.keep (by decide), hp25.keep (by decide), hp32.keep (by decide), hp73.keep (by decide)⟩
    · have e30 : z 103 = .bool true := hz 30 _ (hw 30 (by kernel_rfl)) rfl
      have e34 : z 107 = .bool true := hz 34 _ (hw 34 (by kernel_rfl)) rfl
      refine wpOp_plain rfl rfl ?_
      go_simp
      exact ⟨⟨by simp [hsz.out], hx.out.keep⟩, upd z 108 (.bool true), (by unfold Hid; simp [upd, e30, e34]), hz.next apx hsz.out 35 (by decide) _ (fun _ h => Option.some.inj h), hp0.keep (by decide), hp1.keep (by decide), hp18.keep (by decide), hp23.keep (by decide), hp24.keep (by decide), hp25.keep (by decide), hp32.keep (by decide), hp73.keep (by decide)⟩
    · have e35 : z 108 = .bool true := hz 35 _ (hw 35 (by kernel_rfl)) rfl
      refine wpOp_plain rfl rfl ?_
      go_simp
      exact ⟨⟨by simp [hsz.out], hx.out.keep⟩, upd z 109 (.bool true), (by unfold Hid; simp [upd, e35]), hz.next apx hsz.out 36 (by decide) _ (fun _ h => Option.some.inj h), hp0.keep (by decide), hp1.keep (by decide), hp18.keep (by decide), hp23.keep (by decide), hp24.keep (by decide), hp25.keep (by decide), hp32.keep (by decide), hp73.keep (by decide)⟩
    · have e36 : z 109 = .bool true := hz 36 _ (hw 36 (by kernel_rfl)) rfl
      refine wpOp_want rfl (by simp [Region.wanted, yielded, e36]) ?_
      go_simp
      exact ⟨⟨by simp [hsz.out], hx.out.keep⟩, upd z 110 (.pointer (some ⟨zb, 0, none⟩)), (by unfold Hid; simp [upd, e36]), hz.next apx hsz.out 37 (by decide) _ (fun _ h => Option.some.inj h), hp0.keep (by decide), hp1.keep (by decide), hp18.keep (by decide), hp23.keep (by decide), hp24.keep (by decide), hp25.keep (by decide), hp32.keep (by decide), hp73.keep (by decide)⟩
    · have e36 : z 109 = .bool true := hz 36 _ (hw 36 (by kernel_rfl)) rfl
      refine wpOp_want rfl (by simp [Region.wanted, yielded, e36]) ?_
      go_simp
      exact ⟨⟨by simp [hsz.out], hx.out.keep⟩, upd z 111 (.agg (hsC z32)), (by unfold Hid; simp [upd, e36]), hz.next apx hsz.out 38 (by decide) _ (fun _ h => Option.some.inj h), hp0.keep (by decide), hp1.keep (by decide), hp18.keep (by decide), hp23.keep (by decide), hp24.keep (by decide), hp25.keep (by decide), hp32.keep (by decide), hp73.keep (by decide)⟩
    · have e36 : z 109 = .bool true := hz 36 _ (hw 36 (by kernel_rfl)) rfl
      have e37 : z 110 = .pointer (some ⟨zb, 0, none⟩) := hz 37 _ (hw 37 (by kernel_rfl)) rfl
      have e38 : z 111 = .agg (hsC z32) := hz 38 _ (hw 38 (by kernel_rfl)) rfl
      have hs := hx.out.bef (not_listed (fun hq => hcl 42 39 (hcl 51 42 (hcl 52 51 (hcl 57 52 (hcl 58 57 (hcl 64 58 (hcl 65 64 (hcl 69 65 (hcl 70 69 (hcl 73 70 (hq) (by kernel_rfl)) (by kernel_rfl)) (by kernel_rfl)) (by kernel_rfl)) (by kernel_rfl)) (by kernel_rfl)) (by kernel_rfl)) (by kernel_rfl)) (by kernel_rfl)) (by kernel_rfl)) hu)
      refine wpOp_want rfl (by simp [Region.wanted, yielded, e36]) ?_
      go_simp
      go_at_call 23
      refine (no_remove (HZ.out.below hs) _ _).mono ?_
      rintro e w9 ⟨rfl, low⟩
      exact ⟨⟨by simp [hsz.out], hx.out.call low⟩, upd z 112 (.int .i64 1), (by unfold Hid; simp [upd, e36, e37, e38]), hz.next apx hsz.out 39 (by decide) _ (fun _ h => Option.some.inj h), (hp0.keep (by decide)).map (fun h => h.later low), (hp1.keep (by decide)).map (fun h => h.later low), (hp18.keep (by decide)).map (fun h => h.later low), (hp23.keep (by decide)).map (fun h => h.later low), (hp24.keep (by decide)).map (fun h => h.later low), (hp25.keep (by decide)).map (fun h => h.later low), (hp32.keep (by decide)).map (fun h => h.later low), (hp73.keep (by decide)).map (fun h => h.later low)⟩
    · have e36 : z 109 = .bool true := hz 36 _ (hw 36 (by kernel_rfl)) rfl
      have e39 : z 112 = .int .i64 1 := hz 39 _ (hw 39 (by kernel_rfl)) rfl
      refine wpOp_want rfl (by simp [Region.wanted, yielded, e36]) ?_
      go_simp
      exact ⟨⟨by simp [hsz.out], hx.out.keep⟩, upd z 113 (.bool true), (by unfold Hid; simp [upd, e36, e39]), hz.next apx hsz.out 40 (by decide) _ (fun _ h => Option.some.inj h), hp0.keep (by decide), hp1.keep (by decide), hp18.keep (by decide), hp23.keep (by decide), hp24.keep (by decide), hp25.keep (by decide), hp32.keep (by decide), hp73.keep (by decide)⟩
    · have e36 : z 109 = .bool true := hz 36 _ (hw 36 (by kernel_rfl)) rfl
      have e40 : z 113 = .bool true := hz 40 _ (hw 40 (by kernel_rfl)) rfl
      refine wpOp_plain rfl rfl ?_
      go_simp
      exact ⟨⟨by simp [hsz.out], hx.out.keep⟩, upd z 114 (.bool true), (by unfold Hid; simp [upd, e36, e40]), hz.next apx hsz.out 41 (by decide) _ (fun _ h => Option.some.inj h), hp0.keep (by decide), hp1.keep (by decide), hp18.keep (by decide), hp23.keep (by decide), hp24.keep (by decide), hp25.keep (by decide), hp32.keep (by decide), hp73.keep (by decide)⟩
    · have e41 : z 114 = .bool true := hz 41 _ (hw 41 (by kernel_rfl)) rfl
      refine wpOp_plain rfl rfl ?_
      go_simp
      exact ⟨⟨by simp [hsz.out], hx.out.keep⟩, upd z 115 (.bool true), (by unfold Hid; simp [upd, e41]), hz.next apx hsz.out 42 (by decide) _ (fun _ h => Option.some.inj h), hp0.keep (by decide), hp1.keep (by decide), hp18.keep (by decide), hp23.keep (by decide), hp24.keep (by decide), hp25.keep (by decide), hp32.keep (by decide), hp73.keep (by decide)⟩
    · have e42 : z 115 = .bool true := hz 42 _ (hw 42 (by kernel_rfl)) rfl
      refine wpOp_want rfl (by simp [Region.wanted, yielded, e42]) ?_
      go_simp
      exact ⟨⟨by simp [hsz.out], hx.out.keep⟩, upd z 116 (.pointer none), (by unfold Hid; simp [upd, e42]), hz.next apx hsz.out 43 (by decide) _ (fun _ h => Option.some.inj h), hp0.keep (by decide), hp1.keep (by decide), hp18.keep (by decide), hp23.keep (by decide), hp24.keep (by decide), hp25.keep (by decide), hp32.keep (by decide), hp73.keep (by decide)⟩
    · have e42 : z 115 = .bool true := hz 42 _ (hw 42 (by kernel_rfl)) rfl
      have e43 : z 116 = .pointer none := hz 43 _ (hw 43 (by kernel_rfl)) rfl
      refine wpOp_want rfl (by simp [Region.wanted, yielded, e42]) ?_
      go_simp
      go_at_call 24
      refine (no_lines (v := .pointer none) (.inl rfl)).mono ?_
      rintro e w9 ⟨rfl, m, hm⟩
      have low := drew_below wx m
      rw [← hm] at low
      exact ⟨⟨by simp [hsz.out], hx.out.call low⟩, upd z 117 (nils), (by unfold Hid; simp [upd, e42, e43]), hz.next apx hsz.out 44 (by decide) _ (fun _ h => Option.some.inj h), (hp0.keep (by decide)).map (fun h => h.later low), (hp1.keep (by decide)).map (fun h => h.later low), (hp18.keep (by decide)).map (fun h => h.later low), (hp23.keep (by decide)).map (fun h => h.later low), (hp24.keep (by decide)).map (fun h => h.later low), (hp25.keep (by decide)).map (fun h => h.later low), (hp32.keep (by decide)).map (fun h => h.later low), (hp73.keep (by decide)).map (fun h => h.later low)⟩
    · have e42 : z 115 = .bool true := hz 42 _ (hw 42 (by kernel_rfl)) rfl
      have e44 : z 117 = nils := hz 44 _ (hw 44 (by kernel_rfl)) rfl
      refine wpOp_want rfl (by simp [Region.wanted, yielded, e42]) ?_
      go_simp
      exact ⟨⟨by simp [hsz.out], hx.out.keep⟩, upd z 118 (.int .i64 0), (by unfold Hid; simp [upd, e42, e44]), hz.next apx hsz.out 45 (by decide) _ (fun _ h => Option.some.inj h), hp0.keep (by decide), hp1.keep (by decide), hp18.keep (by decide), hp23.keep (by decide), hp24.keep (by decide), hp25.keep (by decide), hp32.keep (by decide), hp73.keep (by decide)⟩
    · have e42 : z 115 = .bool true := hz 42 _ (hw 42 (by kernel_rfl)) rfl
      refine wpOp_want rfl (by simp [Region.wanted, yielded, e42]) ?_
      go_simp
      exact ⟨⟨by simp [hsz.out], hx.out.keep⟩, upd z 119 (.pointer (some ⟨zb, 0, none⟩)), (by unfold Hid; simp [upd, e42]), hz.next apx hsz.out 46 (by decide) _ (fun _ h => Option.some.inj h), hp0.keep (by decide), hp1.keep (by decide), hp18.keep (by decide), hp23.keep (by decide), hp24.keep (by decide), hp25.keep (by decide), hp32.keep (by decide), hp73.keep (by decide)⟩
    · have e42 : z 115 = .bool true := hz 42 _ (hw 42 (by kernel_rfl)) rfl
      have e46 : z 119 = .pointer (some ⟨zb, 0, none⟩) := hz 46 _ (hw 46 (by kernel_rfl)) rfl
      have hs := hx.out.bef (not_listed (fun hq => hcl 52 47 (hcl 57 52 (hcl 58 57 (hcl 64 58 (hcl 65 64 (hcl 69 65 (hcl 70 69 (hcl 73 70 (hq) (by kernel_rfl)) (by kernel_rfl)) (by kernel_rfl)) (by kernel_rfl)) (by kernel_rfl)) (by kernel_rfl)) (by kernel_rfl)) (by kernel_rfl)) hu)
      refine wpOp_want rfl (by simp [Region.wanted, yielded, e42]) ?_
      go_simp
      go_at_call 24
      refine (no_lines (HZ.out.below hs)).mono ?_
      rintro e w9 ⟨rfl, m, hm⟩
      have low := drew_below wx m
      rw [← hm] at low
      exact ⟨⟨by simp [hsz.out], hx.out.call low⟩, upd z 120 (nils), (by unfold Hid; simp [upd, e42, e46]), hz.next apx hsz.out 47 (by decide) _ (fun _ h => Option.some.inj h), (hp0.keep (by decide)).map (fun h => h.later low), (hp1.keep (by decide)).map (fun h => h.later low), (hp18.keep (by decide)).map (fun h => h.later low), (hp23.keep (by decide)).map (fun h => h.later low), (hp24.keep (by decide)).map (fun h => h.later low), (hp25.keep (by decide)).map (fun h => h.later low), (hp32.keep (by decide)).map (fun h => h.later low), (hp73.keep (by decide)).map (fun h => h.later low)⟩
    · have e42 : z 115 = .bool true := hz 42 _ (hw 42 (by kernel_rfl)) rfl
      have e47 : z 120 = nils := hz 47 _ (hw 47 (by kernel_rfl)) rfl
      refine wpOp_want rfl (by simp [Region.wanted, yielded, e42]) ?_
      go_simp
      exact ⟨⟨by simp [hsz.out], hx.out.keep⟩, upd z 121 (.int .i64 0), (by unfold Hid; simp [upd, e42, e47]), hz.next apx hsz.out 48 (by decide) _ (fun _ h => Option.some.inj h), hp0.keep (by decide), hp1.keep (by decide), hp18.keep (by decide), hp23.keep (by decide), hp24.keep (by decide), hp25.keep (by decide), hp32.keep (by decide), hp73.keep (by decide)⟩
    · have e42 : z 115 = .bool true := hz 42 _ (hw 42 (by kernel_rfl)) rfl
      have e45 : z 118 = .int .i64 0 := hz 45 _ (hw 45 (by kernel_rfl)) rfl
      have e48 : z 121 = .int .i64 0 := hz 48 _ (hw 48 (by kernel_rfl)) rfl
      refine wpOp_want rfl (by simp [Region.wanted, yielded, e42]) ?_
      go_simp
      exact ⟨⟨by simp [hsz.out], hx.out.keep⟩, upd z 122 (.int .i64 0), (by unfold Hid; simp [upd, e42, e45, e48, show IntKind.i64.wrap 0 = 0 from rfl]), hz.next apx hsz.out 49 (by decide) _ (fun _ h => Option.some.inj h), hp0.keep (by decide), hp1.keep (by decide), hp18.keep (by decide), hp23.keep (by decide), hp24.keep (by decide), hp25.keep (by decide), hp32.keep (by decide), hp73.keep (by decide)⟩
    · have e42 : z 115 = .bool true := hz 42 _ (hw 42 (by kernel_rfl)) rfl
      have e49 : z 122 = .int .i64 0 := hz 49 _ (hw 49 (by kernel_rfl)) rfl
      refine wpOp_want rfl (by simp [Region.wanted, yielded, e42]) ?_
      go_simp
      exact ⟨⟨by simp [hsz.out], hx.out.keep⟩, upd z 123 (.bool true), (by unfold Hid; simp [upd, e42, e49]), hz.next apx hsz.out 50 (by decide) _ (fun _ h => Option.some.inj h), hp0.keep (by decide), hp1.keep (by decide), hp18.keep (by decide), hp23.keep (by decide), hp24.keep (by decide), hp25.keep (by decide), hp32.keep (by decide), hp73.keep (by decide)⟩
    · have e42 : z 115 = .bool true := hz 42 _ (hw 42 (by kernel_rfl)) rfl
      have e50 : z 123 = .bool true := hz 50 _ (hw 50 (by kernel_rfl)) rfl
      refine wpOp_plain rfl rfl ?_
      go_simp
      exact ⟨⟨by simp [hsz.out], hx.out.keep⟩, upd z 124 (.bool true), (by unfold Hid; simp [upd, e42, e50]), hz.next apx hsz.out 51 (by decide) _ (fun _ h => Option.some.inj h), hp0.keep (by decide), hp1.keep (by decide), hp18.keep (by decide), hp23.keep (by decide), hp24.keep (by decide), hp25.keep (by decide), hp32.keep (by decide), hp73.keep (by decide)⟩
    · have e51 : z 124 = .bool true := hz 51 _ (hw 51 (by kernel_rfl)) rfl
      refine wpOp_plain rfl rfl ?_
      go_simp
      exact ⟨⟨by simp [hsz.out], hx.out.keep⟩, upd z 125 (.bool true), (by unfold Hid; simp [upd, e51]), hz.next apx hsz.out 52 (by decide) _ (fun _ h => Option.some.inj h), hp0.keep (by decide), hp1.keep (by decide), hp18.keep (by decide), hp23.keep (by decide), hp24.keep (by decide), hp25.keep (by decide), hp32.keep (by decide), hp73.keep (by decide)⟩
    · have e52 : z 125 = .bool true := hz 52 _ (hw 52 (by kernel_rfl)) rfl
      refine wpOp_want rfl (by simp [Region.wanted, yielded, e52]) ?_
      go_simp
      exact ⟨⟨by simp [hsz.out], hx.out.keep⟩, upd z 126 (.pointer none), (by unfold Hid; simp [upd, e52]), hz.next apx hsz.out 53 (by decide) _ (fun _ h => Option.some.inj h), hp0.keep (by decide), hp1.keep (by decide), hp18.keep (by decide), hp23.keep (by decide), hp24.keep (by decide), hp25.keep (by decide), hp32.keep (by decide), hp73.keep (by decide)⟩
    · have e52 : z 125 = .bool true := hz 52 _ (hw 52 (by kernel_rfl)) rfl
      refine wpOp_want rfl (by simp [Region.wanted, yielded, e52]) ?_
      go_simp
      go_at_call 19
      refine (lroot_any _).mono ?_
      rintro e w9 ⟨rfl, low⟩
      exact ⟨⟨by simp [hsz.out], hx.out.call low⟩, upd z 127 (.agg root.c), (by unfold Hid; simp [upd, e52]), hz.next apx hsz.out 54 (by decide) _ (fun _ h => Option.some.inj h), (hp0.keep (by decide)).map (fun h => h.later low), (hp1.keep (by decide)).map (fun h => h.later low), (hp18.keep (by decide)).map (fun h => h.later low), (hp23.keep (by decide)).map (fun h => h.later low), (hp24.keep (by decide)).map (fun h => h.later low), (hp25.keep (by decide)).map (fun h => h.later low), (hp32.keep (by decide)).map (fun h => h.later low), (hp73.keep (by decide)).map (fun h => h.later low)⟩
    · have e52 : z 125 = .bool true := hz 52 _ (hw 52 (by kernel_rfl)) rfl
      have e53 : z 126 = .pointer none := hz 53 _ (hw 53 (by kernel_rfl)) rfl
      have e54 : z 127 = .agg root.c := hz 54 _ (hw 54 (by kernel_rfl)) rfl
      refine wpOp_want rfl (by simp [Region.wanted, yielded, e52]) ?_
      go_simp
      go_at_call 25
      refine (no_has (v := .pointer none) (.inl rfl) root).mono ?_
      rintro e w9 ⟨rfl, low⟩
      exact ⟨⟨by simp [hsz.out], hx.out.call low⟩, upd z 128 (.bool false), (by unfold Hid; simp [upd, e52, e53, e54]), hz.next apx hsz.out 55 (by decide) _ (fun _ h => Option.some.inj h), (hp0.keep (by decide)).map (fun h => h.later low), (hp1.keep (by decide)).map (fun h => h.later low), (hp18.keep (by decide)).map (fun h => h.later low), (hp23.keep (by decide)).map (fun h => h.later low), (hp24.keep (by decide)).map (fun h => h.later low), (hp25.keep (by decide)).map (fun h => h.later low), (hp32.keep (by decide)).map (fun h => h.later low), (hp73.keep (by decide)).map (fun h => h.later low)⟩
    · have e52 : z 125 = .bool true := hz 52 _ (hw 52 (by kernel_rfl)) rfl
      have e55 : z 128 = .bool false := hz 55 _ (hw 55 (by kernel_rfl)) rfl
      refine wpOp_want rfl (by simp [Region.wanted, yielded, e52]) ?_
      go_simp
      exact ⟨⟨by simp [hsz.out], hx.out.keep⟩, upd z 129 (.bool true), (by unfold Hid; simp [upd, e52, e55]), hz.next apx hsz.out 56 (by decide) _ (fun _ h => Option.some.inj h), hp0.keep (by decide), hp1.keep (by decide), hp18.keep (by decide), hp23.keep (by decide), hp24.keep (by decide), hp25.keep (by decide), hp32.keep (by decide), hp73.keep (by decide)⟩
    · have e52 : z 125 = .bool true := hz 52 _ (hw 52 (by kernel_rfl)) rfl
      have e56 : z 129 = .bool true := hz 56 _ (hw 56 (by kernel_rfl)) rfl
      refine wpOp_plain rfl rfl ?_
      go_simp
      exact ⟨⟨by simp [hsz.out], hx.out.keep⟩, upd z 130 (.bool true), (by unfold Hid; simp [upd, e52, e56]), hz.next apx hsz.out 57 (by decide) _ (fun _ h => Option.some.inj h), hp0.keep (by decide), hp1.keep (by decide), hp18.keep (by decide), hp23.keep (by decide), hp24.keep (by decide), hp25.keep (by decide), hp32.keep (by decide), hp73.keep (by decide)⟩
    · have e57 : z 130 = .bool true := hz 57 _ (hw 57 (by kernel_rfl)) rfl
      refine wpOp_plain rfl rfl ?_
      go_simp
      exact ⟨⟨by simp [hsz.out], hx.out.keep⟩, upd z 131 (.bool true), (by unfold Hid; simp [upd, e57]), hz.next apx hsz.out 58 (by decide) _ (fun _ h => Option.some.inj h), hp0.keep (by decide), hp1.keep (by decide), hp18.keep (by decide), hp23.keep (by decide), hp24.keep (by decide), hp25.keep (by decide), hp32.keep (by decide), hp73.keep (by decide)⟩
    · have e58 : z 131 = .bool true := hz 58 _ (hw 58 (by kernel_rfl)) rfl
      refine wpOp_want rfl (by simp [Region.wanted, yielded, e58]) ?_
      go_simp
      exact ⟨⟨by simp [hsz.out], hx.out.keep⟩, upd z 132 (.pointer (some ⟨zb, 0, none⟩)), (by unfold Hid; simp [upd, e58]), hz.next apx hsz.out 59 (by decide) _ (fun _ h => Option.some.inj h), hp0.keep (by decide), hp1.keep (by decide), hp18.keep (by decide), hp23.keep (by decide), hp24.keep (by decide), hp25.keep (by decide), hp32.keep (by decide), hp73.keep (by decide)⟩
    · have e58 : z 131 = .bool true := hz 58 _ (hw 58 (by kernel_rfl)) rfl
      refine wpOp_want rfl (by simp [Region.wanted, yielded, e58]) ?_
      go_simp
      go_at_call 19
      refine (lroot_any _).mono ?_
      rintro e w9 ⟨rfl, low⟩
      exact ⟨⟨by simp [hsz.out], hx.out.call low⟩, upd z 133 (.agg root.c), (by unfold Hid; simp [upd, e58]), hz.next apx hsz.out 60 (by decide) _ (fun _ h => Option.some.inj h), (hp0.keep (by decide)).map (fun h => h.later low), (hp1.keep (by decide)).map (fun h => h.later low), (hp18.keep (by decide)).map (fun h => h.later low), (hp23.keep (by decide)).map (fun h => h.later low), (hp24.keep (by decide)).map (fun h => h.later low), (hp25.keep (by decide)).map (fun h => h.later low), (hp32.keep (by decide)).map (fun h => h.later low), (hp73.keep (by decide)).map (fun h => h.later low)⟩
    · have e58 : z 131 = .bool true := hz 58 _ (hw 58 (by kernel_rfl)) rfl
      refine wpOp_want rfl (by simp [Region.wanted, yielded, e58]) ?_
      go_simp
      go_at_call 20
      refine (lend_any _).mono ?_
      rintro e w9 ⟨rfl, low⟩
      exact ⟨⟨by simp [hsz.out], hx.out.call low⟩, upd z 134 (.agg fin.c), (by unfold Hid; simp [upd, e58]), hz.next apx hsz.out 61 (by decide) _ (fun _ h => Option.some.inj h), (hp0.keep (by decide)).map (fun h => h.later low), (hp1.keep (by decide)).map (fun h => h.later low), (hp18.keep (by decide)).map (fun h => h.later low), (hp23.keep (by decide)).map (fun h => h.later low), (hp24.keep (by decide)).map (fun h => h.later low), (hp25.keep (by decide)).map (fun h => h.later low), (hp32.keep (by decide)).map (fun h => h.later low), (hp73.keep (by decide)).map (fun h => h.later low)⟩
    · have e58 : z 131 = .bool true := hz 58 _ (hw 58 (by kernel_rfl)) rfl
      have e59 : z 132 = .pointer (some ⟨zb, 0, none⟩) := hz 59 _ (hw 59 (by kernel_rfl)) rfl
      have e60 : z 133 = .agg root.c := hz 60 _ (hw 60 (by kernel_rfl)) rfl
      have e61 : z 134 = .agg fin.c := hz 61 _ (hw 61 (by kernel_rfl)) rfl
      have hs := hx.out.bef (not_listed (fun hq => hcl 65 62 (hcl 69 65 (hcl 70 69 (hcl 73 70 (hq) (by kernel_rfl)) (by kernel_rfl)) (by kernel_rfl)) (by kernel_rfl)) hu)
      refine wpOp_want rfl (by simp [Region.wanted, yielded, e58]) ?_
      go_simp
      go_at_call 18
      refine (no_before (HZ.out.below hs) root fin).mono ?_
      rintro e w9 ⟨rfl, low⟩
      exact ⟨⟨by simp [hsz.out], hx.out.call low⟩, upd z 135 (.bool false), (by unfold Hid; simp [upd, e58, e59, e60, e61]), hz.next apx hsz.out 62 (by decide) _ (fun _ h => Option.some.inj h), (hp0.keep (by decide)).map (fun h => h.later low), (hp1.keep (by decide)).map (fun h => h.later low), (hp18.keep (by decide)).map (fun h => h.later low), (hp23.keep (by decide)).map (fun h => h.later low), (hp24.keep (by decide)).map (fun h => h.later low), (hp25.keep (by decide)).map (fun h => h.later low), (hp32.keep (by decide)).map (fun h => h.later low), (hp73.keep (by decide)).map (fun h => h.later low)⟩
    · have e58 : z 131 = .bool true := hz 58 _ (hw 58 (by kernel_rfl)) rfl
      have e62 : z 135 = .bool false := hz 62 _ (hw 62 (by kernel_rfl)) rfl
      refine wpOp_want rfl (by simp [Region.wanted, yielded, e58]) ?_
      go_simp
      exact ⟨⟨by simp [hsz.out], hx.out.keep⟩, upd z 136 (.bool true), (by unfold Hid; simp [upd, e58, e62]), hz.next apx hsz.out 63 (by decide) _ (fun _ h => Option.some.inj h), hp0.keep (by decide), hp1.keep (by decide), hp18.keep (by decide), hp23.keep (by decide), hp24.keep (by decide), hp25.keep (by decide), hp32.keep (by decide), hp73.keep (by decide)⟩
    · have e58 : z 131 = .bool true := hz 58 _ (hw 58 (by kernel_rfl)) rfl
      have e63 : z 136 = .bool true := hz 63 _ (hw 63 (by kernel_rfl)) rfl
      refine wpOp_plain rfl rfl ?_
      go_simp
      exact ⟨⟨by simp [hsz.out], hx.out.keep⟩, upd z 137 (.bool true), (by unfold Hid; simp [upd, e58, e63]), hz.next apx hsz.out 64 (by decide) _ (fun _ h => Option.some.inj h), hp0.keep (by decide), hp1.keep (by decide), hp18.keep (by decide), hp23.keep (by decide), hp24.keep (by decide), hp25.keep (by decide), hp32.keep (by decide), hp73.keep (by decide)⟩
    · have e64 : z 137 = .bool true := hz 64 _ (hw 64 (by kernel_rfl)) rfl
      refine wpOp_plain rfl rfl ?_
      go_simp
      exact ⟨⟨by simp [hsz.out], hx.out.keep⟩, upd z 138 (.bool true), (by unfold Hid; simp [upd, e64]), hz.next apx hsz.out 65 (by decide) _ (fun _ h => Option.some.inj h), hp0.keep (by decide), hp1.keep (by decide), hp18.keep (by decide), hp23.keep (by decide), hp24.keep (by decide), hp25.keep (by decide), hp32.keep (by decide), hp73.keep (by decide)⟩
    · have e65 : z 138 = .bool true := hz 65 _ (hw 65 (by kernel_rfl)) rfl
      refine wpOp_want rfl (by simp [Region.wanted, yielded, e65]) ?_
      go_simp
      exact ⟨⟨by simp [hsz.out], hx.out.keep⟩, upd z 139 (.pointer none), (by unfold Hid; simp [upd, e65]), hz.next apx hsz.out 66 (by decide) _ (fun _ h => Option.some.inj h), hp0.keep (by decide), hp1.keep (by decide), hp18.keep (by decide), hp23.keep (by decide), hp24.keep (by decide), hp25.keep (by decide), hp32.keep (by decide), hp73.keep (by decide)⟩
    · have e65 : z 138 = .bool true := hz 65 _ (hw 65 (by kernel_rfl)) rfl
      have e66 : z 139 = .pointer none := hz 66 _ (hw 66 (by kernel_rfl)) rfl
      refine wpOp_want rfl (by simp [Region.wanted, yielded, e65]) ?_
      go_simp
      go_at_call 26
      refine (no_copy (v := .pointer none) (.inl rfl)).mono ?_
      rintro e w9 ⟨rfl, m, hm⟩
      have low := drew_below wx m
      rw [← hm] at low
      exact ⟨⟨by simp [hsz.out], hx.out.call low⟩, upd z 140 (.pointer none), (by unfold Hid; simp [upd, e65, e66]), hz.next apx hsz.out 67 (by decide) _ (fun _ h => Option.some.inj h), (hp0.keep (by decide)).map (fun h => h.later low), (hp1.keep (by decide)).map (fun h => h.later low), (hp18.keep (by decide)).map (fun h => h.later low), (hp23.keep (by decide)).map (fun h => h.later low), (hp24.keep (by decide)).map (fun h => h.later low), (hp25.keep (by decide)).map (fun h => h.later low), (hp32.keep (by decide)).map (fun h => h.later low), (hp73.keep (by decide)).map (fun h => h.later low)⟩
    · have e65 : z 138 = .bool true := hz 65 _ (hw 65 (by kernel_rfl)) rfl
      have e67 : z 140 = .pointer none := hz 67 _ (hw 67 (by kernel_rfl)) rfl
      refine wpOp_want rfl (by simp [Region.wanted, yielded, e65]) ?_
      go_simp
      exact ⟨⟨by simp [hsz.out], hx.out.keep⟩, upd z 141 (.bool true), (by unfold Hid; simp [upd, e65, e67]), hz.next apx hsz.out 68 (by decide) _ (fun _ h => Option.some.inj h), hp0.keep (by decide), hp1.keep (by decide), hp18.keep (by decide), hp23.keep (by decide), hp24.keep (by decide), hp25.keep (by decide), hp32.keep (by decide), hp73.keep (by decide)⟩
    · have e65 : z 138 = .bool true := hz 65 _ (hw 65 (by kernel_rfl)) rfl
      have e68 : z 141 = .bool true := hz 68 _ (hw 68 (by kernel_rfl)) rfl
      refine wpOp_plain rfl rfl ?_
      go_simp
      exact ⟨⟨by simp [hsz.out], hx.out.keep⟩, upd z 142 (.bool true), (by unfold Hid; simp [upd, e65, e68]), hz.next apx hsz.out 69 (by decide) _ (fun _ h => Option.some.inj h), hp0.keep (by decide), hp1.keep (by decide), hp18.keep (by decide), hp23.keep (by decide), hp24.keep (by decide), hp25.keep (by decide), hp32.keep (by decide), hp73.keep (by decide)⟩
    · have e69 : z 142 = .bool true := hz 69 _ (hw 69 (by kernel_rfl)) rfl
      refine wpOp_plain rfl rfl ?_
      go_simp
      exact ⟨⟨by simp [hsz.out], hx.out.keep⟩, upd z 143 (.bool true), (by unfold Hid; simp [upd, e69]), hz.next apx hsz.out 70 (by decide) _ (fun _ h => Option.some.inj h), hp0.keep (by decide), hp1.keep (by decide), hp18.keep (by decide), hp23.keep (by decide), hp24.keep (by decide), hp25.keep (by decide), hp32.keep (by decide), hp73.keep (by decide)⟩
    · have e70 : z 143 = .bool true := hz 70 _ (hw 70 (by kernel_rfl)) rfl
      refine wpOp_want rfl (by simp [Region.wanted, yielded, e70]) ?_
      go_simp
      exact ⟨⟨by simp [hsz.out], hx.out.keep⟩, upd z 144 (ptr S1.g), (by unfold Hid; simp [upd, e70]), hz.next apx hsz.out 71 (by decide) _ (fun _ h => Option.some.inj h), hp0.keep (by decide), hp1.keep (by decide), hp18.keep (by decide), hp23.keep (by decide), hp24.keep (by decide), hp25.keep (by decide), hp32.keep (by decide), hp73.keep (by decide)⟩
    · have e70 : z 143 = .bool true := hz 70 _ (hw 70 (by kernel_rfl)) rfl
      refine wpOp_want rfl (by simp [Region.wanted, yielded, e70]) ?_
      go_simp
      exact ⟨⟨by simp [hsz.out], hx.out.keep⟩, upd z 145 (.agg (hsC (hb 3))), (by unfold Hid; simp [upd, e70]), hz.next apx hsz.out 72 (by decide) _ (fun _ h => Option.some.inj h), hp0.keep (by decide), hp1.keep (by decide), hp18.keep (by decide), hp23.keep (by decide), hp24.keep (by decide), hp25.keep (by decide), hp32.keep (by decide), hp73.keep (by decide)⟩
    · have e70 : z 143 = .bool true := hz 70 _ (hw 70 (by kernel_rfl)) rfl
      have e71 : z 144 = ptr S1.g := hz 71 _ (hw 71 (by kernel_rfl)) rfl
      have e72 : z 145 = .agg (hsC (hb 3)) := hz 72 _ (hw 72 (by kernel_rfl)) rfl
      have hs := hx.out.bef hu
      refine wpOp_want rfl (by simp [Region.wanted, yielded, e70]) ?_
      go_simp
      go_at_call 23
      refine (rem_3 (by omega) (F1.out.below hs) Hps1.out).mono ?_
      rintro e w9 ⟨rfl, S4, hg4, hps4, hgx4, u9, hu9, hc9⟩
      have hlw := hc9.below (hx.out.all.trans (hu9.mono hx.out.all.size)) (Nat.le_trans hx.out.all.size hu9.size) (fun k hk => Nat.le_trans Hs3.out (Hblk1.out k hk))
      exact ⟨⟨by simp [hsz.out], RelK.past (by rw [hsz.out]; decide) hlw⟩, upd z 146 (.int .i64 0), (by unfold Hid; simp [upd, e70, e71, e72]), hz.next apx hsz.out 73 (by decide) _ (fun _ h => Option.some.inj h), Whu.gone (hcl 4 2 (hcl 9 4 (hcl 10 9 (hcl 15 10 (hcl 16 15 (hcl 21 16 (hcl 22 21 (hcl 29 22 (hcl 30 29 (hcl 35 30 (hcl 36 35 (hcl 41 36 (hcl 42 41 (hcl 51 42 (hcl 52 51 (hcl 57 52 (hcl 58 57 (hcl 64 58 (hcl 65 64 (hcl 69 65 (hcl 70 69 (hw 70 (by kernel_rfl)) (by kernel_rfl)) (by kernel_rfl)) (by kernel_rfl)) (by kernel_rfl)) (by kernel_rfl)) (by kernel_rfl)) (by kernel_rfl)) (by kernel_rfl)) (by kernel_rfl)) (by kernel_rfl)) (by kernel_rfl)) (by kernel_rfl)) (by kernel_rfl)) (by kernel_rfl)) (by kernel_rfl)) (by kernel_rfl)) (by kernel_rfl)) (by kernel_rfl)) (by kernel_rfl)) (by kernel_rfl)) (by kernel_rfl)), Whu.gone (hcl 4 2 (hcl 9 4 (hcl 10 9 (hcl 15 10 (hcl 16 15 (hcl 21 16 (hcl 22 21 (hcl 29 22 (hcl 30 29 (hcl 35 30 (hcl 36 35 (hcl 41 36 (hcl 42 41 (hcl 51 42 (hcl 52 51 (hcl 57 52 (hcl 58 57 (hcl 64 58 (hcl 65 64 (hcl 69 65 (hcl 70 69 (hw 70 (by kernel_rfl)) (by kernel_rfl)) (by kernel_rfl)) (by kernel_rfl)) (by kernel_rfl)) (by kernel_rfl)) (by kernel_rfl)) (by kernel_rfl)) (by kernel_rfl)) (by kernel_rfl)) (by kernel_rfl)) (by kernel_rfl)) (by kernel_rfl)) (by kernel_rfl)) (by kernel_rfl)) (by kernel_rfl)) (by kernel_rfl)) (by kernel_rfl)) (by kernel_rfl)) (by kernel_rfl)) (by kernel_rfl)) (by kernel_rfl)), Whu.gone (hcl 22 19 (hcl 29 22 (hcl 30 29 (hcl 35 30 (hcl 36 35 (hcl 41 36 (hcl 42 41 (hcl 51 42 (hcl 52 51 (hcl 57 52 (hcl 58 57 (hcl 64 58 (hcl 65 64 (hcl 69 65 (hcl 70 69 (hw 70 (by kernel_rfl)) (by kernel_rfl)) (by kernel_rfl)) (by kernel_rfl)) (by kernel_rfl)) (by kernel_rfl)) (by kernel_rfl)) (by kernel_rfl)) (by kernel_rfl)) (by kernel_rfl)) (by kernel_rfl)) (by kernel_rfl)) (by kernel_rfl)) (by kernel_rfl)) (by kernel_rfl)) (by kernel_rfl)), Whu.gone (hcl 25 24 (hcl 27 25 (hcl 30 27 (hcl 35 30 (hcl 36 35 (hcl 41 36 (hcl 42 41 (hcl 51 42 (hcl 52 51 (hcl 57 52 (hcl 58 57 (hcl 64 58 (hcl 65 64 (hcl 69 65 (hcl 70 69 (hw 70 (by kernel_rfl)) (by kernel_rfl)) (by kernel_rfl)) (by kernel_rfl)) (by kernel_rfl)) (by kernel_rfl)) (by kernel_rfl)) (by kernel_rfl)) (by kernel_rfl)) (by kernel_rfl)) (by kernel_rfl)) (by kernel_rfl)) (by kernel_rfl)) (by kernel_rfl)) (by kernel_rfl)) (by kernel_rfl)), Whu.gone (hcl 27 25 (hcl 30 27 (hcl 35 30 (hcl 36 35 (hcl 41 36 (hcl 42 41 (hcl 51 42 (hcl 52 51 (hcl 57 52 (hcl 58 57 (hcl 64 58 (hcl 65 64 (hcl 69 65 (hcl 70 69 (hw 70 (by kernel_rfl)) (by kernel_rfl)) (by kernel_rfl)) (by kernel_rfl)) (by kernel_rfl)) (by kernel_rfl)) (by kernel_rfl)) (by kernel_rfl)) (by kernel_rfl)) (by kernel_rfl)) (by kernel_rfl)) (by kernel_rfl)) (by kernel_rfl)) (by kernel_rfl)) (by kernel_rfl)), Whu.gone (hcl 30 27 (hcl 35 30 (hcl 36 35 (hcl 41 36 (hcl 42 41 (hcl 51 42 (hcl 52 51 (hcl 57 52 (hcl 58 57 (hcl 64 58 (hcl 65 64 (hcl 69 65 (hcl 70 69 (hw 70 (by kernel_rfl)) (by kernel_rfl)) (by kernel_rfl)) (by kernel_rfl)) (by kernel_rfl)) (by kernel_rfl)) (by kernel_rfl)) (by kernel_rfl)) (by kernel_rfl)) (by kernel_rfl)) (by kernel_rfl)) (by kernel_rfl)) (by kernel_rfl)) (by kernel_rfl)), Whu.gone (hcl 36 33 (hcl 41 36 (hcl 42 41 (hcl 51 42 (hcl 52 51 (hcl 57 52 (hcl 58 57 (hcl 64 58 (hcl 65 64 (hcl 69 65 (hcl 70 69 (hw 70 (by kernel_rfl)) (by kernel_rfl)) (by kernel_rfl)) (by kernel_rfl)) (by kernel_rfl)) (by kernel_rfl)) (by kernel_rfl)) (by kernel_rfl)) (by kernel_rfl)) (by kernel_rfl)) (by kernel_rfl)) (by kernel_rfl)), Whu.done (⟨S4, hg4, hps4, hgx4, HL.out.below hlw (Nat.le_refl _)⟩)⟩
    · have e70 : z 143 = .bool true := hz 70 _ (hw 70 (by kernel_rfl)) rfl
      have e73 : z 146 = .int .i64 0 := hz 73 _ (hw 73 (by kernel_rfl)) rfl
      refine wpOp_want rfl (by simp [Region.wanted, yielded, e70]) ?_
      go_simp
      exact ⟨⟨by simp [hsz.out], hx.out.keep⟩, upd z 147 (.bool true), (by unfold Hid; simp [upd, e70, e73]), hz.next apx hsz.out 74 (by decide) _ (fun _ h => Option.some.inj h), hp0.keep (by decide), hp1.keep (by decide), hp18.keep (by decide), hp23.keep (by decide), hp24.keep (by decide), hp25.keep (by decide), hp32.keep (by decide), hp73.keep (by decide)⟩
    · have e70 : z 143 = .bool true := hz 70 _ (hw 70 (by kernel_rfl)) rfl
      have e74 : z 147 = .bool true := hz 74 _ (hw 74 (by kernel_rfl)) rfl
      refine wpOp_plain rfl rfl ?_
      go_simp
      exact ⟨⟨by simp [hsz.out], hx.out.keep⟩, upd z 148 (.bool true), (by unfold Hid; simp [upd, e70, e74]), hz.next apx hsz.out 75 (by decide) _ (fun _ h => Option.some.inj h), hp0.keep (by decide), hp1.keep (by decide), hp18.keep (by decide), hp23.keep (by decide), hp24.keep (by decide), hp25.keep (by decide), hp32.keep (by decide), hp73.keep (by decide)⟩
    · have e75 : z 148 = .bool true := hz 75 _ (hw 75 (by kernel_rfl)) rfl
      refine wpOp_plain rfl rfl ?_
      go_simp
      exact ⟨⟨by simp [hsz.out], hx.out.keep⟩, upd z 149 (.bool true), (by unfold Hid; simp [upd, e75]), hz.next apx hsz.out 76 (by decide) _ (fun _ h => Option.some.inj h), hp0.keep (by decide), hp1.keep (by decide), hp18.keep (by decide), hp23.keep (by decide), hp24.keep (by decide), hp25.keep (by decide), hp32.keep (by decide), hp73.keep (by decide)⟩
    · have e76 : z 149 = .bool true := hz 76 _ (hw 76 (by kernel_rfl)) rfl
      refine wpOp_want rfl (by simp [Region.wanted, yielded, e76]) ?_
      go_simp
      exact ⟨⟨by simp [hsz.out], hx.out.keep⟩, upd z 150 (ptr S1.g), (by unfold Hid; simp [upd, e76]), hz.next apx hsz.out 77 (by decide) _ (fun _ h => Option.some.inj h), hp0.keep (by decide), hp1.keep (by decide), hp18.keep (by decide), hp23.keep (by decide), hp24.keep (by decide), hp25.keep (by decide), hp32.keep (by decide), hp73.keep (by decide)⟩
    · have e76 : z 149 = .bool true := hz 76 _ (hw 76 (by kernel_rfl)) rfl
      have e77 : z 150 = ptr S1.g := hz 77 _ (hw 77 (by kernel_rfl)) rfl
      have p73 := hp73.get (hcl 76 73 (hw 76 (by kernel_rfl)) (by kernel_rfl)) hu
      obtain ⟨S4, hg4, hps4, hgx4, hL4⟩ := p73
      have hT := nw_text (by omega) li_12 tx_12 (by decide) hps4 hgx4 hL4
      rw [hg4] at hT
      refine wpOp_want rfl (by simp [Region.wanted, yielded, e76]) ?_
      go_simp
      go_at_call 17
      refine hT.mono ?_
      rintro e w9 ⟨rfl, low⟩
      exact ⟨⟨by simp [hsz.out], hx.out.call low⟩, upd z 151 (.string ⟨#[97, 32, 120, 32, 98, 32]⟩), (by unfold Hid; simp [upd, e76, e77]), hz.next apx hsz.out 78 (by decide) _ (fun _ h => Option.some.inj h), (hp0.keep (by decide)).map (fun h => h.later low), (hp1.keep (by decide)).map (fun h => h.later low), (hp18.keep (by decide)).map (fun h => h.later low), (hp23.keep (by decide)).map (fun h => h.later low), (hp24.keep (by decide)).map (fun h => h.later low), (hp25.keep (by decide)).map (fun h => h.later low), (hp32.keep (by decide)).map (fun h => h.later low), Whu.past (by rw [hsz.out]; decide)⟩
    · have e76 : z 149 = .bool true := hz 76 _ (hw 76 (by kernel_rfl)) rfl
      have e78 : z 151 = .string ⟨#[97, 32, 120, 32, 98, 32]⟩ := hz 78 _ (hw 78 (by kernel_rfl)) rfl
      refine wpOp_want rfl (by simp [Region.wanted, yielded, e76]) ?_
      go_simp
      exact ⟨⟨by simp [hsz.out], hx.out.keep⟩, upd z 152 (.bool true), (by unfold Hid; simp [upd, e76, e78]), hz.next apx hsz.out 79 (by decide) _ (fun _ h => Option.some.inj h), hp0.keep (by decide), hp1.keep (by decide), hp18.keep (by decide), hp23.keep (by decide), hp24.keep (by decide), hp25.keep (by decide), hp32.keep (by decide), hp73.keep (by decide)⟩
    · have e76 : z 149 = .bool true := hz 76 _ (hw 76 (by kernel_rfl)) rfl
      have e79 : z 152 = .bool true := hz 79 _ (hw 79 (by kernel_rfl)) rfl
      refine wpOp_plain rfl rfl ?_
      go_simp
      exact ⟨⟨by simp [hsz.out], hx.out.keep⟩, upd z 153 (.bool true), (by unfold Hid; simp [upd, e76, e79]), hz.next apx hsz.out 80 (by decide) _ (fun _ h => Option.some.inj h), hp0.keep (by decide), hp1.keep (by decide), hp18.keep (by decide), hp23.keep (by decide), hp24.keep (by decide), hp25.keep (by decide), hp32.keep (by decide), hp73.keep (by decide)⟩
    · have e80 : z 153 = .bool true := hz 80 _ (hw 80 (by kernel_rfl)) rfl
      refine wpOp_plain rfl rfl ?_
      go_simp
      exact ⟨⟨by simp [hsz.out], hx.out.keep⟩, upd z 0 (.bool true), (by unfold Hid; simp [upd, e80]), hz.next apx hsz.out 81 (by decide) _ (fun _ h => Option.some.inj h), hp0.keep (by decide), hp1.keep (by decide), hp18.keep (by decide), hp23.keep (by decide), hp24.keep (by decide), hp25.keep (by decide), hp32.keep (by decide), hp73.keep (by decide)⟩
  · exact ⟨⟨rfl, ⟨(LW.out.trans (cur.out.mono LW.out.size)).drew, fun _ => cur.out.drew⟩⟩, fun xx => (#[.bool false, ptr S1.g, .pointer (some ⟨bx, 0, none⟩), ptr S2.g, .pointer none, .pointer (some ⟨zb, 0, none⟩), s6, s7, s8, s9, ptr S1.g, s11, s12, s13, s14, s15, s16, s17, s18, ptr S2.g, s20, .pointer (some ⟨zb, 0, none⟩), .bool true, .bool false, .bool false, ptr S1.g, .bool false, .bool false, .bool false, ptr S2.g, .bool false, .bool false, .bool false, s33, s34, s35, s36, s37, s38, .bool false, .bool false, .bool false, ptr S1.g, s43, s44, .bool false, .bool false, .bool false, ptr S1.g, s44, s43, .bool false, .bool false, .bool false, ptr S1.g, s55, s56, .bool true, .bool false, .bool false, .bool false, ptr S1.g, s62, s63, .bool true, .bool false, .bool false, .bool false, ptr S1.g, s62, s62, .bool false, .bool false, undef, undef, undef, undef, undef, undef, undef, undef, undef, undef, undef, undef, undef, undef, undef, undef, undef, undef, undef, undef, undef, undef, undef, undef, undef, undef, undef, undef, undef, undef, undef, undef, undef, undef, undef, undef, undef, undef, undef, undef, undef, undef, undef, undef, undef, undef, undef, undef, undef, undef, undef, undef, undef, undef, undef, undef, undef, undef, undef, undef, undef, undef, undef, undef, undef, undef, undef, undef, undef, undef, undef, undef, undef, undef, undef, undef, undef, undef, undef, undef, undef] : Array Value).getD xx undef, rfl, Holding.start, Whu.none (by decide), Whu.none (by decide), Whu.none (by decide), Whu.none (by decide), Whu.none (by decide), Whu.none (by decide), Whu.none (by decide), Whu.none (by decide)⟩
end Go.Proofs.YtnjeppmpnaemlaaDoor.Grf
