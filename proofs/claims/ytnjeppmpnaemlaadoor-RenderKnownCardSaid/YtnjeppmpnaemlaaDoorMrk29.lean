/- DERIVED. Texts of ours, merged: XRndKnown. -/
import Derived.Test.YtnjeppmpnaemlaaDoorMrk28
/- DERIVED. The law's RenderKnown. Written by mkrknown.py. -/
set_option maxRecDepth 100000
namespace Go.Proofs.YtnjeppmpnaemlaaDoor.Grf
open Go.RowKit Str Go.Maps
attribute [local go_sem ↓ high] loadAtVx loadAtHs loadAtGv bHash_of bVx_of bPt_of three3_of
theorem same_lit {v : Value} {u : World} {L : List ByteArray} {xs : Array Value} {n : Nat} (h : RdS u v L) (hl : L.length ≤ 1000000) (hx : (L.map Value.string).toArray = xs) (hn : L.length = n) : Calls Tryd.prog 34 #[v, .slice (some ⟨u.heap.size, 0, none⟩) n n] (u.alloc (.cells xs 9)) fun e w' => e = .returned (.bool true) ∧ Below u.heap.size u w' := by
  subst hx hn
  exact same_row h hl
set_option maxHeartbeats 16000000 in
theorem rknown_any (w : World) (hL : Laid w) : Calls Tryd.prog 10 #[] w fun e w' => e = .returned (.bool true) ∧ Below w.heap.size w w' := by
  have HL := Lib.hid hL
  have hB := base_any w hL
  clear hL
  go_enter Tryd.func10, Tryd.ntmps10
  go_upto_region 2 with (first
    | (go_at_call 40; refine hB.mono ?_; rintro e w1 ⟨S1, rfl, hp1, hx1, hlo1, hb1⟩; have hG := gb_base hp1 hx1 hlo1 hb1 (#[Value.int IntKind.u8 0, Value.int IntKind.u8 0, Value.int IntKind.u8 0, Value.int IntKind.u8 0, Value.int IntKind.u8 0, Value.int IntKind.u8 0, Value.int IntKind.u8 0, Value.int IntKind.u8 0, Value.int IntKind.u8 0, Value.int IntKind.u8 0, Value.int IntKind.u8 0, Value.int IntKind.u8 0, Value.int IntKind.u8 0, Value.int IntKind.u8 0, Value.int IntKind.u8 0, Value.int IntKind.u8 0, Value.int IntKind.u8 0, Value.int IntKind.u8 0, Value.int IntKind.u8 0, Value.int IntKind.u8 0, Value.int IntKind.u8 0, Value.int IntKind.u8 0, Value.int IntKind.u8 0, Value.int IntKind.u8 0, Value.int IntKind.u8 0, Value.int IntKind.u8 0, Value.int IntKind.u8 0, Value.int IntKind.u8 0, Value.int IntKind.u8 0, Value.int IntKind.u8 0, Value.int IntKind.u8 0, Value.int IntKind.u8 0, Value.int IntKind.i64 0]); clear hp1 hx1 hlo1 hb1)
    | (refine wpList_store_row rfl 27 (.tmp 2) (.tmp 14) rfl w1.heap.size v10.c rfl rfl 27 _ (two_new w1 _ _).1 (infoVxA _) (by rw [Vx.c_size]; rfl) (Vx.one _) ?_)
    | (refine wpList_store_row rfl 27 (.tmp 3) (.tmp 15) rfl (w1.heap.size + 1) v11.c rfl rfl 27 _ ((setRow_ne (by omega)).trans (two_new w1 _ _).2) (infoVxA _) (by rw [Vx.c_size]; rfl) (Vx.one _) ?_))
  clear hB
  rw [put_none, put_none]
  obtain ⟨W, hW⟩ : ∃ W, W = ((((w1.alloc (.cells (#[Value.int IntKind.u8 0, Value.int IntKind.u8 0, Value.int IntKind.u8 0, Value.int IntKind.u8 0, Value.int IntKind.u8 0, Value.int IntKind.u8 0, Value.int IntKind.u8 0, Value.int IntKind.u8 0, Value.int IntKind.u8 0, Value.int IntKind.u8 0, Value.int IntKind.u8 0, Value.int IntKind.u8 0, Value.int IntKind.u8 0, Value.int IntKind.u8 0, Value.int IntKind.u8 0, Value.int IntKind.u8 0, Value.int IntKind.u8 0, Value.int IntKind.u8 0, Value.int IntKind.u8 0, Value.int IntKind.u8 0, Value.int IntKind.u8 0, Value.int IntKind.u8 0, Value.int IntKind.u8 0, Value.int IntKind.u8 0, Value.int IntKind.u8 0, Value.int IntKind.u8 0, Value.int IntKind.u8 0, Value.int IntKind.u8 0, Value.int IntKind.u8 0, Value.int IntKind.u8 0, Value.int IntKind.u8 0, Value.int IntKind.u8 0, Value.int IntKind.i64 0]) 27)).alloc (.cells (#[Value.int IntKind.u8 0, Value.int IntKind.u8 0, Value.int IntKind.u8 0, Value.int IntKind.u8 0, Value.int IntKind.u8 0, Value.int IntKind.u8 0, Value.int IntKind.u8 0, Value.int IntKind.u8 0, Value.int IntKind.u8 0, Value.int IntKind.u8 0, Value.int IntKind.u8 0, Value.int IntKind.u8 0, Value.int IntKind.u8 0, Value.int IntKind.u8 0, Value.int IntKind.u8 0, Value.int IntKind.u8 0, Value.int IntKind.u8 0, Value.int IntKind.u8 0, Value.int IntKind.u8 0, Value.int IntKind.u8 0, Value.int IntKind.u8 0, Value.int IntKind.u8 0, Value.int IntKind.u8 0, Value.int IntKind.u8 0, Value.int IntKind.u8 0, Value.int IntKind.u8 0, Value.int IntKind.u8 0, Value.int IntKind.u8 0, Value.int IntKind.u8 0, Value.int IntKind.u8 0, Value.int IntKind.u8 0, Value.int IntKind.u8 0, Value.int IntKind.i64 0]) 27))).setRow w1.heap.size v10.c).setRow (w1.heap.size + 1) v11.c := ⟨_, rfl⟩
  rw [← hW] at hG ⊢
  obtain ⟨q, hq⟩ : ∃ q, q = w1.heap.size := ⟨_, rfl⟩
  rw [← hq] at hG ⊢
  have HG := Lib.hid hG
  clear hW hq hG
  obtain ⟨pg, hpg⟩ : ∃ pg, pg = ptr S1.g := ⟨_, rfl⟩
  rw [← hpg]
  have HS1 : Hid (ptr S1.g = pg) := hpg.symm
  clear hpg
  have ea := box_vx HG.out.r1
  have eb := box_vx HG.out.r2
  have hP : ∀ u, Calls Tryd.prog 41 #[.int .u8 2, .agg v10.c, .agg v11.c, .slice (some ⟨W.heap.size, 0, none⟩) 1 1] u fun e w' => e = .returned (.agg (givC dSecond (.slice (some ⟨W.heap.size, 0, none⟩) 1 1) nils)) ∧ Below u.heap.size u w' := fun u => lpart dSecond 2 rfl rfl rfl rfl rfl _ _ _ u
  have HR : Hid ((W.alloc (.cells #[.string ⟨#[120]⟩] 9)).heap[W.heap.size]? = some (.cells #[.string ⟨#[120]⟩] 9 (0, 0))) := Go.heap_alloc_new W _
  have KR : Hid (Below W.heap.size W (W.alloc (.cells #[.string ⟨#[120]⟩] 9))) := (Below.refl _ _).alloc (Nat.le_refl _) _
  have HAd : Hid (∀ u, Below W.heap.size W u → u.heap[W.heap.size]? = some (.cells #[.string ⟨#[120]⟩] 9 (0, 0)) → Calls Tryd.prog 22 #[pg, .agg (givC dSecond (.slice (some ⟨W.heap.size, 0, none⟩) 1 1) nils)] u fun e w' => e = .returned (.int .i64 0) ∧ ∃ S', ptr S'.g = pg ∧ GB w q w' S' 2 (dSecond :: [dFirst])) := fun u hu hr => by
    have := gb_add (HG.out.later hu) (by omega) HL.out (d := dSecond) (l := .slice (some ⟨W.heap.size, 0, none⟩) 1 1) (g := nils) (gv_of dS_db (by decide) rfl hr) rf_2
    rw [HS1.out] at this
    refine this.mono ?_
    rintro e w' ⟨rfl, S', h1, h2⟩
    exact ⟨rfl, S', by rw [h1]; exact HS1.out, h2⟩
  go_upto_region 3 with (first
    | (go_at_call 41; refine (hP _).mono ?_; rintro e w3 ⟨rfl, hlo3⟩; have hAd := HAd.out w3 (KR.out.trans (hlo3.mono KR.out.size)) ((hlo3.block _ (Array.getElem?_eq_some_iff.1 HR.out).1).trans HR.out); clear hlo3)
    | (go_at_call 22; refine hAd.mono ?_; rintro e w4 ⟨rfl, S2, hg2, hG2⟩; have HG2 := Lib.hid hG2; have HS2 := Lib.hid hg2; clear hG2 hg2))
  clear ea eb hP HR KR HAd hAd
  have hIt := items_gb HG2.out HL.out (by omega) (of_decide_eq_true (by kernel_rfl)) li_12 (I := i1) rfl
  rw [HS2.out] at hIt
  go_upto_region 4 with (first
    | (go_at_call 32; refine hIt.mono ?_; rintro e w7 ⟨x1, X1, rfl, hX, hown, hlo7⟩; have hTx := texts_known hX fit_1 le_1 tx_1' hown.rd; have Hlo7 := Lib.hid hlo7; clear hX hown hlo7)
    | (go_at_call 35; refine hTx.mono ?_; rintro e w8 ⟨tx1, rfl, ho8, hlo8⟩; have H1 := Lib.hid ho8.rds; have HOx1 := Lib.hid ho8; have Hlo8 := Lib.hid hlo8; clear ho8 hlo8))
  clear hIt hTx
  have hlow := HG2.out.low.trans ((Hlo7.out.trans (Hlo8.out.mono Hlo7.out.size)).mono HG2.out.low.size)
  have HLow := Lib.hid hlow
  have HLB := Lib.hid (HL.out.below hlow (Nat.le_refl _))
  have hB := base_any w8 HLB.out
  clear hlow Hlo7 Hlo8 HG HG2 HS1 HS2
  go_upto_region 5 with (first
    | (go_at_call 40; refine hB.mono ?_; rintro e u1 ⟨T1, rfl, hp1, hx1, hlo1, hb1⟩; have hK := gb_base hp1 hx1 hlo1 hb1 (#[Value.int IntKind.u8 0, Value.int IntKind.u8 0, Value.int IntKind.u8 0, Value.int IntKind.u8 0, Value.int IntKind.u8 0, Value.int IntKind.u8 0, Value.int IntKind.u8 0, Value.int IntKind.u8 0, Value.int IntKind.u8 0, Value.int IntKind.u8 0, Value.int IntKind.u8 0, Value.int IntKind.u8 0, Value.int IntKind.u8 0, Value.int IntKind.u8 0, Value.int IntKind.u8 0, Value.int IntKind.u8 0, Value.int IntKind.u8 0, Value.int IntKind.u8 0, Value.int IntKind.u8 0, Value.int IntKind.u8 0, Value.int IntKind.u8 0, Value.int IntKind.u8 0, Value.int IntKind.u8 0, Value.int IntKind.u8 0, Value.int IntKind.u8 0, Value.int IntKind.u8 0, Value.int IntKind.u8 0, Value.int IntKind.u8 0, Value.int IntKind.u8 0, Value.int IntKind.u8 0, Value.int IntKind.u8 0, Value.int IntKind.u8 0, Value.int IntKind.i64 0]); clear hp1 hx1 hlo1 hb1)
    | (refine wpList_store_row rfl 27 (.tmp 6) (.tmp 28) rfl u1.heap.size v10.c rfl rfl 27 _ (two_new u1 _ _).1 (infoVxA _) (by rw [Vx.c_size]; rfl) (Vx.one _) ?_)
    | (refine wpList_store_row rfl 27 (.tmp 7) (.tmp 29) rfl (u1.heap.size + 1) v11.c rfl rfl 27 _ ((setRow_ne (by omega)).trans (two_new u1 _ _).2) (infoVxA _) (by rw [Vx.c_size]; rfl) (Vx.one _) ?_))
  clear hB
  rw [put_none, put_none]
  obtain ⟨V, hW⟩ : ∃ W, W = ((((u1.alloc (.cells (#[Value.int IntKind.u8 0, Value.int IntKind.u8 0, Value.int IntKind.u8 0, Value.int IntKind.u8 0, Value.int IntKind.u8 0, Value.int IntKind.u8 0, Value.int IntKind.u8 0, Value.int IntKind.u8 0, Value.int IntKind.u8 0, Value.int IntKind.u8 0, Value.int IntKind.u8 0, Value.int IntKind.u8 0, Value.int IntKind.u8 0, Value.int IntKind.u8 0, Value.int IntKind.u8 0, Value.int IntKind.u8 0, Value.int IntKind.u8 0, Value.int IntKind.u8 0, Value.int IntKind.u8 0, Value.int IntKind.u8 0, Value.int IntKind.u8 0, Value.int IntKind.u8 0, Value.int IntKind.u8 0, Value.int IntKind.u8 0, Value.int IntKind.u8 0, Value.int IntKind.u8 0, Value.int IntKind.u8 0, Value.int IntKind.u8 0, Value.int IntKind.u8 0, Value.int IntKind.u8 0, Value.int IntKind.u8 0, Value.int IntKind.u8 0, Value.int IntKind.i64 0]) 27)).alloc (.cells (#[Value.int IntKind.u8 0, Value.int IntKind.u8 0, Value.int IntKind.u8 0, Value.int IntKind.u8 0, Value.int IntKind.u8 0, Value.int IntKind.u8 0, Value.int IntKind.u8 0, Value.int IntKind.u8 0, Value.int IntKind.u8 0, Value.int IntKind.u8 0, Value.int IntKind.u8 0, Value.int IntKind.u8 0, Value.int IntKind.u8 0, Value.int IntKind.u8 0, Value.int IntKind.u8 0, Value.int IntKind.u8 0, Value.int IntKind.u8 0, Value.int IntKind.u8 0, Value.int IntKind.u8 0, Value.int IntKind.u8 0, Value.int IntKind.u8 0, Value.int IntKind.u8 0, Value.int IntKind.u8 0, Value.int IntKind.u8 0, Value.int IntKind.u8 0, Value.int IntKind.u8 0, Value.int IntKind.u8 0, Value.int IntKind.u8 0, Value.int IntKind.u8 0, Value.int IntKind.u8 0, Value.int IntKind.u8 0, Value.int IntKind.u8 0, Value.int IntKind.i64 0]) 27))).setRow u1.heap.size v10.c).setRow (u1.heap.size + 1) v11.c := ⟨_, rfl⟩
  rw [← hW] at hK ⊢
  obtain ⟨r, hq⟩ : ∃ q, q = u1.heap.size := ⟨_, rfl⟩
  rw [← hq] at hK ⊢
  have HK := Lib.hid hK
  clear hW hq hK
  obtain ⟨pk, hpk⟩ : ∃ pk, pk = ptr T1.g := ⟨_, rfl⟩
  rw [← hpk]
  have HT1 : Hid (ptr T1.g = pk) := hpk.symm
  clear hpk
  have ea := box_vx HK.out.r1
  have eb := box_vx HK.out.r2
  have hP : ∀ u, Calls Tryd.prog 41 #[.int .u8 2, .agg v10.c, .agg v11.c, .slice (some ⟨V.heap.size, 0, none⟩) 2 2] u fun e w' => e = .returned (.agg (givC dX12 (.slice (some ⟨V.heap.size, 0, none⟩) 2 2) nils)) ∧ Below u.heap.size u w' := fun u => lpart dX12 2 rfl rfl rfl rfl rfl _ _ _ u
  have HR : Hid ((V.alloc (.cells #[.string ⟨#[120, 49]⟩, .string ⟨#[120, 50]⟩] 9)).heap[V.heap.size]? = some (.cells #[.string ⟨#[120, 49]⟩, .string ⟨#[120, 50]⟩] 9 (0, 0))) := Go.heap_alloc_new V _
  have KR : Hid (Below V.heap.size V (V.alloc (.cells #[.string ⟨#[120, 49]⟩, .string ⟨#[120, 50]⟩] 9))) := (Below.refl _ _).alloc (Nat.le_refl _) _
  have HAd : Hid (∀ u, Below V.heap.size V u → u.heap[V.heap.size]? = some (.cells #[.string ⟨#[120, 49]⟩, .string ⟨#[120, 50]⟩] 9 (0, 0)) → Calls Tryd.prog 22 #[pk, .agg (givC dX12 (.slice (some ⟨V.heap.size, 0, none⟩) 2 2) nils)] u fun e w' => e = .returned (.int .i64 0) ∧ ∃ S', ptr S'.g = pk ∧ GB w8 r w' S' 2 (dX12 :: [dFirst])) := fun u hu hr => by
    have := gb_add (HK.out.later hu) (by omega) HLB.out (d := dX12) (l := .slice (some ⟨V.heap.size, 0, none⟩) 2 2) (g := nils) (gv_of dX12_db (by decide) rfl hr) rf_x
    rw [HT1.out] at this
    refine this.mono ?_
    rintro e w' ⟨rfl, S', h1, h2⟩
    exact ⟨rfl, S', by rw [h1]; exact HT1.out, h2⟩
  go_upto_region 6 with (first
    | (go_at_call 41; refine (hP _).mono ?_; rintro e u3 ⟨rfl, hlo3⟩; have hAd := HAd.out u3 (KR.out.trans (hlo3.mono KR.out.size)) ((hlo3.block _ (Array.getElem?_eq_some_iff.1 HR.out).1).trans HR.out); clear hlo3)
    | (go_at_call 22; refine hAd.mono ?_; rintro e u4 ⟨rfl, T2, hg2, hG2⟩; have HK2 := Lib.hid hG2; have HT2 := Lib.hid hg2; clear hG2 hg2))
  clear ea eb hP HR KR HAd hAd
  have ea := box_vx HK2.out.r1
  have eb := box_vx HK2.out.r2
  have hP : ∀ u, Calls Tryd.prog 41 #[.int .u8 3, .agg v10.c, .agg v11.c, .slice (some ⟨u4.heap.size, 0, none⟩) 1 1] u fun e w' => e = .returned (.agg (givC dY (.slice (some ⟨u4.heap.size, 0, none⟩) 1 1) nils)) ∧ Below u.heap.size u w' := fun u => lpart dY 3 rfl rfl rfl rfl rfl _ _ _ u
  have HR : Hid ((u4.alloc (.cells #[.string ⟨#[121]⟩] 9)).heap[u4.heap.size]? = some (.cells #[.string ⟨#[121]⟩] 9 (0, 0))) := Go.heap_alloc_new u4 _
  have KR : Hid (Below u4.heap.size u4 (u4.alloc (.cells #[.string ⟨#[121]⟩] 9))) := (Below.refl _ _).alloc (Nat.le_refl _) _
  have HAd : Hid (∀ u, Below u4.heap.size u4 u → u.heap[u4.heap.size]? = some (.cells #[.string ⟨#[121]⟩] 9 (0, 0)) → Calls Tryd.prog 22 #[pk, .agg (givC dY (.slice (some ⟨u4.heap.size, 0, none⟩) 1 1) nils)] u fun e w' => e = .returned (.int .i64 0) ∧ ∃ S', ptr S'.g = pk ∧ GB w8 r w' S' 3 (dY :: [dX12, dFirst])) := fun u hu hr => by
    have := gb_add (HK2.out.later hu) (by omega) HLB.out (d := dY) (l := .slice (some ⟨u4.heap.size, 0, none⟩) 1 1) (g := nils) (gv_of dY_db (by decide) rfl hr) rf_xy
    rw [HT2.out] at this
    refine this.mono ?_
    rintro e w' ⟨rfl, S', h1, h2⟩
    exact ⟨rfl, S', by rw [h1]; exact HT2.out, h2⟩
  go_upto_region 7 with (first
    | (go_at_call 41; refine (hP _).mono ?_; rintro e u5 ⟨rfl, hlo3⟩; have hAd := HAd.out u5 (KR.out.trans (hlo3.mono KR.out.size)) ((hlo3.block _ (Array.getElem?_eq_some_iff.1 HR.out).1).trans HR.out); clear hlo3)
    | (go_at_call 22; refine hAd.mono ?_; rintro e u6 ⟨rfl, T3, hg2, hG2⟩; have HK3 := Lib.hid hG2; have HT3 := Lib.hid hg2; clear hG2 hg2))
  clear ea eb hP HR KR HAd hAd
  have hIt := items_gb HK3.out HLB.out (by omega) (of_decide_eq_true (by kernel_rfl)) li_xy (I := i2) rfl
  rw [HT3.out] at hIt
  go_upto_region 8 with (first
    | (go_at_call 32; refine hIt.mono ?_; rintro e u7 ⟨x2, X2, rfl, hX, hown, hlo7⟩; have hTx := texts_known hX fit_2 le_2 tx_2' hown.rd; have Hlo7 := Lib.hid hlo7; clear hX hown hlo7)
    | (go_at_call 35; refine hTx.mono ?_; rintro e u8 ⟨tx2, rfl, ho8, hlo8⟩; have H2 := Lib.hid ho8.rds; have HOx2 := Lib.hid ho8; have Hlo8 := Lib.hid hlo8; clear ho8 hlo8))
  clear hIt hTx
  have HBl : Hid (∀ b ∈ blk T3, b < u7.heap.size) := fun b hb => Nat.lt_of_lt_of_le (blk_lt HK3.out.gx b hb) Hlo7.out.size
  have HK4 := Lib.hid (HK3.out.later (Hlo7.out.trans (Hlo8.out.mono Hlo7.out.size)))
  clear HK HK2 HK3 HT1 HT2 Hlo7 Hlo8
  have ea := box_vx HK4.out.r1
  have eb := box_vx HK4.out.r2
  have eh := run_bHash
  have e20 : ∀ w, (bVx #[(0, .agg (hsC (hb 2)))]).run Tryd.prog w = .ok (.agg v20.c) w := fun w => run_bV0 w 2 (by omega)
  have e21 : ∀ w, (bVx #[(0, .agg (hsC (hb 2))), (1, .int .i64 1)]).run Tryd.prog w = .ok (.agg v21.c) w := fun w => run_bV w 2 1 (by omega) (by omega)
  have e30 : ∀ w, (bVx #[(0, .agg (hsC (hb 3)))]).run Tryd.prog w = .ok (.agg v30.c) w := fun w => run_bV0 w 3 (by omega)
  have e3 := run_three3
  obtain ⟨wD, hwD⟩ : ∃ wD, wD = (u8.alloc (.cells #[.string ⟨#[122]⟩] 9)).alloc (.cells (flatV [v20, v21, v30]).toArray 27) := ⟨_, rfl⟩
  obtain ⟨d1, d2⟩ := two_new u8 (.cells #[.string ⟨#[122]⟩] 9) (.cells (flatV [v20, v21, v30]).toArray 27)
  have kD : Below u8.heap.size u8 wD := by rw [hwD]; exact ((Below.refl _ _).alloc (Nat.le_refl _) _).alloc (by rw [World.size_alloc]; omega) _
  rw [← hwD] at d1 d2
  have ePt : ∀ w, (bPt #[(0, .agg (hsC (hb 4))), (3, .agg v10.c), (4, .agg v11.c), (5, .slice (some ⟨u8.heap.size, 0, none⟩) 1 1), (6, .slice (some ⟨u8.heap.size + 1, 0, none⟩) 3 3)]).run Tryd.prog w = .ok (.agg (givC dZ (.slice (some ⟨u8.heap.size, 0, none⟩) 1 1) (.slice (some ⟨u8.heap.size + 1, 0, none⟩) 3 3))) w := fun w => run_bPt w dZ rfl rfl _ _ _ _ _ _
  have hAd := gb_add2 (HK4.out.later kD) (by omega) HLB.out (d := dZ) (l := .slice (some ⟨u8.heap.size, 0, none⟩) 1 1) (g := .slice (some ⟨u8.heap.size + 1, 0, none⟩) 3 3) ⟨dZ_db, (show (0 : Int) ≤ 9223372036854775807 by decide), rdS_row (l := dZ.lines) d1, rdV_row (l := dZ.gone) d2, fun h => by cases h⟩ rf_z
  rw [HT3.out] at hAd
  have hoD := own_stays HOx2.out kD
  have HoD := Lib.hid hoD
  have HD := Lib.hid hwD
  clear hwD d1 d2 kD hoD
  have hAd2 := hAd
  rw [HD.out] at hAd
  have HAd2 := Lib.hid hAd2
  clear hAd2
  go_upto_region 9 with (go_at_call 22; refine hAd.mono ?_; rintro e u9 ⟨rfl, T4, hg4, hK5, hc5⟩; have HC5 := Lib.hid hc5; have HK5 := Lib.hid hK5; have HT4 : Hid (ptr T4.g = pk) := (congrArg ptr hg4).trans HT3.out; clear hK5 hg4 hc5)
  clear ea eb eh e20 e21 e30 e3 ePt hAd
  have hIt := items_gb HK5.out HLB.out (by omega) (of_decide_eq_true (by kernel_rfl)) li_z (I := i3) rfl
  rw [HT4.out] at hIt
  go_upto_region 10 with (first
    | (go_at_call 32; refine hIt.mono ?_; rintro e u10 ⟨x3, X3, rfl, hX, hown, hlo7⟩; have hTx := texts_known hX fit_3 le_3 tx_3' hown.rd; have Hlo7 := Lib.hid hlo7; clear hX hown hlo7)
    | (go_at_call 35; refine hTx.mono ?_; rintro e u11 ⟨tx3, rfl, ho8, hlo8⟩; have H3 := Lib.hid ho8.rds; have HOx3 := Lib.hid ho8; have Hlo8 := Lib.hid hlo8; clear ho8 hlo8))
  clear hIt hTx
  have HK6 := Lib.hid (HK5.out.later (Hlo7.out.trans (Hlo8.out.mono Hlo7.out.size)))
  have r1 := H1.out.below HK6.out.low
  have hc := HC5.out
  rw [← HD.out] at hc
  have ho9 : OwnS u7.heap.size [⟨#[97]⟩, ⟨#[62, 62, 62, 62, 62, 62, 62]⟩, ⟨#[120, 49]⟩, ⟨#[120, 50]⟩, ⟨#[61, 61, 61, 61, 61, 61, 61]⟩, ⟨#[121]⟩, ⟨#[60, 60, 60, 60, 60, 60, 60]⟩, ⟨#[98]⟩] tx2 u9 := own_keep HoD.out fun k hk => hc.block k (own_blt HoD.out k hk) (fun hm => by
    have h1 := HBl.out k hm
    rcases HoD.out.2 with ⟨e, _⟩ | ⟨g, cap, cur, e, hb, _⟩
    · rw [e] at hk; cases hk
    · rw [e] at hk
      cases hk
      exact absurd (Nat.lt_of_lt_of_le h1 hb) (Nat.lt_irrefl _))
  have r2 := ho9.rds.below (Hlo7.out.trans (Hlo8.out.mono Hlo7.out.size))
  clear hc ho9
  have R1 := Lib.hid r1
  have R2 := Lib.hid r2
  clear r1 r2
  have hl68 : Below w.heap.size w u11 := HLow.out.trans (HK6.out.low.mono HLow.out.size)
  have HLw := Lib.hid hl68
  have HLz := Lib.hid (HL.out.below hl68 (Nat.le_refl _))
  have hS1 : Hid (∀ u, Below u11.heap.size u11 u → Calls Tryd.prog 34 #[tx1, .slice (some ⟨u.heap.size, 0, none⟩) 3 3] (u.alloc (.cells #[.string ⟨#[97]⟩, .string ⟨#[120]⟩, .string ⟨#[98]⟩] 9)) fun e w' => e = .returned (.bool true) ∧ Below u.heap.size u w') := fun u hu => same_lit (R1.out.below hu) (by decide) rfl rfl
  have hS2 : Hid (∀ u, Below u11.heap.size u11 u → Calls Tryd.prog 34 #[tx2, .slice (some ⟨u.heap.size, 0, none⟩) 8 8] (u.alloc (.cells #[.string ⟨#[97]⟩, .string ⟨#[62, 62, 62, 62, 62, 62, 62]⟩, .string ⟨#[120, 49]⟩, .string ⟨#[120, 50]⟩, .string ⟨#[61, 61, 61, 61, 61, 61, 61]⟩, .string ⟨#[121]⟩, .string ⟨#[60, 60, 60, 60, 60, 60, 60]⟩, .string ⟨#[98]⟩] 9)) fun e w' => e = .returned (.bool true) ∧ Below u.heap.size u w') := fun u hu => same_lit (R2.out.below hu) (by decide) rfl rfl
  have hS3 : Hid (∀ u, Below u11.heap.size u11 u → Calls Tryd.prog 34 #[tx3, .slice (some ⟨u.heap.size, 0, none⟩) 3 3] (u.alloc (.cells #[.string ⟨#[97]⟩, .string ⟨#[122]⟩, .string ⟨#[98]⟩] 9)) fun e w' => e = .returned (.bool true) ∧ Below u.heap.size u w') := fun u hu => same_lit (H3.out.below hu) (by decide) rfl rfl
  have cur : Hid (Below u11.heap.size u11 u11) := Below.refl _ _
  clear hl68 H1 H2 H3 R1 R2 HK4 HK5 HK6 HC5 HoD HD HAd2 HBl Hlo7 Hlo8 HOx1 HOx2 HOx3 HT3 HT4
  go_wp2_with (first
    | (go_at_call 34; (first | with_reducible refine (hS1.out _ cur.out).mono ?_ | with_reducible refine (hS2.out _ cur.out).mono ?_ | with_reducible refine (hS3.out _ cur.out).mono ?_); rintro e wn ⟨rfl, low⟩; replace cur := Lib.hid (cur.out.trans (low.mono cur.out.size)); clear low)
    | (go_at_call 32; (first | with_reducible refine (items_nil _).mono ?_; rintro e wn ⟨rfl, low⟩; replace cur := Lib.hid (cur.out.trans (low.mono cur.out.size)); clear low | refine hI0.mono ?_; rintro e wn ⟨A0, c0, rfl, low⟩; replace cur := Lib.hid (cur.out.trans (low.mono cur.out.size)); clear low))
    | (go_at_call 21; refine (new_gx _ (HLz.out.below cur.out (Nat.le_refl _))).mono ?_; rintro e wn ⟨S0, rfl, hps0, hgx0, low, -⟩; replace cur := Lib.hid (cur.out.trans (low.mono cur.out.size)); have hI0 := items_zero hgx0 hps0 (HLz.out.below cur.out (Nat.le_refl _)); clear low hps0 hgx0)
    | (go_at_call 35; refine (text_zero _).mono ?_; rintro e wn ⟨A1, c1, rfl, low⟩; replace cur := Lib.hid (cur.out.trans (low.mono cur.out.size)); clear low)
    | (go_at_call 38; refine (conflict_zero _).mono ?_; rintro e wn ⟨rfl, low⟩; replace cur := Lib.hid (cur.out.trans (low.mono cur.out.size)); clear low)
    | (go_at_call 30; refine (works_any _ (HLz.out.below cur.out (Nat.le_refl _))).mono ?_; rintro e wn ⟨rfl, low⟩; replace cur := Lib.hid (cur.out.trans (low.mono cur.out.size)); clear low))
  go_ret
  exact ⟨rfl, HLw.out.trans (cur.out.mono HLw.out.size)⟩
end Go.Proofs.YtnjeppmpnaemlaaDoor.Grf
