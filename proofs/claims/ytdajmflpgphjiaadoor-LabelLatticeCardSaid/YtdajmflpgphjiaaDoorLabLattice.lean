/- DERIVED. The walk of the law LabelLattice. Written by mklattice.py. -/
import Derived.Test.YtdajmflpgphjiaaDoorLabBox
import Derived.Deep.DeepCutAuto
namespace Go.Proofs.YtdajmflpgphjiaaDoor.Lab
open Go.RowKit Str
theorem three_at (w : World) (x y z : Obj) : (((w.alloc x).alloc y).alloc z).heap[w.heap.size]? = some x ∧ (((w.alloc x).alloc y).alloc z).heap[w.heap.size + 1]? = some y ∧ (((w.alloc x).alloc y).alloc z).heap[w.heap.size + 1 + 1]? = some z := by
  have h := two_new w x y
  refine ⟨?_, ?_, ?_⟩
  · rw [Below.heap_alloc _ _ _ (by simp; omega)]; exact h.1
  · rw [Below.heap_alloc _ _ _ (by simp)]; exact h.2
  · have k := Go.heap_alloc_new ((w.alloc x).alloc y) z
    simpa using k
set_option maxRecDepth 100000 in
set_option maxHeartbeats 40000000 in
theorem lattice_walk (a b e : Int) (c d f : Nat) (hc : OkC c) (hd : OkC d) (hf : OkC f) (w : World) (hL : Laid w) :
    Calls Tryd.prog 6 #[.agg (lab a c), .agg (lab b d), .agg (lab e f)] w fun e w' => e = .returned (.bool true) ∧ Below w.heap.size w w' := by
  obtain ⟨jl, hjl⟩ : ∃ x, x = max a b := ⟨_, rfl⟩
  obtain ⟨jc, hjc⟩ : ∃ x, x = c ||| d := ⟨_, rfl⟩
  obtain ⟨ml, hml⟩ : ∃ x, x = min a b := ⟨_, rfl⟩
  obtain ⟨mc, hmc⟩ : ∃ x, x = c &&& d := ⟨_, rfl⟩
  have oj : OkC jc := by rw [hjc]; exact hc.or hd
  have om : OkC mc := by rw [hmc]; exact OkC.and hd
  have HJ : Hid (∀ wx, Calls Tryd.prog 11 #[.agg (lab a c), .agg (lab b d)] wx fun e w' => e = .returned (.agg (lab jl jc)) ∧ Below wx.heap.size wx w') := by
    intro wx
    rw [hjl, hjc]
    exact join_any a b c d hc hd wx
  have HM : Hid (∀ wx, Calls Tryd.prog 13 #[.agg (lab a c), .agg (lab b d)] wx fun e w' => e = .returned (.agg (lab ml mc)) ∧ Below wx.heap.size wx w') := by
    intro wx
    rw [hml, hmc]
    exact meet_any a b c d hc hd wx
  obtain ⟨w3, hw3⟩ : ∃ w3, w3 = ((w.alloc (.cells (lab a c) 24)).alloc (.cells (lab b d) 24)).alloc (.cells (lab e f) 24) := ⟨_, rfl⟩
  have h3 := three_at w (.cells (lab a c) 24) (.cells (lab b d) 24) (.cells (lab e f) 24)
  rw [← hw3] at h3
  have low3 : Below w.heap.size w w3 := by rw [hw3]; exact (((Below.refl _ _).alloc (Nat.le_refl _) _).alloc (by simp) _).alloc (by simp; omega) _
  have Low3 := Lib.hid low3
  have HLd := Lib.hid (hL.below low3)
  have R3 := Lib.hid h3.1
  have R4 := Lib.hid h3.2.1
  have R5 := Lib.hid h3.2.2
  have Hw3 := Lib.hid hw3
  have Hjl := Lib.hid hjl
  have Hjc := Lib.hid hjc
  have Hml := Lib.hid hml
  have Hmc := Lib.hid hmc
  clear h3 low3 hw3 hL hjl hjc hml hmc
  go_enter Tryd.func6, Tryd.ntmps6
  go_upto_region 1 with (fail)
  rw [← Hw3.out]
  clear Hw3
  obtain ⟨g5, hg5⟩ : ∃ g5, g5 = w.heap.size + 1 + 1 := ⟨_, rfl⟩
  rw [← hg5] at R5 ⊢
  obtain ⟨g4, hg4⟩ : ∃ g4, g4 = w.heap.size + 1 := ⟨_, rfl⟩
  rw [← hg4] at R4 ⊢
  obtain ⟨g, hg⟩ : ∃ g, g = w.heap.size := ⟨_, rfl⟩
  rw [← hg] at R3 ⊢
  clear hg hg4 hg5
  go_cut [7, 8] (fun s7 s8 wx => ∃ n7 n8 : Nat, s7 = .pointer (some ⟨n7, 0, none⟩) ∧ s8 = .pointer (some ⟨n8, 0, none⟩) ∧ Hid (Five w g g4 g5 n7 n8 (lab a c) (lab b d) (lab e f) (lab jl jc) (lab ml mc) wx))
  case first =>
    have apx : apartB [10, 11, 12, 13, 14, 15, 7, 8, 1008, 1009] = true := by decide
    refine wp_region_any (by kernel_rfl) ?_
    change wpAny _ _ _ _ _ _ _ (World.drew _)
    refine wpAny_inv2 (fun ll aa wx => Hid (ll.size = 10 ∧ Below w3.heap.size w3 wx) ∧ ∃ (z : Nat → Value), Hid (aa = ⟨#[.agg (lab a c), .agg (lab b d), .agg (lab e f), .pointer (some ⟨g, 0, none⟩), .pointer (some ⟨g4, 0, none⟩), .pointer (some ⟨g5, 0, none⟩), .bool false, z 7, z 8, undef, z 10, z 11, z 12, z 13, z 14, z 15, undef, undef, undef, undef, undef, undef, undef, undef, undef, undef, undef, undef, undef, undef, undef, undef, undef, undef, undef, undef, undef, undef, undef, undef, undef, undef, undef, undef, undef, undef, undef, undef, undef, undef, undef, undef, undef, undef, undef, undef, undef, undef, undef, undef, undef, undef, undef, undef, undef, undef, undef, undef, undef, undef, undef, undef, undef, undef, undef, undef, undef, undef, undef, undef, undef, undef, undef, undef, undef, undef, undef, undef, undef, undef, undef, undef, undef, undef, undef, undef, undef, undef, undef, undef, undef, undef, undef, undef, undef, undef, undef, undef, undef, undef, undef, undef, undef, undef, undef, undef, undef, undef, undef, undef, undef, undef, undef, undef, undef, undef, undef, undef, undef, undef, undef, undef, undef, undef, undef, undef, undef, undef, undef, undef], []⟩) ∧ Holding [10, 11, 12, 13, 14, 15, 7, 8, 1008, 1009] [some (.agg (lab a c)), some (.agg (lab b d)), some (.agg (lab jl jc)), some (.agg (lab a c)), some (.agg (lab b d)), some (.agg (lab ml mc)), none, none, none, none] ll z ∧ Whn ll 6 (BoxP w3.heap.size) (z 7) wx ∧ Whn ll 7 (BoxP w3.heap.size) (z 8) wx ∧ Whn ll 8 (fun _ wx => RowP w3.heap.size (lab jl jc) (z 7) wx) (z 1008) wx ∧ Whn ll 9 (fun _ wx => RowP w3.heap.size (lab ml mc) (z 8) wx) (z 1009) wx ∧ Pair ll 6 7 (z 7) (z 8)) ?_ (by kernel_rfl) ?_ ?_ _ rfl _ _ ?_
    · rintro ll aa wx ⟨hI, _⟩
      exact hI.out.1
    · rintro ll aa wx ⟨hI, z, ha, hz, hp6, hp7, hp8, hp9, hpr⟩ hall
      have hx := Lib.hid hI.out.2
      have e0 : z 10 = .agg (lab a c) := hz 0 _ (hall 0 (by decide)) rfl
      have e1 : z 11 = .agg (lab b d) := hz 1 _ (hall 1 (by decide)) rfl
      have e2 : z 12 = .agg (lab jl jc) := hz 2 _ (hall 2 (by decide)) rfl
      have e3 : z 13 = .agg (lab a c) := hz 3 _ (hall 3 (by decide)) rfl
      have e4 : z 14 = .agg (lab b d) := hz 4 _ (hall 4 (by decide)) rfl
      have e5 : z 15 = .agg (lab ml mc) := hz 5 _ (hall 5 (by decide)) rfl
      have p6 := hp6.get (hall 6 (by decide))
      have p7 := hp7.get (hall 7 (by decide))
      have p8 := hp8.get (hall 8 (by decide))
      have p9 := hp9.get (hall 9 (by decide))
      have hpair := hpr (hall 6 (by decide)) (hall 7 (by decide))
      clear hall hz hI hp6 hp7 hp8 hp9 hpr
      obtain rfl := ha.out
      clear ha
      clear apx
      obtain ⟨n7, v7, b7, r7⟩ := p8
      obtain ⟨n8, v8, b8, r8⟩ := p9
      clear p6 p7 hpair e0 e1 e2 e3 e4 e5
      have HF : Hid (Five w g g4 g5 n7 n8 (lab a c) (lab b d) (lab e f) (lab jl jc) (lab ml mc) wx) := ⟨kept hx.out R3.out, kept hx.out R4.out, kept hx.out R5.out, r7, r8, Low3.out.trans (hx.out.mono Low3.out.size), HLd.out.below hx.out⟩
      dsimp only
      rw [v7, v8]
      go_wp2
      go_meet
      exact ⟨n7, n8, rfl, rfl, HF⟩
    · rintro ll aa wx i ⟨hI, z, ha, hz, hp6, hp7, hp8, hp9, hpr⟩ hcl hi hu hw
      obtain rfl := ha.out
      have hsz := Lib.hid hI.out.1
      have hx := Lib.hid hI.out.2
      clear ha hI
      have hin : i < 10 := hi
      obtain rfl | rfl | rfl | rfl | rfl | rfl | rfl | rfl | rfl | rfl : i = 0 ∨ i = 1 ∨ i = 2 ∨ i = 3 ∨ i = 4 ∨ i = 5 ∨ i = 6 ∨ i = 7 ∨ i = 8 ∨ i = 9 := by omega
      · have cl := (hx.out.block _ (Array.getElem?_eq_some_iff.1 R3.out).1).trans R3.out
        refine wpOp_plain rfl rfl (wp_load_row 24 (.tmp 3) rfl (g) rfl 24 (lab a c) (0, 0) _ cl Tryd.underlying24 rfl infoL ?_)
        go_simp
        exact ⟨⟨by simp [hsz.out], hx.out⟩, upd z 10 (.agg (lab a c)), (by unfold Hid; simp [upd]), hz.next apx hsz.out 0 (by decide) _ (fun _ h => Option.some.inj h), hp6.keep (by decide), hp7.keep (by decide), hp8.keep (by decide), hp9.keep (by decide), hpr.keep (by decide) (by decide)⟩
      · have cl := (hx.out.block _ (Array.getElem?_eq_some_iff.1 R4.out).1).trans R4.out
        refine wpOp_plain rfl rfl (wp_load_row 24 (.tmp 4) rfl (g4) rfl 24 (lab b d) (0, 0) _ cl Tryd.underlying24 rfl infoL ?_)
        go_simp
        exact ⟨⟨by simp [hsz.out], hx.out⟩, upd z 11 (.agg (lab b d)), (by unfold Hid; simp [upd]), hz.next apx hsz.out 1 (by decide) _ (fun _ h => Option.some.inj h), hp6.keep (by decide), hp7.keep (by decide), hp8.keep (by decide), hp9.keep (by decide), hpr.keep (by decide) (by decide)⟩
      · have e0 : z 10 = .agg (lab a c) := hz 0 _ (hw 0 (by kernel_rfl)) rfl
        have e1 : z 11 = .agg (lab b d) := hz 1 _ (hw 1 (by kernel_rfl)) rfl
        refine wpOp_plain rfl rfl ?_
        go_simp
        go_at_call 11
        refine (HJ.out wx).mono ?_
        rintro e w' ⟨rfl, low⟩
        exact ⟨⟨by simp [hsz.out], hx.out.trans (low.mono hx.out.size)⟩, upd z 12 (.agg (lab jl jc)), (by unfold Hid; simp [upd, e0, e1]), hz.next apx hsz.out 2 (by decide) _ (fun _ h => Option.some.inj h), (hp6.keep (by decide)).map (fun h => h.later low), (hp7.keep (by decide)).map (fun h => h.later low), (hp8.keep (by decide)).map (fun h => h.later low), (hp9.keep (by decide)).map (fun h => h.later low), hpr.keep (by decide) (by decide)⟩
      · have cl := (hx.out.block _ (Array.getElem?_eq_some_iff.1 R3.out).1).trans R3.out
        refine wpOp_plain rfl rfl (wp_load_row 24 (.tmp 3) rfl (g) rfl 24 (lab a c) (0, 0) _ cl Tryd.underlying24 rfl infoL ?_)
        go_simp
        exact ⟨⟨by simp [hsz.out], hx.out⟩, upd z 13 (.agg (lab a c)), (by unfold Hid; simp [upd]), hz.next apx hsz.out 3 (by decide) _ (fun _ h => Option.some.inj h), hp6.keep (by decide), hp7.keep (by decide), hp8.keep (by decide), hp9.keep (by decide), hpr.keep (by decide) (by decide)⟩
      · have cl := (hx.out.block _ (Array.getElem?_eq_some_iff.1 R4.out).1).trans R4.out
        refine wpOp_plain rfl rfl (wp_load_row 24 (.tmp 4) rfl (g4) rfl 24 (lab b d) (0, 0) _ cl Tryd.underlying24 rfl infoL ?_)
        go_simp
        exact ⟨⟨by simp [hsz.out], hx.out⟩, upd z 14 (.agg (lab b d)), (by unfold Hid; simp [upd]), hz.next apx hsz.out 4 (by decide) _ (fun _ h => Option.some.inj h), hp6.keep (by decide), hp7.keep (by decide), hp8.keep (by decide), hp9.keep (by decide), hpr.keep (by decide) (by decide)⟩
      · have e3 : z 13 = .agg (lab a c) := hz 3 _ (hw 3 (by kernel_rfl)) rfl
        have e4 : z 14 = .agg (lab b d) := hz 4 _ (hw 4 (by kernel_rfl)) rfl
        refine wpOp_plain rfl rfl ?_
        go_simp
        go_at_call 13
        refine (HM.out wx).mono ?_
        rintro e w' ⟨rfl, low⟩
        exact ⟨⟨by simp [hsz.out], hx.out.trans (low.mono hx.out.size)⟩, upd z 15 (.agg (lab ml mc)), (by unfold Hid; simp [upd, e3, e4]), hz.next apx hsz.out 5 (by decide) _ (fun _ h => Option.some.inj h), (hp6.keep (by decide)).map (fun h => h.later low), (hp7.keep (by decide)).map (fun h => h.later low), (hp8.keep (by decide)).map (fun h => h.later low), (hp9.keep (by decide)).map (fun h => h.later low), hpr.keep (by decide) (by decide)⟩
      · refine wpOp_plain rfl rfl ?_
        go_simp
        have lown : Below wx.heap.size wx (wx.alloc (.cells #[.int .i64 0, .int .u64 0] 24)) := (Below.refl _ _).alloc (Nat.le_refl _) _
        exact ⟨⟨by simp [hsz.out], hx.out.trans (lown.mono hx.out.size)⟩, upd z 7 (.pointer (some ⟨wx.heap.size, 0, none⟩)), (by unfold Hid; simp [upd]), hz.next apx hsz.out 6 (by decide) _ (fun _ h => by cases h), Whn.done (boxP_new (Nat.le_trans (Nat.le_refl _) hx.out.size) 0 0), (hp7.keep (by decide)).map (fun h => h.later lown), Whn.never (by decide) (fun hl => hcl 8 6 hl (by kernel_rfl)) hu, (hp9.keep (by decide)).map (fun h => h.later lown), Pair.left (by decide) (fun hl => (hp7.get hl).ne)⟩
      · refine wpOp_plain rfl rfl ?_
        go_simp
        have lown : Below wx.heap.size wx (wx.alloc (.cells #[.int .i64 0, .int .u64 0] 24)) := (Below.refl _ _).alloc (Nat.le_refl _) _
        exact ⟨⟨by simp [hsz.out], hx.out.trans (lown.mono hx.out.size)⟩, upd z 8 (.pointer (some ⟨wx.heap.size, 0, none⟩)), (by unfold Hid; simp [upd]), hz.next apx hsz.out 7 (by decide) _ (fun _ h => by cases h), (hp6.keep (by decide)).map (fun h => h.later lown), Whn.done (boxP_new (Nat.le_trans (Nat.le_refl _) hx.out.size) 0 0), (hp8.keep (by decide)).map (fun h => h.later lown), Whn.never (by decide) (fun hl => hcl 9 7 hl (by kernel_rfl)) hu, Pair.right (by decide) (fun hl => ((hp6.get hl).ne).symm)⟩
      · have e2 : z 12 = .agg (lab jl jc) := hz 2 _ (hw 2 (by kernel_rfl)) rfl
        have p6 := hp6.get (hw 6 (by kernel_rfl))
        have hne := hpr (hw 6 (by kernel_rfl)) (hw 7 (by kernel_rfl))
        obtain ⟨n7, o7, v7, b7, r7, s7⟩ := p6
        rw [v7] at hne
        refine wpOp_plain rfl rfl (wp_store_row 24 (.tmp 7) (.tmp 12) rfl n7 (lab jl jc) (by show z 7 = _; exact v7) (by show z 12 = _; exact e2) 24 o7 r7 infoL s7 (lab_one _ _) ?_)
        go_simp
        exact ⟨⟨by simp [hsz.out], below_setRow hx.out b7 _⟩, upd z 1008 (undef), (by unfold Hid; simp [upd, e2, v7]), hz.next apx hsz.out 8 (by decide) _ (fun _ h => by cases h), (hp6.keep (by decide)).map (fun h => (by first | exact BoxP.row h n7 rfl | exact RowP.off h (Ne.symm hne) | exact RowP.off h hne)), (hp7.keep (by decide)).map (fun h => (by first | exact BoxP.row h n7 rfl | exact RowP.off h (Ne.symm hne) | exact RowP.off h hne)), Whn.done (⟨n7, v7, b7, setRow_at r7⟩), (hp9.keep (by decide)).map (fun h => (by first | exact BoxP.row h n7 rfl | exact RowP.off h (Ne.symm hne) | exact RowP.off h hne)), hpr.keep (by decide) (by decide)⟩
      · have e5 : z 15 = .agg (lab ml mc) := hz 5 _ (hw 5 (by kernel_rfl)) rfl
        have p7 := hp7.get (hw 7 (by kernel_rfl))
        have hne := hpr (hw 6 (by kernel_rfl)) (hw 7 (by kernel_rfl))
        obtain ⟨n8, o8, v8, b8, r8, s8⟩ := p7
        rw [v8] at hne
        refine wpOp_plain rfl rfl (wp_store_row 24 (.tmp 8) (.tmp 15) rfl n8 (lab ml mc) (by show z 8 = _; exact v8) (by show z 15 = _; exact e5) 24 o8 r8 infoL s8 (lab_one _ _) ?_)
        go_simp
        exact ⟨⟨by simp [hsz.out], below_setRow hx.out b8 _⟩, upd z 1009 (undef), (by unfold Hid; simp [upd, e5, v8]), hz.next apx hsz.out 9 (by decide) _ (fun _ h => by cases h), (hp6.keep (by decide)).map (fun h => (by first | exact BoxP.row h n8 rfl | exact RowP.off h (Ne.symm hne) | exact RowP.off h hne)), (hp7.keep (by decide)).map (fun h => (by first | exact BoxP.row h n8 rfl | exact RowP.off h (Ne.symm hne) | exact RowP.off h hne)), (hp8.keep (by decide)).map (fun h => (by first | exact BoxP.row h n8 rfl | exact RowP.off h (Ne.symm hne) | exact RowP.off h hne)), Whn.done (⟨n8, v8, b8, setRow_at r8⟩), hpr.keep (by decide) (by decide)⟩
    · exact ⟨⟨rfl, (Below.refl _ _).drew⟩, fun xx => (#[.agg (lab a c), .agg (lab b d), .agg (lab e f), .pointer (some ⟨g, 0, none⟩), .pointer (some ⟨g4, 0, none⟩), .pointer (some ⟨g5, 0, none⟩), .bool false, undef, undef, undef, undef, undef, undef, undef, undef, undef, undef, undef, undef, undef, undef, undef, undef, undef, undef, undef, undef, undef, undef, undef, undef, undef, undef, undef, undef, undef, undef, undef, undef, undef, undef, undef, undef, undef, undef, undef, undef, undef, undef, undef, undef, undef, undef, undef, undef, undef, undef, undef, undef, undef, undef, undef, undef, undef, undef, undef, undef, undef, undef, undef, undef, undef, undef, undef, undef, undef, undef, undef, undef, undef, undef, undef, undef, undef, undef, undef, undef, undef, undef, undef, undef, undef, undef, undef, undef, undef, undef, undef, undef, undef, undef, undef, undef, undef, undef, undef, undef, undef, undef, undef, undef, undef, undef, undef, undef, undef, undef, undef, undef, undef, undef, undef, undef, undef, undef, undef, undef, undef, undef, undef, undef, undef, undef, undef, undef, undef, undef, undef, undef, undef] : Array Value).getD xx undef, rfl, Holding.start, Whn.none (by decide), Whn.none (by decide), Whn.none (by decide), Whn.none (by decide), Pair.start (by decide)⟩
  case rest =>
    obtain ⟨n7, n8, rfl, rfl, HF0⟩ := hcut
    clear HJ HM R3 R4 R5 HLd Low3
    go_upto_region 2 with (fail)
    go_cut [50] (fun s50 wx => s50 = .bool false ∧ Hid (Five w g g4 g5 n7 n8 (lab a c) (lab b d) (lab e f) (lab jl jc) (lab ml mc) wx))
    case first =>
      have HF := Lib.hid HF0.out
      clear HF0
      have haa := bel_refl a c
      cases hab : bel a c b d with
      | true =>
        cases hbc : bel b d e f with
        | true =>
          have hac := bel_trans hab hbc
          cases hba : bel b d a c with
          | true =>
            obtain ⟨rfl, rfl⟩ := bel_anti hab hba
            go_wp2_with (first
              | (go_at_call 9; refine (below_l _ _ _ _ (by assumption) (by assumption) _).mono ?_; rintro e w2 ⟨rfl, low⟩; replace HF := Lib.hid (HF.out.later low); clear low)
              | (refine want_lab (.tmp 3) rfl g rfl _ _ HF.out.h3 rfl ?_)
              | (refine want_lab (.tmp 4) rfl g4 rfl _ _ HF.out.h4 rfl ?_)
              | (refine want_lab (.tmp 5) rfl g5 rfl _ _ HF.out.h5 rfl ?_))
            go_meet
            exact ⟨rfl, HF⟩
          | false =>
            go_wp2_with (first
              | (go_at_call 9; refine (below_l _ _ _ _ (by assumption) (by assumption) _).mono ?_; rintro e w2 ⟨rfl, low⟩; replace HF := Lib.hid (HF.out.later low); clear low)
              | (refine want_lab (.tmp 3) rfl g rfl _ _ HF.out.h3 rfl ?_)
              | (refine want_lab (.tmp 4) rfl g4 rfl _ _ HF.out.h4 rfl ?_)
              | (refine want_lab (.tmp 5) rfl g5 rfl _ _ HF.out.h5 rfl ?_))
            go_meet
            exact ⟨rfl, HF⟩
        | false =>
          cases hba : bel b d a c with
          | true =>
            obtain ⟨rfl, rfl⟩ := bel_anti hab hba
            go_wp2_with (first
              | (go_at_call 9; refine (below_l _ _ _ _ (by assumption) (by assumption) _).mono ?_; rintro e w2 ⟨rfl, low⟩; replace HF := Lib.hid (HF.out.later low); clear low)
              | (refine want_lab (.tmp 3) rfl g rfl _ _ HF.out.h3 rfl ?_)
              | (refine want_lab (.tmp 4) rfl g4 rfl _ _ HF.out.h4 rfl ?_)
              | (refine want_lab (.tmp 5) rfl g5 rfl _ _ HF.out.h5 rfl ?_))
            go_meet
            exact ⟨rfl, HF⟩
          | false =>
            go_wp2_with (first
              | (go_at_call 9; refine (below_l _ _ _ _ (by assumption) (by assumption) _).mono ?_; rintro e w2 ⟨rfl, low⟩; replace HF := Lib.hid (HF.out.later low); clear low)
              | (refine want_lab (.tmp 3) rfl g rfl _ _ HF.out.h3 rfl ?_)
              | (refine want_lab (.tmp 4) rfl g4 rfl _ _ HF.out.h4 rfl ?_)
              | (refine want_lab (.tmp 5) rfl g5 rfl _ _ HF.out.h5 rfl ?_))
            go_meet
            exact ⟨rfl, HF⟩
      | false =>
        go_wp2_with (first
          | (go_at_call 9; refine (below_l _ _ _ _ (by assumption) (by assumption) _).mono ?_; rintro e w2 ⟨rfl, low⟩; replace HF := Lib.hid (HF.out.later low); clear low)
          | (refine want_lab (.tmp 3) rfl g rfl _ _ HF.out.h3 rfl ?_)
          | (refine want_lab (.tmp 4) rfl g4 rfl _ _ HF.out.h4 rfl ?_)
          | (refine want_lab (.tmp 5) rfl g5 rfl _ _ HF.out.h5 rfl ?_))
        go_meet
        exact ⟨rfl, HF⟩
    case rest =>
      obtain ⟨rfl, HF1⟩ := hcut
      clear HF0
      go_upto_region 4 with (fail)
      go_cut [72] (fun s72 wx => s72 = .bool false ∧ Hid (Five w g g4 g5 n7 n8 (lab a c) (lab b d) (lab e f) (lab jl jc) (lab ml mc) wx))
      case first =>
        have HF := Lib.hid HF1.out
        clear HF1
        have k1 : bel a c jl jc = true := by rw [Hjl.out, Hjc.out]; exact bel_join_l a b c d
        have k2 : bel b d jl jc = true := by rw [Hjl.out, Hjc.out]; exact bel_join_r a b c d
        have k3 : bel ml mc a c = true := by rw [Hml.out, Hmc.out]; exact bel_meet_l a b c d
        have k4 : bel ml mc b d = true := by rw [Hml.out, Hmc.out]; exact bel_meet_r a b c d
        go_wp2_with (first
          | (go_at_call 9; refine (below_l _ _ _ _ (by assumption) (by assumption) _).mono ?_; rintro e w2 ⟨rfl, low⟩; replace HF := Lib.hid (HF.out.later low); clear low)
          | (refine want_lab (.tmp 3) rfl g rfl _ _ HF.out.h3 rfl ?_)
          | (refine want_lab (.tmp 4) rfl g4 rfl _ _ HF.out.h4 rfl ?_)
          | (refine want_lab (.tmp 5) rfl g5 rfl _ _ HF.out.h5 rfl ?_)
          | (refine want_lab (.tmp 7) rfl n7 rfl _ _ HF.out.h7 rfl ?_)
          | (refine want_lab (.tmp 8) rfl n8 rfl _ _ HF.out.h8 rfl ?_))
        go_meet
        exact ⟨rfl, HF⟩
      case rest =>
        obtain ⟨rfl, HF2⟩ := hcut
        clear HF1
        go_upto_region 6 with (fail)
        go_cut [98] (fun s98 wx => s98 = .bool false ∧ Hid (Five w g g4 g5 n7 n8 (lab a c) (lab b d) (lab e f) (lab jl jc) (lab ml mc) wx))
        case first =>
          rename World => wf
          have F3 := Lib.hid HF2.out.h3
          have F4 := Lib.hid HF2.out.h4
          have F5 := Lib.hid HF2.out.h5
          have F7 := Lib.hid HF2.out.h7
          have F8 := Lib.hid HF2.out.h8
          have hjc : bel jl jc e f = (bel a c e f && bel b d e f) := by rw [Hjl.out, Hjc.out]; exact bel_join
          have hcm : bel e f ml mc = (bel e f a c && bel e f b d) := by rw [Hml.out, Hmc.out]; exact bel_meet
          obtain ⟨y, hy⟩ : ∃ y, bel b d e f = y := ⟨_, rfl⟩
          obtain ⟨y2, hy2⟩ : ∃ y2, bel e f b d = y2 := ⟨_, rfl⟩
          have HBC := Lib.hid (fun wx => below_is hd hf hy wx)
          have HCB := Lib.hid (fun wx => below_is hf hd hy2 wx)
          cases hac : bel a c e f with
          | true =>
            have HAC := Lib.hid (fun wx => below_is hc hf hac wx)
            rw [hac, hy, Bool.true_and] at hjc
            have HJC := Lib.hid (fun wx => below_is oj hf hjc wx)
            cases hca : bel e f a c with
            | true =>
              have HCA := Lib.hid (fun wx => below_is hf hc hca wx)
              rw [hca, hy2, Bool.true_and] at hcm
              have HCM := Lib.hid (fun wx => below_is hf om hcm wx)
              clear hjc hcm hac hca hy hy2
              have apx : apartB [73, 74, 75, 76, 77, 78, 79, 80, 81, 82, 83, 84, 85, 86, 87, 88, 89, 90, 91, 92, 93, 94, 95, 96, 97, 98] = true := by decide
              refine wp_region_any (by kernel_rfl) ?_
              change wpAny _ _ _ _ _ _ _ (World.drew _)
              refine wpAny_inv (fun ll aa wx => Hid (ll.size = 26 ∧ Below wf.heap.size wf wx) ∧ ∃ (z : Nat → Value), Hid (aa = ⟨#[.agg (lab a c), .agg (lab b d), .agg (lab e f), .pointer (some ⟨g, 0, none⟩), .pointer (some ⟨g4, 0, none⟩), .pointer (some ⟨g5, 0, none⟩), .bool false, .pointer (some ⟨n7, 0, none⟩), .pointer (some ⟨n8, 0, none⟩), undef, u10, u11, u12, u13, u14, u15, u16, u17, u18, u19, u20, u21, u22, u23, u24, u25, u26, u27, u28, u29, u30, u31, u32, u33, u34, u35, u36, u37, u38, u39, u40, u41, u42, u43, u44, u45, u46, u47, u48, u49, u50, u51, u52, u53, u54, u55, u56, u57, u58, u59, u60, u61, u62, u63, u64, u65, u66, u67, u68, u69, u70, u71, .bool false, z 73, z 74, z 75, z 76, z 77, z 78, z 79, z 80, z 81, z 82, z 83, z 84, z 85, z 86, z 87, z 88, z 89, z 90, z 91, z 92, z 93, z 94, z 95, z 96, z 97, z 98, u99, u100, u101, u102, u103, u104, u105, u106, u107, u108, u109, u110, u111, u112, u113, u114, u115, u116, u117, u118, u119, u120, u121, u122, u123, u124, u125, u126, u127, u128, u129, u130, u131, u132, u133, u134, u135, u136, u137, u138, u139], []⟩) ∧ Holding [73, 74, 75, 76, 77, 78, 79, 80, 81, 82, 83, 84, 85, 86, 87, 88, 89, 90, 91, 92, 93, 94, 95, 96, 97, 98] [some (.agg (lab a c)), some (.agg (lab e f)), some (.bool true), some (.bool true), some (.agg (lab b d)), some (.agg (lab e f)), some (.bool y), some (.agg (lab jl jc)), some (.agg (lab e f)), some (.bool y), some (.bool false), some (.bool false), some (.bool false), some (.agg (lab e f)), some (.agg (lab a c)), some (.bool true), some (.bool true), some (.agg (lab e f)), some (.agg (lab b d)), some (.bool y2), some (.agg (lab e f)), some (.agg (lab ml mc)), some (.bool y2), some (.bool false), some (.bool false), some (.bool false)] ll z) ?_ (by kernel_rfl) ?_ ?_ _ _ _ _ (unlisted_none _) ?_
              · rintro ll aa wx ⟨hI, _⟩
                exact hI.out.1
              · rintro ll aa wx ⟨hI, z, ha, hz⟩ hall
                have hx := Lib.hid hI.out.2
                have e0 : z 73 = .agg (lab a c) := hz 0 _ (hall 0 (by decide)) rfl
                have e1 : z 74 = .agg (lab e f) := hz 1 _ (hall 1 (by decide)) rfl
                have e2 : z 75 = .bool true := hz 2 _ (hall 2 (by decide)) rfl
                have e3 : z 76 = .bool true := hz 3 _ (hall 3 (by decide)) rfl
                have e4 : z 77 = .agg (lab b d) := hz 4 _ (hall 4 (by decide)) rfl
                have e5 : z 78 = .agg (lab e f) := hz 5 _ (hall 5 (by decide)) rfl
                have e6 : z 79 = .bool y := hz 6 _ (hall 6 (by decide)) rfl
                have e7 : z 80 = .agg (lab jl jc) := hz 7 _ (hall 7 (by decide)) rfl
                have e8 : z 81 = .agg (lab e f) := hz 8 _ (hall 8 (by decide)) rfl
                have e9 : z 82 = .bool y := hz 9 _ (hall 9 (by decide)) rfl
                have e10 : z 83 = .bool false := hz 10 _ (hall 10 (by decide)) rfl
                have e11 : z 84 = .bool false := hz 11 _ (hall 11 (by decide)) rfl
                have e12 : z 85 = .bool false := hz 12 _ (hall 12 (by decide)) rfl
                have e13 : z 86 = .agg (lab e f) := hz 13 _ (hall 13 (by decide)) rfl
                have e14 : z 87 = .agg (lab a c) := hz 14 _ (hall 14 (by decide)) rfl
                have e15 : z 88 = .bool true := hz 15 _ (hall 15 (by decide)) rfl
                have e16 : z 89 = .bool true := hz 16 _ (hall 16 (by decide)) rfl
                have e17 : z 90 = .agg (lab e f) := hz 17 _ (hall 17 (by decide)) rfl
                have e18 : z 91 = .agg (lab b d) := hz 18 _ (hall 18 (by decide)) rfl
                have e19 : z 92 = .bool y2 := hz 19 _ (hall 19 (by decide)) rfl
                have e20 : z 93 = .agg (lab e f) := hz 20 _ (hall 20 (by decide)) rfl
                have e21 : z 94 = .agg (lab ml mc) := hz 21 _ (hall 21 (by decide)) rfl
                have e22 : z 95 = .bool y2 := hz 22 _ (hall 22 (by decide)) rfl
                have e23 : z 96 = .bool false := hz 23 _ (hall 23 (by decide)) rfl
                have e24 : z 97 = .bool false := hz 24 _ (hall 24 (by decide)) rfl
                have e25 : z 98 = .bool false := hz 25 _ (hall 25 (by decide)) rfl
                clear hall hz hI 
                obtain rfl := ha.out
                clear ha
                clear apx
                have E := Lib.hid e25
                have HF := Lib.hid (HF2.out.later hx.out)
                clear e0 e1 e2 e3 e4 e5 e6 e7 e8 e9 e10 e11 e12 e13 e14 e15 e16 e17 e18 e19 e20 e21 e22 e23 e24 e25
                dsimp only
                rw [E.out]
                go_wp2
                go_meet
                exact ⟨rfl, HF⟩
              · rintro ll aa wx i ⟨hI, z, ha, hz⟩ hi hu hw
                obtain rfl := ha.out
                have hsz := Lib.hid hI.out.1
                have hx := Lib.hid hI.out.2
                clear ha hI
                have hin : i < 26 := hi
                obtain rfl | rfl | rfl | rfl | rfl | rfl | rfl | rfl | rfl | rfl | rfl | rfl | rfl | rfl | rfl | rfl | rfl | rfl | rfl | rfl | rfl | rfl | rfl | rfl | rfl | rfl : i = 0 ∨ i = 1 ∨ i = 2 ∨ i = 3 ∨ i = 4 ∨ i = 5 ∨ i = 6 ∨ i = 7 ∨ i = 8 ∨ i = 9 ∨ i = 10 ∨ i = 11 ∨ i = 12 ∨ i = 13 ∨ i = 14 ∨ i = 15 ∨ i = 16 ∨ i = 17 ∨ i = 18 ∨ i = 19 ∨ i = 20 ∨ i = 21 ∨ i = 22 ∨ i = 23 ∨ i = 24 ∨ i = 25 := by omega
                · have cl := (hx.out.block _ (Array.getElem?_eq_some_iff.1 F3.out).1).trans F3.out
                  refine wpOp_plain rfl rfl (wp_load_row 24 (.tmp 3) rfl (g) rfl 24 (lab a c) (0, 0) _ cl Tryd.underlying24 rfl infoL ?_)
                  go_simp
                  exact ⟨⟨by simp [hsz.out], hx.out⟩, upd z 73 (.agg (lab a c)), (by unfold Hid; simp [upd]), hz.next apx hsz.out 0 (by decide) _ (fun _ h => Option.some.inj h)⟩
                · have cl := (hx.out.block _ (Array.getElem?_eq_some_iff.1 F5.out).1).trans F5.out
                  refine wpOp_plain rfl rfl (wp_load_row 24 (.tmp 5) rfl (g5) rfl 24 (lab e f) (0, 0) _ cl Tryd.underlying24 rfl infoL ?_)
                  go_simp
                  exact ⟨⟨by simp [hsz.out], hx.out⟩, upd z 74 (.agg (lab e f)), (by unfold Hid; simp [upd]), hz.next apx hsz.out 1 (by decide) _ (fun _ h => Option.some.inj h)⟩
                · have e0 : z 73 = .agg (lab a c) := hz 0 _ (hw 0 (by kernel_rfl)) rfl
                  have e1 : z 74 = .agg (lab e f) := hz 1 _ (hw 1 (by kernel_rfl)) rfl
                  refine wpOp_plain rfl rfl ?_
                  go_simp
                  go_at_call 9
                  refine (HAC.out wx).mono ?_
                  rintro e w' ⟨rfl, low⟩
                  exact ⟨⟨by simp [hsz.out], hx.out.trans (low.mono hx.out.size)⟩, upd z 75 (.bool true), (by unfold Hid; simp [upd, e0, e1]), hz.next apx hsz.out 2 (by decide) _ (fun _ h => Option.some.inj h)⟩
                · have e2 : z 75 = .bool true := hz 2 _ (hw 2 (by kernel_rfl)) rfl
                  refine wpOp_plain rfl rfl ?_
                  go_simp
                  exact ⟨⟨by simp [hsz.out], hx.out⟩, upd z 76 (.bool true), (by unfold Hid; simp [upd, e2]), hz.next apx hsz.out 3 (by decide) _ (fun _ h => Option.some.inj h)⟩
                · have e3 : z 76 = .bool true := hz 3 _ (hw 3 (by kernel_rfl)) rfl
                  have cl := (hx.out.block _ (Array.getElem?_eq_some_iff.1 F4.out).1).trans F4.out
                  refine wpOp_want rfl (by simp [Region.wanted, yielded, e3]) (wp_load_row 24 (.tmp 4) rfl (g4) rfl 24 (lab b d) (0, 0) _ cl Tryd.underlying24 rfl infoL ?_)
                  go_simp
                  exact ⟨⟨by simp [hsz.out], hx.out⟩, upd z 77 (.agg (lab b d)), (by unfold Hid; simp [upd, e3]), hz.next apx hsz.out 4 (by decide) _ (fun _ h => Option.some.inj h)⟩
                · have e3 : z 76 = .bool true := hz 3 _ (hw 3 (by kernel_rfl)) rfl
                  have cl := (hx.out.block _ (Array.getElem?_eq_some_iff.1 F5.out).1).trans F5.out
                  refine wpOp_want rfl (by simp [Region.wanted, yielded, e3]) (wp_load_row 24 (.tmp 5) rfl (g5) rfl 24 (lab e f) (0, 0) _ cl Tryd.underlying24 rfl infoL ?_)
                  go_simp
                  exact ⟨⟨by simp [hsz.out], hx.out⟩, upd z 78 (.agg (lab e f)), (by unfold Hid; simp [upd, e3]), hz.next apx hsz.out 5 (by decide) _ (fun _ h => Option.some.inj h)⟩
                · have e3 : z 76 = .bool true := hz 3 _ (hw 3 (by kernel_rfl)) rfl
                  have e4 : z 77 = .agg (lab b d) := hz 4 _ (hw 4 (by kernel_rfl)) rfl
                  have e5 : z 78 = .agg (lab e f) := hz 5 _ (hw 5 (by kernel_rfl)) rfl
                  refine wpOp_want rfl (by simp [Region.wanted, yielded, e3]) ?_
                  go_simp
                  go_at_call 9
                  refine (HBC.out wx).mono ?_
                  rintro e w' ⟨rfl, low⟩
                  exact ⟨⟨by simp [hsz.out], hx.out.trans (low.mono hx.out.size)⟩, upd z 79 (.bool y), (by unfold Hid; simp [upd, e3, e4, e5]), hz.next apx hsz.out 6 (by decide) _ (fun _ h => Option.some.inj h)⟩
                · have e3 : z 76 = .bool true := hz 3 _ (hw 3 (by kernel_rfl)) rfl
                  have cl := (hx.out.block _ (Array.getElem?_eq_some_iff.1 F7.out).1).trans F7.out
                  refine wpOp_want rfl (by simp [Region.wanted, yielded, e3]) (wp_load_row 24 (.tmp 7) rfl (n7) rfl 24 (lab jl jc) (0, 0) _ cl Tryd.underlying24 rfl infoL ?_)
                  go_simp
                  exact ⟨⟨by simp [hsz.out], hx.out⟩, upd z 80 (.agg (lab jl jc)), (by unfold Hid; simp [upd, e3]), hz.next apx hsz.out 7 (by decide) _ (fun _ h => Option.some.inj h)⟩
                · have e3 : z 76 = .bool true := hz 3 _ (hw 3 (by kernel_rfl)) rfl
                  have cl := (hx.out.block _ (Array.getElem?_eq_some_iff.1 F5.out).1).trans F5.out
                  refine wpOp_want rfl (by simp [Region.wanted, yielded, e3]) (wp_load_row 24 (.tmp 5) rfl (g5) rfl 24 (lab e f) (0, 0) _ cl Tryd.underlying24 rfl infoL ?_)
                  go_simp
                  exact ⟨⟨by simp [hsz.out], hx.out⟩, upd z 81 (.agg (lab e f)), (by unfold Hid; simp [upd, e3]), hz.next apx hsz.out 8 (by decide) _ (fun _ h => Option.some.inj h)⟩
                · have e3 : z 76 = .bool true := hz 3 _ (hw 3 (by kernel_rfl)) rfl
                  have e7 : z 80 = .agg (lab jl jc) := hz 7 _ (hw 7 (by kernel_rfl)) rfl
                  have e8 : z 81 = .agg (lab e f) := hz 8 _ (hw 8 (by kernel_rfl)) rfl
                  refine wpOp_want rfl (by simp [Region.wanted, yielded, e3]) ?_
                  go_simp
                  go_at_call 9
                  refine (HJC.out wx).mono ?_
                  rintro e w' ⟨rfl, low⟩
                  exact ⟨⟨by simp [hsz.out], hx.out.trans (low.mono hx.out.size)⟩, upd z 82 (.bool y), (by unfold Hid; simp [upd, e3, e7, e8]), hz.next apx hsz.out 9 (by decide) _ (fun _ h => Option.some.inj h)⟩
                · have e3 : z 76 = .bool true := hz 3 _ (hw 3 (by kernel_rfl)) rfl
                  have e6 : z 79 = .bool y := hz 6 _ (hw 6 (by kernel_rfl)) rfl
                  have e9 : z 82 = .bool y := hz 9 _ (hw 9 (by kernel_rfl)) rfl
                  refine wpOp_want rfl (by simp [Region.wanted, yielded, e3]) ?_
                  go_simp
                  exact ⟨⟨by simp [hsz.out], hx.out⟩, upd z 83 (.bool false), (by unfold Hid; simp [upd, e3, e6, e9]), hz.next apx hsz.out 10 (by decide) _ (fun _ h => Option.some.inj h)⟩
                · have e3 : z 76 = .bool true := hz 3 _ (hw 3 (by kernel_rfl)) rfl
                  have e10 : z 83 = .bool false := hz 10 _ (hw 10 (by kernel_rfl)) rfl
                  refine wpOp_plain rfl rfl ?_
                  go_simp
                  exact ⟨⟨by simp [hsz.out], hx.out⟩, upd z 84 (.bool false), (by unfold Hid; simp [upd, e3, e10]), hz.next apx hsz.out 11 (by decide) _ (fun _ h => Option.some.inj h)⟩
                · have e11 : z 84 = .bool false := hz 11 _ (hw 11 (by kernel_rfl)) rfl
                  refine wpOp_plain rfl rfl ?_
                  go_simp
                  exact ⟨⟨by simp [hsz.out], hx.out⟩, upd z 85 (.bool false), (by unfold Hid; simp [upd, e11]), hz.next apx hsz.out 12 (by decide) _ (fun _ h => Option.some.inj h)⟩
                · have e12 : z 85 = .bool false := hz 12 _ (hw 12 (by kernel_rfl)) rfl
                  have cl := (hx.out.block _ (Array.getElem?_eq_some_iff.1 F5.out).1).trans F5.out
                  refine wpOp_want rfl (by simp [Region.wanted, yielded, e12]) (wp_load_row 24 (.tmp 5) rfl (g5) rfl 24 (lab e f) (0, 0) _ cl Tryd.underlying24 rfl infoL ?_)
                  go_simp
                  exact ⟨⟨by simp [hsz.out], hx.out⟩, upd z 86 (.agg (lab e f)), (by unfold Hid; simp [upd, e12]), hz.next apx hsz.out 13 (by decide) _ (fun _ h => Option.some.inj h)⟩
                · have e12 : z 85 = .bool false := hz 12 _ (hw 12 (by kernel_rfl)) rfl
                  have cl := (hx.out.block _ (Array.getElem?_eq_some_iff.1 F3.out).1).trans F3.out
                  refine wpOp_want rfl (by simp [Region.wanted, yielded, e12]) (wp_load_row 24 (.tmp 3) rfl (g) rfl 24 (lab a c) (0, 0) _ cl Tryd.underlying24 rfl infoL ?_)
                  go_simp
                  exact ⟨⟨by simp [hsz.out], hx.out⟩, upd z 87 (.agg (lab a c)), (by unfold Hid; simp [upd, e12]), hz.next apx hsz.out 14 (by decide) _ (fun _ h => Option.some.inj h)⟩
                · have e12 : z 85 = .bool false := hz 12 _ (hw 12 (by kernel_rfl)) rfl
                  have e13 : z 86 = .agg (lab e f) := hz 13 _ (hw 13 (by kernel_rfl)) rfl
                  have e14 : z 87 = .agg (lab a c) := hz 14 _ (hw 14 (by kernel_rfl)) rfl
                  refine wpOp_want rfl (by simp [Region.wanted, yielded, e12]) ?_
                  go_simp
                  go_at_call 9
                  refine (HCA.out wx).mono ?_
                  rintro e w' ⟨rfl, low⟩
                  exact ⟨⟨by simp [hsz.out], hx.out.trans (low.mono hx.out.size)⟩, upd z 88 (.bool true), (by unfold Hid; simp [upd, e12, e13, e14]), hz.next apx hsz.out 15 (by decide) _ (fun _ h => Option.some.inj h)⟩
                · have e12 : z 85 = .bool false := hz 12 _ (hw 12 (by kernel_rfl)) rfl
                  have e15 : z 88 = .bool true := hz 15 _ (hw 15 (by kernel_rfl)) rfl
                  refine wpOp_want rfl (by simp [Region.wanted, yielded, e12]) ?_
                  go_simp
                  exact ⟨⟨by simp [hsz.out], hx.out⟩, upd z 89 (.bool true), (by unfold Hid; simp [upd, e12, e15]), hz.next apx hsz.out 16 (by decide) _ (fun _ h => Option.some.inj h)⟩
                · have e16 : z 89 = .bool true := hz 16 _ (hw 16 (by kernel_rfl)) rfl
                  have cl := (hx.out.block _ (Array.getElem?_eq_some_iff.1 F5.out).1).trans F5.out
                  refine wpOp_want rfl (by simp [Region.wanted, yielded, e16]) (wp_load_row 24 (.tmp 5) rfl (g5) rfl 24 (lab e f) (0, 0) _ cl Tryd.underlying24 rfl infoL ?_)
                  go_simp
                  exact ⟨⟨by simp [hsz.out], hx.out⟩, upd z 90 (.agg (lab e f)), (by unfold Hid; simp [upd, e16]), hz.next apx hsz.out 17 (by decide) _ (fun _ h => Option.some.inj h)⟩
                · have e16 : z 89 = .bool true := hz 16 _ (hw 16 (by kernel_rfl)) rfl
                  have cl := (hx.out.block _ (Array.getElem?_eq_some_iff.1 F4.out).1).trans F4.out
                  refine wpOp_want rfl (by simp [Region.wanted, yielded, e16]) (wp_load_row 24 (.tmp 4) rfl (g4) rfl 24 (lab b d) (0, 0) _ cl Tryd.underlying24 rfl infoL ?_)
                  go_simp
                  exact ⟨⟨by simp [hsz.out], hx.out⟩, upd z 91 (.agg (lab b d)), (by unfold Hid; simp [upd, e16]), hz.next apx hsz.out 18 (by decide) _ (fun _ h => Option.some.inj h)⟩
                · have e16 : z 89 = .bool true := hz 16 _ (hw 16 (by kernel_rfl)) rfl
                  have e17 : z 90 = .agg (lab e f) := hz 17 _ (hw 17 (by kernel_rfl)) rfl
                  have e18 : z 91 = .agg (lab b d) := hz 18 _ (hw 18 (by kernel_rfl)) rfl
                  refine wpOp_want rfl (by simp [Region.wanted, yielded, e16]) ?_
                  go_simp
                  go_at_call 9
                  refine (HCB.out wx).mono ?_
                  rintro e w' ⟨rfl, low⟩
                  exact ⟨⟨by simp [hsz.out], hx.out.trans (low.mono hx.out.size)⟩, upd z 92 (.bool y2), (by unfold Hid; simp [upd, e16, e17, e18]), hz.next apx hsz.out 19 (by decide) _ (fun _ h => Option.some.inj h)⟩
                · have e16 : z 89 = .bool true := hz 16 _ (hw 16 (by kernel_rfl)) rfl
                  have cl := (hx.out.block _ (Array.getElem?_eq_some_iff.1 F5.out).1).trans F5.out
                  refine wpOp_want rfl (by simp [Region.wanted, yielded, e16]) (wp_load_row 24 (.tmp 5) rfl (g5) rfl 24 (lab e f) (0, 0) _ cl Tryd.underlying24 rfl infoL ?_)
                  go_simp
                  exact ⟨⟨by simp [hsz.out], hx.out⟩, upd z 93 (.agg (lab e f)), (by unfold Hid; simp [upd, e16]), hz.next apx hsz.out 20 (by decide) _ (fun _ h => Option.some.inj h)⟩
                · have e16 : z 89 = .bool true := hz 16 _ (hw 16 (by kernel_rfl)) rfl
                  have cl := (hx.out.block _ (Array.getElem?_eq_some_iff.1 F8.out).1).trans F8.out
                  refine wpOp_want rfl (by simp [Region.wanted, yielded, e16]) (wp_load_row 24 (.tmp 8) rfl (n8) rfl 24 (lab ml mc) (0, 0) _ cl Tryd.underlying24 rfl infoL ?_)
                  go_simp
                  exact ⟨⟨by simp [hsz.out], hx.out⟩, upd z 94 (.agg (lab ml mc)), (by unfold Hid; simp [upd, e16]), hz.next apx hsz.out 21 (by decide) _ (fun _ h => Option.some.inj h)⟩
                · have e16 : z 89 = .bool true := hz 16 _ (hw 16 (by kernel_rfl)) rfl
                  have e20 : z 93 = .agg (lab e f) := hz 20 _ (hw 20 (by kernel_rfl)) rfl
                  have e21 : z 94 = .agg (lab ml mc) := hz 21 _ (hw 21 (by kernel_rfl)) rfl
                  refine wpOp_want rfl (by simp [Region.wanted, yielded, e16]) ?_
                  go_simp
                  go_at_call 9
                  refine (HCM.out wx).mono ?_
                  rintro e w' ⟨rfl, low⟩
                  exact ⟨⟨by simp [hsz.out], hx.out.trans (low.mono hx.out.size)⟩, upd z 95 (.bool y2), (by unfold Hid; simp [upd, e16, e20, e21]), hz.next apx hsz.out 22 (by decide) _ (fun _ h => Option.some.inj h)⟩
                · have e16 : z 89 = .bool true := hz 16 _ (hw 16 (by kernel_rfl)) rfl
                  have e19 : z 92 = .bool y2 := hz 19 _ (hw 19 (by kernel_rfl)) rfl
                  have e22 : z 95 = .bool y2 := hz 22 _ (hw 22 (by kernel_rfl)) rfl
                  refine wpOp_want rfl (by simp [Region.wanted, yielded, e16]) ?_
                  go_simp
                  exact ⟨⟨by simp [hsz.out], hx.out⟩, upd z 96 (.bool false), (by unfold Hid; simp [upd, e16, e19, e22]), hz.next apx hsz.out 23 (by decide) _ (fun _ h => Option.some.inj h)⟩
                · have e12 : z 85 = .bool false := hz 12 _ (hw 12 (by kernel_rfl)) rfl
                  have e16 : z 89 = .bool true := hz 16 _ (hw 16 (by kernel_rfl)) rfl
                  have e23 : z 96 = .bool false := hz 23 _ (hw 23 (by kernel_rfl)) rfl
                  refine wpOp_want rfl (by simp [Region.wanted, yielded, e12]) ?_
                  go_simp
                  exact ⟨⟨by simp [hsz.out], hx.out⟩, upd z 97 (.bool false), (by unfold Hid; simp [upd, e12, e16, e23]), hz.next apx hsz.out 24 (by decide) _ (fun _ h => Option.some.inj h)⟩
                · have e12 : z 85 = .bool false := hz 12 _ (hw 12 (by kernel_rfl)) rfl
                  have e24 : z 97 = .bool false := hz 24 _ (hw 24 (by kernel_rfl)) rfl
                  refine wpOp_plain rfl rfl ?_
                  go_simp
                  exact ⟨⟨by simp [hsz.out], hx.out⟩, upd z 98 (.bool false), (by unfold Hid; simp [upd, e12, e24]), hz.next apx hsz.out 25 (by decide) _ (fun _ h => Option.some.inj h)⟩
              · exact ⟨⟨rfl, (Below.refl _ _).drew⟩, fun xx => (#[.agg (lab a c), .agg (lab b d), .agg (lab e f), .pointer (some ⟨g, 0, none⟩), .pointer (some ⟨g4, 0, none⟩), .pointer (some ⟨g5, 0, none⟩), .bool false, .pointer (some ⟨n7, 0, none⟩), .pointer (some ⟨n8, 0, none⟩), undef, u10, u11, u12, u13, u14, u15, u16, u17, u18, u19, u20, u21, u22, u23, u24, u25, u26, u27, u28, u29, u30, u31, u32, u33, u34, u35, u36, u37, u38, u39, u40, u41, u42, u43, u44, u45, u46, u47, u48, u49, u50, u51, u52, u53, u54, u55, u56, u57, u58, u59, u60, u61, u62, u63, u64, u65, u66, u67, u68, u69, u70, u71, .bool false, u73, u74, u75, u76, u77, u78, u79, u80, u81, u82, u83, u84, u85, u86, u87, u88, u89, u90, u91, u92, u93, u94, u95, u96, u97, u98, u99, u100, u101, u102, u103, u104, u105, u106, u107, u108, u109, u110, u111, u112, u113, u114, u115, u116, u117, u118, u119, u120, u121, u122, u123, u124, u125, u126, u127, u128, u129, u130, u131, u132, u133, u134, u135, u136, u137, u138, u139] : Array Value).getD xx undef, rfl, Holding.start⟩
            | false =>
              have HCA := Lib.hid (fun wx => below_is hf hc hca wx)
              clear hjc hcm hac hca hy hy2
              have apx : apartB [73, 74, 75, 76, 77, 78, 79, 80, 81, 82, 83, 84, 85, 86, 87, 88, 89, 90, 91, 92, 93, 94, 95, 96, 97, 98] = true := by decide
              refine wp_region_any (by kernel_rfl) ?_
              change wpAny _ _ _ _ _ _ _ (World.drew _)
              refine wpAny_inv (fun ll aa wx => Hid (ll.size = 26 ∧ Below wf.heap.size wf wx) ∧ ∃ (z : Nat → Value), Hid (aa = ⟨#[.agg (lab a c), .agg (lab b d), .agg (lab e f), .pointer (some ⟨g, 0, none⟩), .pointer (some ⟨g4, 0, none⟩), .pointer (some ⟨g5, 0, none⟩), .bool false, .pointer (some ⟨n7, 0, none⟩), .pointer (some ⟨n8, 0, none⟩), undef, u10, u11, u12, u13, u14, u15, u16, u17, u18, u19, u20, u21, u22, u23, u24, u25, u26, u27, u28, u29, u30, u31, u32, u33, u34, u35, u36, u37, u38, u39, u40, u41, u42, u43, u44, u45, u46, u47, u48, u49, u50, u51, u52, u53, u54, u55, u56, u57, u58, u59, u60, u61, u62, u63, u64, u65, u66, u67, u68, u69, u70, u71, .bool false, z 73, z 74, z 75, z 76, z 77, z 78, z 79, z 80, z 81, z 82, z 83, z 84, z 85, z 86, z 87, z 88, z 89, z 90, z 91, z 92, z 93, z 94, z 95, z 96, z 97, z 98, u99, u100, u101, u102, u103, u104, u105, u106, u107, u108, u109, u110, u111, u112, u113, u114, u115, u116, u117, u118, u119, u120, u121, u122, u123, u124, u125, u126, u127, u128, u129, u130, u131, u132, u133, u134, u135, u136, u137, u138, u139], []⟩) ∧ Holding [73, 74, 75, 76, 77, 78, 79, 80, 81, 82, 83, 84, 85, 86, 87, 88, 89, 90, 91, 92, 93, 94, 95, 96, 97, 98] [some (.agg (lab a c)), some (.agg (lab e f)), some (.bool true), some (.bool true), some (.agg (lab b d)), some (.agg (lab e f)), some (.bool y), some (.agg (lab jl jc)), some (.agg (lab e f)), some (.bool y), some (.bool false), some (.bool false), some (.bool false), some (.agg (lab e f)), some (.agg (lab a c)), some (.bool false), some (.bool false), none, none, none, none, none, none, none, some (.bool false), some (.bool false)] ll z) ?_ (by kernel_rfl) ?_ ?_ _ _ _ _ (unlisted_none _) ?_
              · rintro ll aa wx ⟨hI, _⟩
                exact hI.out.1
              · rintro ll aa wx ⟨hI, z, ha, hz⟩ hall
                have hx := Lib.hid hI.out.2
                have e0 : z 73 = .agg (lab a c) := hz 0 _ (hall 0 (by decide)) rfl
                have e1 : z 74 = .agg (lab e f) := hz 1 _ (hall 1 (by decide)) rfl
                have e2 : z 75 = .bool true := hz 2 _ (hall 2 (by decide)) rfl
                have e3 : z 76 = .bool true := hz 3 _ (hall 3 (by decide)) rfl
                have e4 : z 77 = .agg (lab b d) := hz 4 _ (hall 4 (by decide)) rfl
                have e5 : z 78 = .agg (lab e f) := hz 5 _ (hall 5 (by decide)) rfl
                have e6 : z 79 = .bool y := hz 6 _ (hall 6 (by decide)) rfl
                have e7 : z 80 = .agg (lab jl jc) := hz 7 _ (hall 7 (by decide)) rfl
                have e8 : z 81 = .agg (lab e f) := hz 8 _ (hall 8 (by decide)) rfl
                have e9 : z 82 = .bool y := hz 9 _ (hall 9 (by decide)) rfl
                have e10 : z 83 = .bool false := hz 10 _ (hall 10 (by decide)) rfl
                have e11 : z 84 = .bool false := hz 11 _ (hall 11 (by decide)) rfl
                have e12 : z 85 = .bool false := hz 12 _ (hall 12 (by decide)) rfl
                have e13 : z 86 = .agg (lab e f) := hz 13 _ (hall 13 (by decide)) rfl
                have e14 : z 87 = .agg (lab a c) := hz 14 _ (hall 14 (by decide)) rfl
                have e15 : z 88 = .bool false := hz 15 _ (hall 15 (by decide)) rfl
                have e16 : z 89 = .bool false := hz 16 _ (hall 16 (by decide)) rfl
                have e24 : z 97 = .bool false := hz 24 _ (hall 24 (by decide)) rfl
                have e25 : z 98 = .bool false := hz 25 _ (hall 25 (by decide)) rfl
                clear hall hz hI 
                obtain rfl := ha.out
                clear ha
                clear apx
                have E := Lib.hid e25
                have HF := Lib.hid (HF2.out.later hx.out)
                clear e0 e1 e2 e3 e4 e5 e6 e7 e8 e9 e10 e11 e12 e13 e14 e15 e16 e24 e25
                dsimp only
                rw [E.out]
                go_wp2
                go_meet
                exact ⟨rfl, HF⟩
              · rintro ll aa wx i ⟨hI, z, ha, hz⟩ hi hu hw
                obtain rfl := ha.out
                have hsz := Lib.hid hI.out.1
                have hx := Lib.hid hI.out.2
                clear ha hI
                have hin : i < 26 := hi
                obtain rfl | rfl | rfl | rfl | rfl | rfl | rfl | rfl | rfl | rfl | rfl | rfl | rfl | rfl | rfl | rfl | rfl | rfl | rfl | rfl | rfl | rfl | rfl | rfl | rfl | rfl : i = 0 ∨ i = 1 ∨ i = 2 ∨ i = 3 ∨ i = 4 ∨ i = 5 ∨ i = 6 ∨ i = 7 ∨ i = 8 ∨ i = 9 ∨ i = 10 ∨ i = 11 ∨ i = 12 ∨ i = 13 ∨ i = 14 ∨ i = 15 ∨ i = 16 ∨ i = 17 ∨ i = 18 ∨ i = 19 ∨ i = 20 ∨ i = 21 ∨ i = 22 ∨ i = 23 ∨ i = 24 ∨ i = 25 := by omega
                · have cl := (hx.out.block _ (Array.getElem?_eq_some_iff.1 F3.out).1).trans F3.out
                  refine wpOp_plain rfl rfl (wp_load_row 24 (.tmp 3) rfl (g) rfl 24 (lab a c) (0, 0) _ cl Tryd.underlying24 rfl infoL ?_)
                  go_simp
                  exact ⟨⟨by simp [hsz.out], hx.out⟩, upd z 73 (.agg (lab a c)), (by unfold Hid; simp [upd]), hz.next apx hsz.out 0 (by decide) _ (fun _ h => Option.some.inj h)⟩
                · have cl := (hx.out.block _ (Array.getElem?_eq_some_iff.1 F5.out).1).trans F5.out
                  refine wpOp_plain rfl rfl (wp_load_row 24 (.tmp 5) rfl (g5) rfl 24 (lab e f) (0, 0) _ cl Tryd.underlying24 rfl infoL ?_)
                  go_simp
                  exact ⟨⟨by simp [hsz.out], hx.out⟩, upd z 74 (.agg (lab e f)), (by unfold Hid; simp [upd]), hz.next apx hsz.out 1 (by decide) _ (fun _ h => Option.some.inj h)⟩
                · have e0 : z 73 = .agg (lab a c) := hz 0 _ (hw 0 (by kernel_rfl)) rfl
                  have e1 : z 74 = .agg (lab e f) := hz 1 _ (hw 1 (by kernel_rfl)) rfl
                  refine wpOp_plain rfl rfl ?_
                  go_simp
                  go_at_call 9
                  refine (HAC.out wx).mono ?_
                  rintro e w' ⟨rfl, low⟩
                  exact ⟨⟨by simp [hsz.out], hx.out.trans (low.mono hx.out.size)⟩, upd z 75 (.bool true), (by unfold Hid; simp [upd, e0, e1]), hz.next apx hsz.out 2 (by decide) _ (fun _ h => Option.some.inj h)⟩
                · have e2 : z 75 = .bool true := hz 2 _ (hw 2 (by kernel_rfl)) rfl
                  refine wpOp_plain rfl rfl ?_
                  go_simp
                  exact ⟨⟨by simp [hsz.out], hx.out⟩, upd z 76 (.bool true), (by unfold Hid; simp [upd, e2]), hz.next apx hsz.out 3 (by decide) _ (fun _ h => Option.some.inj h)⟩
                · have e3 : z 76 = .bool true := hz 3 _ (hw 3 (by kernel_rfl)) rfl
                  have cl := (hx.out.block _ (Array.getElem?_eq_some_iff.1 F4.out).1).trans F4.out
                  refine wpOp_want rfl (by simp [Region.wanted, yielded, e3]) (wp_load_row 24 (.tmp 4) rfl (g4) rfl 24 (lab b d) (0, 0) _ cl Tryd.underlying24 rfl infoL ?_)
                  go_simp
                  exact ⟨⟨by simp [hsz.out], hx.out⟩, upd z 77 (.agg (lab b d)), (by unfold Hid; simp [upd, e3]), hz.next apx hsz.out 4 (by decide) _ (fun _ h => Option.some.inj h)⟩
                · have e3 : z 76 = .bool true := hz 3 _ (hw 3 (by kernel_rfl)) rfl
                  have cl := (hx.out.block _ (Array.getElem?_eq_some_iff.1 F5.out).1).trans F5.out
                  refine wpOp_want rfl (by simp [Region.wanted, yielded, e3]) (wp_load_row 24 (.tmp 5) rfl (g5) rfl 24 (lab e f) (0, 0) _ cl Tryd.underlying24 rfl infoL ?_)
                  go_simp
                  exact ⟨⟨by simp [hsz.out], hx.out⟩, upd z 78 (.agg (lab e f)), (by unfold Hid; simp [upd, e3]), hz.next apx hsz.out 5 (by decide) _ (fun _ h => Option.some.inj h)⟩
                · have e3 : z 76 = .bool true := hz 3 _ (hw 3 (by kernel_rfl)) rfl
                  have e4 : z 77 = .agg (lab b d) := hz 4 _ (hw 4 (by kernel_rfl)) rfl
                  have e5 : z 78 = .agg (lab e f) := hz 5 _ (hw 5 (by kernel_rfl)) rfl
                  refine wpOp_want rfl (by simp [Region.wanted, yielded, e3]) ?_
                  go_simp
                  go_at_call 9
                  refine (HBC.out wx).mono ?_
                  rintro e w' ⟨rfl, low⟩
                  exact ⟨⟨by simp [hsz.out], hx.out.trans (low.mono hx.out.size)⟩, upd z 79 (.bool y), (by unfold Hid; simp [upd, e3, e4, e5]), hz.next apx hsz.out 6 (by decide) _ (fun _ h => Option.some.inj h)⟩
                · have e3 : z 76 = .bool true := hz 3 _ (hw 3 (by kernel_rfl)) rfl
                  have cl := (hx.out.block _ (Array.getElem?_eq_some_iff.1 F7.out).1).trans F7.out
                  refine wpOp_want rfl (by simp [Region.wanted, yielded, e3]) (wp_load_row 24 (.tmp 7) rfl (n7) rfl 24 (lab jl jc) (0, 0) _ cl Tryd.underlying24 rfl infoL ?_)
                  go_simp
                  exact ⟨⟨by simp [hsz.out], hx.out⟩, upd z 80 (.agg (lab jl jc)), (by unfold Hid; simp [upd, e3]), hz.next apx hsz.out 7 (by decide) _ (fun _ h => Option.some.inj h)⟩
                · have e3 : z 76 = .bool true := hz 3 _ (hw 3 (by kernel_rfl)) rfl
                  have cl := (hx.out.block _ (Array.getElem?_eq_some_iff.1 F5.out).1).trans F5.out
                  refine wpOp_want rfl (by simp [Region.wanted, yielded, e3]) (wp_load_row 24 (.tmp 5) rfl (g5) rfl 24 (lab e f) (0, 0) _ cl Tryd.underlying24 rfl infoL ?_)
                  go_simp
                  exact ⟨⟨by simp [hsz.out], hx.out⟩, upd z 81 (.agg (lab e f)), (by unfold Hid; simp [upd, e3]), hz.next apx hsz.out 8 (by decide) _ (fun _ h => Option.some.inj h)⟩
                · have e3 : z 76 = .bool true := hz 3 _ (hw 3 (by kernel_rfl)) rfl
                  have e7 : z 80 = .agg (lab jl jc) := hz 7 _ (hw 7 (by kernel_rfl)) rfl
                  have e8 : z 81 = .agg (lab e f) := hz 8 _ (hw 8 (by kernel_rfl)) rfl
                  refine wpOp_want rfl (by simp [Region.wanted, yielded, e3]) ?_
                  go_simp
                  go_at_call 9
                  refine (HJC.out wx).mono ?_
                  rintro e w' ⟨rfl, low⟩
                  exact ⟨⟨by simp [hsz.out], hx.out.trans (low.mono hx.out.size)⟩, upd z 82 (.bool y), (by unfold Hid; simp [upd, e3, e7, e8]), hz.next apx hsz.out 9 (by decide) _ (fun _ h => Option.some.inj h)⟩
                · have e3 : z 76 = .bool true := hz 3 _ (hw 3 (by kernel_rfl)) rfl
                  have e6 : z 79 = .bool y := hz 6 _ (hw 6 (by kernel_rfl)) rfl
                  have e9 : z 82 = .bool y := hz 9 _ (hw 9 (by kernel_rfl)) rfl
                  refine wpOp_want rfl (by simp [Region.wanted, yielded, e3]) ?_
                  go_simp
                  exact ⟨⟨by simp [hsz.out], hx.out⟩, upd z 83 (.bool false), (by unfold Hid; simp [upd, e3, e6, e9]), hz.next apx hsz.out 10 (by decide) _ (fun _ h => Option.some.inj h)⟩
                · have e3 : z 76 = .bool true := hz 3 _ (hw 3 (by kernel_rfl)) rfl
                  have e10 : z 83 = .bool false := hz 10 _ (hw 10 (by kernel_rfl)) rfl
                  refine wpOp_plain rfl rfl ?_
                  go_simp
                  exact ⟨⟨by simp [hsz.out], hx.out⟩, upd z 84 (.bool false), (by unfold Hid; simp [upd, e3, e10]), hz.next apx hsz.out 11 (by decide) _ (fun _ h => Option.some.inj h)⟩
                · have e11 : z 84 = .bool false := hz 11 _ (hw 11 (by kernel_rfl)) rfl
                  refine wpOp_plain rfl rfl ?_
                  go_simp
                  exact ⟨⟨by simp [hsz.out], hx.out⟩, upd z 85 (.bool false), (by unfold Hid; simp [upd, e11]), hz.next apx hsz.out 12 (by decide) _ (fun _ h => Option.some.inj h)⟩
                · have e12 : z 85 = .bool false := hz 12 _ (hw 12 (by kernel_rfl)) rfl
                  have cl := (hx.out.block _ (Array.getElem?_eq_some_iff.1 F5.out).1).trans F5.out
                  refine wpOp_want rfl (by simp [Region.wanted, yielded, e12]) (wp_load_row 24 (.tmp 5) rfl (g5) rfl 24 (lab e f) (0, 0) _ cl Tryd.underlying24 rfl infoL ?_)
                  go_simp
                  exact ⟨⟨by simp [hsz.out], hx.out⟩, upd z 86 (.agg (lab e f)), (by unfold Hid; simp [upd, e12]), hz.next apx hsz.out 13 (by decide) _ (fun _ h => Option.some.inj h)⟩
                · have e12 : z 85 = .bool false := hz 12 _ (hw 12 (by kernel_rfl)) rfl
                  have cl := (hx.out.block _ (Array.getElem?_eq_some_iff.1 F3.out).1).trans F3.out
                  refine wpOp_want rfl (by simp [Region.wanted, yielded, e12]) (wp_load_row 24 (.tmp 3) rfl (g) rfl 24 (lab a c) (0, 0) _ cl Tryd.underlying24 rfl infoL ?_)
                  go_simp
                  exact ⟨⟨by simp [hsz.out], hx.out⟩, upd z 87 (.agg (lab a c)), (by unfold Hid; simp [upd, e12]), hz.next apx hsz.out 14 (by decide) _ (fun _ h => Option.some.inj h)⟩
                · have e12 : z 85 = .bool false := hz 12 _ (hw 12 (by kernel_rfl)) rfl
                  have e13 : z 86 = .agg (lab e f) := hz 13 _ (hw 13 (by kernel_rfl)) rfl
                  have e14 : z 87 = .agg (lab a c) := hz 14 _ (hw 14 (by kernel_rfl)) rfl
                  refine wpOp_want rfl (by simp [Region.wanted, yielded, e12]) ?_
                  go_simp
                  go_at_call 9
                  refine (HCA.out wx).mono ?_
                  rintro e w' ⟨rfl, low⟩
                  exact ⟨⟨by simp [hsz.out], hx.out.trans (low.mono hx.out.size)⟩, upd z 88 (.bool false), (by unfold Hid; simp [upd, e12, e13, e14]), hz.next apx hsz.out 15 (by decide) _ (fun _ h => Option.some.inj h)⟩
                · have e12 : z 85 = .bool false := hz 12 _ (hw 12 (by kernel_rfl)) rfl
                  have e15 : z 88 = .bool false := hz 15 _ (hw 15 (by kernel_rfl)) rfl
                  refine wpOp_want rfl (by simp [Region.wanted, yielded, e12]) ?_
                  go_simp
                  exact ⟨⟨by simp [hsz.out], hx.out⟩, upd z 89 (.bool false), (by unfold Hid; simp [upd, e12, e15]), hz.next apx hsz.out 16 (by decide) _ (fun _ h => Option.some.inj h)⟩
                · have e16 : z 89 = .bool false := hz 16 _ (hw 16 (by kernel_rfl)) rfl
                  refine wpOp_skip rfl (by simp [Region.wanted, yielded, e16]) ?_
                  go_simp
                  exact ⟨⟨by simp [hsz.out], hx.out⟩, upd z 90 (undef), (by unfold Hid; simp [upd, e16]), hz.next apx hsz.out 17 (by decide) _ (fun _ h => by cases h)⟩
                · have e16 : z 89 = .bool false := hz 16 _ (hw 16 (by kernel_rfl)) rfl
                  refine wpOp_skip rfl (by simp [Region.wanted, yielded, e16]) ?_
                  go_simp
                  exact ⟨⟨by simp [hsz.out], hx.out⟩, upd z 91 (undef), (by unfold Hid; simp [upd, e16]), hz.next apx hsz.out 18 (by decide) _ (fun _ h => by cases h)⟩
                · have e16 : z 89 = .bool false := hz 16 _ (hw 16 (by kernel_rfl)) rfl
                  refine wpOp_skip rfl (by simp [Region.wanted, yielded, e16]) ?_
                  go_simp
                  exact ⟨⟨by simp [hsz.out], hx.out⟩, upd z 92 (undef), (by unfold Hid; simp [upd, e16]), hz.next apx hsz.out 19 (by decide) _ (fun _ h => by cases h)⟩
                · have e16 : z 89 = .bool false := hz 16 _ (hw 16 (by kernel_rfl)) rfl
                  refine wpOp_skip rfl (by simp [Region.wanted, yielded, e16]) ?_
                  go_simp
                  exact ⟨⟨by simp [hsz.out], hx.out⟩, upd z 93 (undef), (by unfold Hid; simp [upd, e16]), hz.next apx hsz.out 20 (by decide) _ (fun _ h => by cases h)⟩
                · have e16 : z 89 = .bool false := hz 16 _ (hw 16 (by kernel_rfl)) rfl
                  refine wpOp_skip rfl (by simp [Region.wanted, yielded, e16]) ?_
                  go_simp
                  exact ⟨⟨by simp [hsz.out], hx.out⟩, upd z 94 (undef), (by unfold Hid; simp [upd, e16]), hz.next apx hsz.out 21 (by decide) _ (fun _ h => by cases h)⟩
                · have e16 : z 89 = .bool false := hz 16 _ (hw 16 (by kernel_rfl)) rfl
                  refine wpOp_skip rfl (by simp [Region.wanted, yielded, e16]) ?_
                  go_simp
                  exact ⟨⟨by simp [hsz.out], hx.out⟩, upd z 95 (undef), (by unfold Hid; simp [upd, e16]), hz.next apx hsz.out 22 (by decide) _ (fun _ h => by cases h)⟩
                · have e16 : z 89 = .bool false := hz 16 _ (hw 16 (by kernel_rfl)) rfl
                  refine wpOp_skip rfl (by simp [Region.wanted, yielded, e16]) ?_
                  go_simp
                  exact ⟨⟨by simp [hsz.out], hx.out⟩, upd z 96 (undef), (by unfold Hid; simp [upd, e16]), hz.next apx hsz.out 23 (by decide) _ (fun _ h => by cases h)⟩
                · have e12 : z 85 = .bool false := hz 12 _ (hw 12 (by kernel_rfl)) rfl
                  have e16 : z 89 = .bool false := hz 16 _ (hw 16 (by kernel_rfl)) rfl
                  refine wpOp_want rfl (by simp [Region.wanted, yielded, e12]) ?_
                  go_simp
                  exact ⟨⟨by simp [hsz.out], hx.out⟩, upd z 97 (.bool false), (by unfold Hid; simp [upd, e12, e16]), hz.next apx hsz.out 24 (by decide) _ (fun _ h => Option.some.inj h)⟩
                · have e12 : z 85 = .bool false := hz 12 _ (hw 12 (by kernel_rfl)) rfl
                  have e24 : z 97 = .bool false := hz 24 _ (hw 24 (by kernel_rfl)) rfl
                  refine wpOp_plain rfl rfl ?_
                  go_simp
                  exact ⟨⟨by simp [hsz.out], hx.out⟩, upd z 98 (.bool false), (by unfold Hid; simp [upd, e12, e24]), hz.next apx hsz.out 25 (by decide) _ (fun _ h => Option.some.inj h)⟩
              · exact ⟨⟨rfl, (Below.refl _ _).drew⟩, fun xx => (#[.agg (lab a c), .agg (lab b d), .agg (lab e f), .pointer (some ⟨g, 0, none⟩), .pointer (some ⟨g4, 0, none⟩), .pointer (some ⟨g5, 0, none⟩), .bool false, .pointer (some ⟨n7, 0, none⟩), .pointer (some ⟨n8, 0, none⟩), undef, u10, u11, u12, u13, u14, u15, u16, u17, u18, u19, u20, u21, u22, u23, u24, u25, u26, u27, u28, u29, u30, u31, u32, u33, u34, u35, u36, u37, u38, u39, u40, u41, u42, u43, u44, u45, u46, u47, u48, u49, u50, u51, u52, u53, u54, u55, u56, u57, u58, u59, u60, u61, u62, u63, u64, u65, u66, u67, u68, u69, u70, u71, .bool false, u73, u74, u75, u76, u77, u78, u79, u80, u81, u82, u83, u84, u85, u86, u87, u88, u89, u90, u91, u92, u93, u94, u95, u96, u97, u98, u99, u100, u101, u102, u103, u104, u105, u106, u107, u108, u109, u110, u111, u112, u113, u114, u115, u116, u117, u118, u119, u120, u121, u122, u123, u124, u125, u126, u127, u128, u129, u130, u131, u132, u133, u134, u135, u136, u137, u138, u139] : Array Value).getD xx undef, rfl, Holding.start⟩
          | false =>
            have HAC := Lib.hid (fun wx => below_is hc hf hac wx)
            cases hca : bel e f a c with
            | true =>
              have HCA := Lib.hid (fun wx => below_is hf hc hca wx)
              rw [hca, hy2, Bool.true_and] at hcm
              have HCM := Lib.hid (fun wx => below_is hf om hcm wx)
              clear hjc hcm hac hca hy hy2
              have apx : apartB [73, 74, 75, 76, 77, 78, 79, 80, 81, 82, 83, 84, 85, 86, 87, 88, 89, 90, 91, 92, 93, 94, 95, 96, 97, 98] = true := by decide
              refine wp_region_any (by kernel_rfl) ?_
              change wpAny _ _ _ _ _ _ _ (World.drew _)
              refine wpAny_inv (fun ll aa wx => Hid (ll.size = 26 ∧ Below wf.heap.size wf wx) ∧ ∃ (z : Nat → Value), Hid (aa = ⟨#[.agg (lab a c), .agg (lab b d), .agg (lab e f), .pointer (some ⟨g, 0, none⟩), .pointer (some ⟨g4, 0, none⟩), .pointer (some ⟨g5, 0, none⟩), .bool false, .pointer (some ⟨n7, 0, none⟩), .pointer (some ⟨n8, 0, none⟩), undef, u10, u11, u12, u13, u14, u15, u16, u17, u18, u19, u20, u21, u22, u23, u24, u25, u26, u27, u28, u29, u30, u31, u32, u33, u34, u35, u36, u37, u38, u39, u40, u41, u42, u43, u44, u45, u46, u47, u48, u49, u50, u51, u52, u53, u54, u55, u56, u57, u58, u59, u60, u61, u62, u63, u64, u65, u66, u67, u68, u69, u70, u71, .bool false, z 73, z 74, z 75, z 76, z 77, z 78, z 79, z 80, z 81, z 82, z 83, z 84, z 85, z 86, z 87, z 88, z 89, z 90, z 91, z 92, z 93, z 94, z 95, z 96, z 97, z 98, u99, u100, u101, u102, u103, u104, u105, u106, u107, u108, u109, u110, u111, u112, u113, u114, u115, u116, u117, u118, u119, u120, u121, u122, u123, u124, u125, u126, u127, u128, u129, u130, u131, u132, u133, u134, u135, u136, u137, u138, u139], []⟩) ∧ Holding [73, 74, 75, 76, 77, 78, 79, 80, 81, 82, 83, 84, 85, 86, 87, 88, 89, 90, 91, 92, 93, 94, 95, 96, 97, 98] [some (.agg (lab a c)), some (.agg (lab e f)), some (.bool false), some (.bool false), none, none, none, none, none, none, none, some (.bool false), some (.bool false), some (.agg (lab e f)), some (.agg (lab a c)), some (.bool true), some (.bool true), some (.agg (lab e f)), some (.agg (lab b d)), some (.bool y2), some (.agg (lab e f)), some (.agg (lab ml mc)), some (.bool y2), some (.bool false), some (.bool false), some (.bool false)] ll z) ?_ (by kernel_rfl) ?_ ?_ _ _ _ _ (unlisted_none _) ?_
              · rintro ll aa wx ⟨hI, _⟩
                exact hI.out.1
              · rintro ll aa wx ⟨hI, z, ha, hz⟩ hall
                have hx := Lib.hid hI.out.2
                have e0 : z 73 = .agg (lab a c) := hz 0 _ (hall 0 (by decide)) rfl
                have e1 : z 74 = .agg (lab e f) := hz 1 _ (hall 1 (by decide)) rfl
                have e2 : z 75 = .bool false := hz 2 _ (hall 2 (by decide)) rfl
                have e3 : z 76 = .bool false := hz 3 _ (hall 3 (by decide)) rfl
                have e11 : z 84 = .bool false := hz 11 _ (hall 11 (by decide)) rfl
                have e12 : z 85 = .bool false := hz 12 _ (hall 12 (by decide)) rfl
                have e13 : z 86 = .agg (lab e f) := hz 13 _ (hall 13 (by decide)) rfl
                have e14 : z 87 = .agg (lab a c) := hz 14 _ (hall 14 (by decide)) rfl
                have e15 : z 88 = .bool true := hz 15 _ (hall 15 (by decide)) rfl
                have e16 : z 89 = .bool true := hz 16 _ (hall 16 (by decide)) rfl
                have e17 : z 90 = .agg (lab e f) := hz 17 _ (hall 17 (by decide)) rfl
                have e18 : z 91 = .agg (lab b d) := hz 18 _ (hall 18 (by decide)) rfl
                have e19 : z 92 = .bool y2 := hz 19 _ (hall 19 (by decide)) rfl
                have e20 : z 93 = .agg (lab e f) := hz 20 _ (hall 20 (by decide)) rfl
                have e21 : z 94 = .agg (lab ml mc) := hz 21 _ (hall 21 (by decide)) rfl
                have e22 : z 95 = .bool y2 := hz 22 _ (hall 22 (by decide)) rfl
                have e23 : z 96 = .bool false := hz 23 _ (hall 23 (by decide)) rfl
                have e24 : z 97 = .bool false := hz 24 _ (hall 24 (by decide)) rfl
                have e25 : z 98 = .bool false := hz 25 _ (hall 25 (by decide)) rfl
                clear hall hz hI 
                obtain rfl := ha.out
                clear ha
                clear apx
                have E := Lib.hid e25
                have HF := Lib.hid (HF2.out.later hx.out)
                clear e0 e1 e2 e3 e11 e12 e13 e14 e15 e16 e17 e18 e19 e20 e21 e22 e23 e24 e25
                dsimp only
                rw [E.out]
                go_wp2
                go_meet
                exact ⟨rfl, HF⟩
              · rintro ll aa wx i ⟨hI, z, ha, hz⟩ hi hu hw
                obtain rfl := ha.out
                have hsz := Lib.hid hI.out.1
                have hx := Lib.hid hI.out.2
                clear ha hI
                have hin : i < 26 := hi
                obtain rfl | rfl | rfl | rfl | rfl | rfl | rfl | rfl | rfl | rfl | rfl | rfl | rfl | rfl | rfl | rfl | rfl | rfl | rfl | rfl | rfl | rfl | rfl | rfl | rfl | rfl : i = 0 ∨ i = 1 ∨ i = 2 ∨ i = 3 ∨ i = 4 ∨ i = 5 ∨ i = 6 ∨ i = 7 ∨ i = 8 ∨ i = 9 ∨ i = 10 ∨ i = 11 ∨ i = 12 ∨ i = 13 ∨ i = 14 ∨ i = 15 ∨ i = 16 ∨ i = 17 ∨ i = 18 ∨ i = 19 ∨ i = 20 ∨ i = 21 ∨ i = 22 ∨ i = 23 ∨ i = 24 ∨ i = 25 := by omega
                · have cl := (hx.out.block _ (Array.getElem?_eq_some_iff.1 F3.out).1).trans F3.out
                  refine wpOp_plain rfl rfl (wp_load_row 24 (.tmp 3) rfl (g) rfl 24 (lab a c) (0, 0) _ cl Tryd.underlying24 rfl infoL ?_)
                  go_simp
                  exact ⟨⟨by simp [hsz.out], hx.out⟩, upd z 73 (.agg (lab a c)), (by unfold Hid; simp [upd]), hz.next apx hsz.out 0 (by decide) _ (fun _ h => Option.some.inj h)⟩
                · have cl := (hx.out.block _ (Array.getElem?_eq_some_iff.1 F5.out).1).trans F5.out
                  refine wpOp_plain rfl rfl (wp_load_row 24 (.tmp 5) rfl (g5) rfl 24 (lab e f) (0, 0) _ cl Tryd.underlying24 rfl infoL ?_)
                  go_simp
                  exact ⟨⟨by simp [hsz.out], hx.out⟩, upd z 74 (.agg (lab e f)), (by unfold Hid; simp [upd]), hz.next apx hsz.out 1 (by decide) _ (fun _ h => Option.some.inj h)⟩
                · have e0 : z 73 = .agg (lab a c) := hz 0 _ (hw 0 (by kernel_rfl)) rfl
                  have e1 : z 74 = .agg (lab e f) := hz 1 _ (hw 1 (by kernel_rfl)) rfl
                  refine wpOp_plain rfl rfl ?_
                  go_simp
                  go_at_call 9
                  refine (HAC.out wx).mono ?_
                  rintro e w' ⟨rfl, low⟩
                  exact ⟨⟨by simp [hsz.out], hx.out.trans (low.mono hx.out.size)⟩, upd z 75 (.bool false), (by unfold Hid; simp [upd, e0, e1]), hz.next apx hsz.out 2 (by decide) _ (fun _ h => Option.some.inj h)⟩
                · have e2 : z 75 = .bool false := hz 2 _ (hw 2 (by kernel_rfl)) rfl
                  refine wpOp_plain rfl rfl ?_
                  go_simp
                  exact ⟨⟨by simp [hsz.out], hx.out⟩, upd z 76 (.bool false), (by unfold Hid; simp [upd, e2]), hz.next apx hsz.out 3 (by decide) _ (fun _ h => Option.some.inj h)⟩
                · have e3 : z 76 = .bool false := hz 3 _ (hw 3 (by kernel_rfl)) rfl
                  refine wpOp_skip rfl (by simp [Region.wanted, yielded, e3]) ?_
                  go_simp
                  exact ⟨⟨by simp [hsz.out], hx.out⟩, upd z 77 (undef), (by unfold Hid; simp [upd, e3]), hz.next apx hsz.out 4 (by decide) _ (fun _ h => by cases h)⟩
                · have e3 : z 76 = .bool false := hz 3 _ (hw 3 (by kernel_rfl)) rfl
                  refine wpOp_skip rfl (by simp [Region.wanted, yielded, e3]) ?_
                  go_simp
                  exact ⟨⟨by simp [hsz.out], hx.out⟩, upd z 78 (undef), (by unfold Hid; simp [upd, e3]), hz.next apx hsz.out 5 (by decide) _ (fun _ h => by cases h)⟩
                · have e3 : z 76 = .bool false := hz 3 _ (hw 3 (by kernel_rfl)) rfl
                  refine wpOp_skip rfl (by simp [Region.wanted, yielded, e3]) ?_
                  go_simp
                  exact ⟨⟨by simp [hsz.out], hx.out⟩, upd z 79 (undef), (by unfold Hid; simp [upd, e3]), hz.next apx hsz.out 6 (by decide) _ (fun _ h => by cases h)⟩
                · have e3 : z 76 = .bool false := hz 3 _ (hw 3 (by kernel_rfl)) rfl
                  refine wpOp_skip rfl (by simp [Region.wanted, yielded, e3]) ?_
                  go_simp
                  exact ⟨⟨by simp [hsz.out], hx.out⟩, upd z 80 (undef), (by unfold Hid; simp [upd, e3]), hz.next apx hsz.out 7 (by decide) _ (fun _ h => by cases h)⟩
                · have e3 : z 76 = .bool false := hz 3 _ (hw 3 (by kernel_rfl)) rfl
                  refine wpOp_skip rfl (by simp [Region.wanted, yielded, e3]) ?_
                  go_simp
                  exact ⟨⟨by simp [hsz.out], hx.out⟩, upd z 81 (undef), (by unfold Hid; simp [upd, e3]), hz.next apx hsz.out 8 (by decide) _ (fun _ h => by cases h)⟩
                · have e3 : z 76 = .bool false := hz 3 _ (hw 3 (by kernel_rfl)) rfl
                  refine wpOp_skip rfl (by simp [Region.wanted, yielded, e3]) ?_
                  go_simp
                  exact ⟨⟨by simp [hsz.out], hx.out⟩, upd z 82 (undef), (by unfold Hid; simp [upd, e3]), hz.next apx hsz.out 9 (by decide) _ (fun _ h => by cases h)⟩
                · have e3 : z 76 = .bool false := hz 3 _ (hw 3 (by kernel_rfl)) rfl
                  refine wpOp_skip rfl (by simp [Region.wanted, yielded, e3]) ?_
                  go_simp
                  exact ⟨⟨by simp [hsz.out], hx.out⟩, upd z 83 (undef), (by unfold Hid; simp [upd, e3]), hz.next apx hsz.out 10 (by decide) _ (fun _ h => by cases h)⟩
                · have e3 : z 76 = .bool false := hz 3 _ (hw 3 (by kernel_rfl)) rfl
                  refine wpOp_plain rfl rfl ?_
                  go_simp
                  exact ⟨⟨by simp [hsz.out], hx.out⟩, upd z 84 (.bool false), (by unfold Hid; simp [upd, e3]), hz.next apx hsz.out 11 (by decide) _ (fun _ h => Option.some.inj h)⟩
                · have e11 : z 84 = .bool false := hz 11 _ (hw 11 (by kernel_rfl)) rfl
                  refine wpOp_plain rfl rfl ?_
                  go_simp
                  exact ⟨⟨by simp [hsz.out], hx.out⟩, upd z 85 (.bool false), (by unfold Hid; simp [upd, e11]), hz.next apx hsz.out 12 (by decide) _ (fun _ h => Option.some.inj h)⟩
                · have e12 : z 85 = .bool false := hz 12 _ (hw 12 (by kernel_rfl)) rfl
                  have cl := (hx.out.block _ (Array.getElem?_eq_some_iff.1 F5.out).1).trans F5.out
                  refine wpOp_want rfl (by simp [Region.wanted, yielded, e12]) (wp_load_row 24 (.tmp 5) rfl (g5) rfl 24 (lab e f) (0, 0) _ cl Tryd.underlying24 rfl infoL ?_)
                  go_simp
                  exact ⟨⟨by simp [hsz.out], hx.out⟩, upd z 86 (.agg (lab e f)), (by unfold Hid; simp [upd, e12]), hz.next apx hsz.out 13 (by decide) _ (fun _ h => Option.some.inj h)⟩
                · have e12 : z 85 = .bool false := hz 12 _ (hw 12 (by kernel_rfl)) rfl
                  have cl := (hx.out.block _ (Array.getElem?_eq_some_iff.1 F3.out).1).trans F3.out
                  refine wpOp_want rfl (by simp [Region.wanted, yielded, e12]) (wp_load_row 24 (.tmp 3) rfl (g) rfl 24 (lab a c) (0, 0) _ cl Tryd.underlying24 rfl infoL ?_)
                  go_simp
                  exact ⟨⟨by simp [hsz.out], hx.out⟩, upd z 87 (.agg (lab a c)), (by unfold Hid; simp [upd, e12]), hz.next apx hsz.out 14 (by decide) _ (fun _ h => Option.some.inj h)⟩
                · have e12 : z 85 = .bool false := hz 12 _ (hw 12 (by kernel_rfl)) rfl
                  have e13 : z 86 = .agg (lab e f) := hz 13 _ (hw 13 (by kernel_rfl)) rfl
                  have e14 : z 87 = .agg (lab a c) := hz 14 _ (hw 14 (by kernel_rfl)) rfl
                  refine wpOp_want rfl (by simp [Region.wanted, yielded, e12]) ?_
                  go_simp
                  go_at_call 9
                  refine (HCA.out wx).mono ?_
                  rintro e w' ⟨rfl, low⟩
                  exact ⟨⟨by simp [hsz.out], hx.out.trans (low.mono hx.out.size)⟩, upd z 88 (.bool true), (by unfold Hid; simp [upd, e12, e13, e14]), hz.next apx hsz.out 15 (by decide) _ (fun _ h => Option.some.inj h)⟩
                · have e12 : z 85 = .bool false := hz 12 _ (hw 12 (by kernel_rfl)) rfl
                  have e15 : z 88 = .bool true := hz 15 _ (hw 15 (by kernel_rfl)) rfl
                  refine wpOp_want rfl (by simp [Region.wanted, yielded, e12]) ?_
                  go_simp
                  exact ⟨⟨by simp [hsz.out], hx.out⟩, upd z 89 (.bool true), (by unfold Hid; simp [upd, e12, e15]), hz.next apx hsz.out 16 (by decide) _ (fun _ h => Option.some.inj h)⟩
                · have e16 : z 89 = .bool true := hz 16 _ (hw 16 (by kernel_rfl)) rfl
                  have cl := (hx.out.block _ (Array.getElem?_eq_some_iff.1 F5.out).1).trans F5.out
                  refine wpOp_want rfl (by simp [Region.wanted, yielded, e16]) (wp_load_row 24 (.tmp 5) rfl (g5) rfl 24 (lab e f) (0, 0) _ cl Tryd.underlying24 rfl infoL ?_)
                  go_simp
                  exact ⟨⟨by simp [hsz.out], hx.out⟩, upd z 90 (.agg (lab e f)), (by unfold Hid; simp [upd, e16]), hz.next apx hsz.out 17 (by decide) _ (fun _ h => Option.some.inj h)⟩
                · have e16 : z 89 = .bool true := hz 16 _ (hw 16 (by kernel_rfl)) rfl
                  have cl := (hx.out.block _ (Array.getElem?_eq_some_iff.1 F4.out).1).trans F4.out
                  refine wpOp_want rfl (by simp [Region.wanted, yielded, e16]) (wp_load_row 24 (.tmp 4) rfl (g4) rfl 24 (lab b d) (0, 0) _ cl Tryd.underlying24 rfl infoL ?_)
                  go_simp
                  exact ⟨⟨by simp [hsz.out], hx.out⟩, upd z 91 (.agg (lab b d)), (by unfold Hid; simp [upd, e16]), hz.next apx hsz.out 18 (by decide) _ (fun _ h => Option.some.inj h)⟩
                · have e16 : z 89 = .bool true := hz 16 _ (hw 16 (by kernel_rfl)) rfl
                  have e17 : z 90 = .agg (lab e f) := hz 17 _ (hw 17 (by kernel_rfl)) rfl
                  have e18 : z 91 = .agg (lab b d) := hz 18 _ (hw 18 (by kernel_rfl)) rfl
                  refine wpOp_want rfl (by simp [Region.wanted, yielded, e16]) ?_
                  go_simp
                  go_at_call 9
                  refine (HCB.out wx).mono ?_
                  rintro e w' ⟨rfl, low⟩
                  exact ⟨⟨by simp [hsz.out], hx.out.trans (low.mono hx.out.size)⟩, upd z 92 (.bool y2), (by unfold Hid; simp [upd, e16, e17, e18]), hz.next apx hsz.out 19 (by decide) _ (fun _ h => Option.some.inj h)⟩
                · have e16 : z 89 = .bool true := hz 16 _ (hw 16 (by kernel_rfl)) rfl
                  have cl := (hx.out.block _ (Array.getElem?_eq_some_iff.1 F5.out).1).trans F5.out
                  refine wpOp_want rfl (by simp [Region.wanted, yielded, e16]) (wp_load_row 24 (.tmp 5) rfl (g5) rfl 24 (lab e f) (0, 0) _ cl Tryd.underlying24 rfl infoL ?_)
                  go_simp
                  exact ⟨⟨by simp [hsz.out], hx.out⟩, upd z 93 (.agg (lab e f)), (by unfold Hid; simp [upd, e16]), hz.next apx hsz.out 20 (by decide) _ (fun _ h => Option.some.inj h)⟩
                · have e16 : z 89 = .bool true := hz 16 _ (hw 16 (by kernel_rfl)) rfl
                  have cl := (hx.out.block _ (Array.getElem?_eq_some_iff.1 F8.out).1).trans F8.out
                  refine wpOp_want rfl (by simp [Region.wanted, yielded, e16]) (wp_load_row 24 (.tmp 8) rfl (n8) rfl 24 (lab ml mc) (0, 0) _ cl Tryd.underlying24 rfl infoL ?_)
                  go_simp
                  exact ⟨⟨by simp [hsz.out], hx.out⟩, upd z 94 (.agg (lab ml mc)), (by unfold Hid; simp [upd, e16]), hz.next apx hsz.out 21 (by decide) _ (fun _ h => Option.some.inj h)⟩
                · have e16 : z 89 = .bool true := hz 16 _ (hw 16 (by kernel_rfl)) rfl
                  have e20 : z 93 = .agg (lab e f) := hz 20 _ (hw 20 (by kernel_rfl)) rfl
                  have e21 : z 94 = .agg (lab ml mc) := hz 21 _ (hw 21 (by kernel_rfl)) rfl
                  refine wpOp_want rfl (by simp [Region.wanted, yielded, e16]) ?_
                  go_simp
                  go_at_call 9
                  refine (HCM.out wx).mono ?_
                  rintro e w' ⟨rfl, low⟩
                  exact ⟨⟨by simp [hsz.out], hx.out.trans (low.mono hx.out.size)⟩, upd z 95 (.bool y2), (by unfold Hid; simp [upd, e16, e20, e21]), hz.next apx hsz.out 22 (by decide) _ (fun _ h => Option.some.inj h)⟩
                · have e16 : z 89 = .bool true := hz 16 _ (hw 16 (by kernel_rfl)) rfl
                  have e19 : z 92 = .bool y2 := hz 19 _ (hw 19 (by kernel_rfl)) rfl
                  have e22 : z 95 = .bool y2 := hz 22 _ (hw 22 (by kernel_rfl)) rfl
                  refine wpOp_want rfl (by simp [Region.wanted, yielded, e16]) ?_
                  go_simp
                  exact ⟨⟨by simp [hsz.out], hx.out⟩, upd z 96 (.bool false), (by unfold Hid; simp [upd, e16, e19, e22]), hz.next apx hsz.out 23 (by decide) _ (fun _ h => Option.some.inj h)⟩
                · have e12 : z 85 = .bool false := hz 12 _ (hw 12 (by kernel_rfl)) rfl
                  have e16 : z 89 = .bool true := hz 16 _ (hw 16 (by kernel_rfl)) rfl
                  have e23 : z 96 = .bool false := hz 23 _ (hw 23 (by kernel_rfl)) rfl
                  refine wpOp_want rfl (by simp [Region.wanted, yielded, e12]) ?_
                  go_simp
                  exact ⟨⟨by simp [hsz.out], hx.out⟩, upd z 97 (.bool false), (by unfold Hid; simp [upd, e12, e16, e23]), hz.next apx hsz.out 24 (by decide) _ (fun _ h => Option.some.inj h)⟩
                · have e12 : z 85 = .bool false := hz 12 _ (hw 12 (by kernel_rfl)) rfl
                  have e24 : z 97 = .bool false := hz 24 _ (hw 24 (by kernel_rfl)) rfl
                  refine wpOp_plain rfl rfl ?_
                  go_simp
                  exact ⟨⟨by simp [hsz.out], hx.out⟩, upd z 98 (.bool false), (by unfold Hid; simp [upd, e12, e24]), hz.next apx hsz.out 25 (by decide) _ (fun _ h => Option.some.inj h)⟩
              · exact ⟨⟨rfl, (Below.refl _ _).drew⟩, fun xx => (#[.agg (lab a c), .agg (lab b d), .agg (lab e f), .pointer (some ⟨g, 0, none⟩), .pointer (some ⟨g4, 0, none⟩), .pointer (some ⟨g5, 0, none⟩), .bool false, .pointer (some ⟨n7, 0, none⟩), .pointer (some ⟨n8, 0, none⟩), undef, u10, u11, u12, u13, u14, u15, u16, u17, u18, u19, u20, u21, u22, u23, u24, u25, u26, u27, u28, u29, u30, u31, u32, u33, u34, u35, u36, u37, u38, u39, u40, u41, u42, u43, u44, u45, u46, u47, u48, u49, u50, u51, u52, u53, u54, u55, u56, u57, u58, u59, u60, u61, u62, u63, u64, u65, u66, u67, u68, u69, u70, u71, .bool false, u73, u74, u75, u76, u77, u78, u79, u80, u81, u82, u83, u84, u85, u86, u87, u88, u89, u90, u91, u92, u93, u94, u95, u96, u97, u98, u99, u100, u101, u102, u103, u104, u105, u106, u107, u108, u109, u110, u111, u112, u113, u114, u115, u116, u117, u118, u119, u120, u121, u122, u123, u124, u125, u126, u127, u128, u129, u130, u131, u132, u133, u134, u135, u136, u137, u138, u139] : Array Value).getD xx undef, rfl, Holding.start⟩
            | false =>
              have HCA := Lib.hid (fun wx => below_is hf hc hca wx)
              clear hjc hcm hac hca hy hy2
              have apx : apartB [73, 74, 75, 76, 77, 78, 79, 80, 81, 82, 83, 84, 85, 86, 87, 88, 89, 90, 91, 92, 93, 94, 95, 96, 97, 98] = true := by decide
              refine wp_region_any (by kernel_rfl) ?_
              change wpAny _ _ _ _ _ _ _ (World.drew _)
              refine wpAny_inv (fun ll aa wx => Hid (ll.size = 26 ∧ Below wf.heap.size wf wx) ∧ ∃ (z : Nat → Value), Hid (aa = ⟨#[.agg (lab a c), .agg (lab b d), .agg (lab e f), .pointer (some ⟨g, 0, none⟩), .pointer (some ⟨g4, 0, none⟩), .pointer (some ⟨g5, 0, none⟩), .bool false, .pointer (some ⟨n7, 0, none⟩), .pointer (some ⟨n8, 0, none⟩), undef, u10, u11, u12, u13, u14, u15, u16, u17, u18, u19, u20, u21, u22, u23, u24, u25, u26, u27, u28, u29, u30, u31, u32, u33, u34, u35, u36, u37, u38, u39, u40, u41, u42, u43, u44, u45, u46, u47, u48, u49, u50, u51, u52, u53, u54, u55, u56, u57, u58, u59, u60, u61, u62, u63, u64, u65, u66, u67, u68, u69, u70, u71, .bool false, z 73, z 74, z 75, z 76, z 77, z 78, z 79, z 80, z 81, z 82, z 83, z 84, z 85, z 86, z 87, z 88, z 89, z 90, z 91, z 92, z 93, z 94, z 95, z 96, z 97, z 98, u99, u100, u101, u102, u103, u104, u105, u106, u107, u108, u109, u110, u111, u112, u113, u114, u115, u116, u117, u118, u119, u120, u121, u122, u123, u124, u125, u126, u127, u128, u129, u130, u131, u132, u133, u134, u135, u136, u137, u138, u139], []⟩) ∧ Holding [73, 74, 75, 76, 77, 78, 79, 80, 81, 82, 83, 84, 85, 86, 87, 88, 89, 90, 91, 92, 93, 94, 95, 96, 97, 98] [some (.agg (lab a c)), some (.agg (lab e f)), some (.bool false), some (.bool false), none, none, none, none, none, none, none, some (.bool false), some (.bool false), some (.agg (lab e f)), some (.agg (lab a c)), some (.bool false), some (.bool false), none, none, none, none, none, none, none, some (.bool false), some (.bool false)] ll z) ?_ (by kernel_rfl) ?_ ?_ _ _ _ _ (unlisted_none _) ?_
              · rintro ll aa wx ⟨hI, _⟩
                exact hI.out.1
              · rintro ll aa wx ⟨hI, z, ha, hz⟩ hall
                have hx := Lib.hid hI.out.2
                have e0 : z 73 = .agg (lab a c) := hz 0 _ (hall 0 (by decide)) rfl
                have e1 : z 74 = .agg (lab e f) := hz 1 _ (hall 1 (by decide)) rfl
                have e2 : z 75 = .bool false := hz 2 _ (hall 2 (by decide)) rfl
                have e3 : z 76 = .bool false := hz 3 _ (hall 3 (by decide)) rfl
                have e11 : z 84 = .bool false := hz 11 _ (hall 11 (by decide)) rfl
                have e12 : z 85 = .bool false := hz 12 _ (hall 12 (by decide)) rfl
                have e13 : z 86 = .agg (lab e f) := hz 13 _ (hall 13 (by decide)) rfl
                have e14 : z 87 = .agg (lab a c) := hz 14 _ (hall 14 (by decide)) rfl
                have e15 : z 88 = .bool false := hz 15 _ (hall 15 (by decide)) rfl
                have e16 : z 89 = .bool false := hz 16 _ (hall 16 (by decide)) rfl
                have e24 : z 97 = .bool false := hz 24 _ (hall 24 (by decide)) rfl
                have e25 : z 98 = .bool false := hz 25 _ (hall 25 (by decide)) rfl
                clear hall hz hI 
                obtain rfl := ha.out
                clear ha
                clear apx
                have E := Lib.hid e25
                have HF := Lib.hid (HF2.out.later hx.out)
                clear e0 e1 e2 e3 e11 e12 e13 e14 e15 e16 e24 e25
                dsimp only
                rw [E.out]
                go_wp2
                go_meet
                exact ⟨rfl, HF⟩
              · rintro ll aa wx i ⟨hI, z, ha, hz⟩ hi hu hw
                obtain rfl := ha.out
                have hsz := Lib.hid hI.out.1
                have hx := Lib.hid hI.out.2
                clear ha hI
                have hin : i < 26 := hi
                obtain rfl | rfl | rfl | rfl | rfl | rfl | rfl | rfl | rfl | rfl | rfl | rfl | rfl | rfl | rfl | rfl | rfl | rfl | rfl | rfl | rfl | rfl | rfl | rfl | rfl | rfl : i = 0 ∨ i = 1 ∨ i = 2 ∨ i = 3 ∨ i = 4 ∨ i = 5 ∨ i = 6 ∨ i = 7 ∨ i = 8 ∨ i = 9 ∨ i = 10 ∨ i = 11 ∨ i = 12 ∨ i = 13 ∨ i = 14 ∨ i = 15 ∨ i = 16 ∨ i = 17 ∨ i = 18 ∨ i = 19 ∨ i = 20 ∨ i = 21 ∨ i = 22 ∨ i = 23 ∨ i = 24 ∨ i = 25 := by omega
                · have cl := (hx.out.block _ (Array.getElem?_eq_some_iff.1 F3.out).1).trans F3.out
                  refine wpOp_plain rfl rfl (wp_load_row 24 (.tmp 3) rfl (g) rfl 24 (lab a c) (0, 0) _ cl Tryd.underlying24 rfl infoL ?_)
                  go_simp
                  exact ⟨⟨by simp [hsz.out], hx.out⟩, upd z 73 (.agg (lab a c)), (by unfold Hid; simp [upd]), hz.next apx hsz.out 0 (by decide) _ (fun _ h => Option.some.inj h)⟩
                · have cl := (hx.out.block _ (Array.getElem?_eq_some_iff.1 F5.out).1).trans F5.out
                  refine wpOp_plain rfl rfl (wp_load_row 24 (.tmp 5) rfl (g5) rfl 24 (lab e f) (0, 0) _ cl Tryd.underlying24 rfl infoL ?_)
                  go_simp
                  exact ⟨⟨by simp [hsz.out], hx.out⟩, upd z 74 (.agg (lab e f)), (by unfold Hid; simp [upd]), hz.next apx hsz.out 1 (by decide) _ (fun _ h => Option.some.inj h)⟩
                · have e0 : z 73 = .agg (lab a c) := hz 0 _ (hw 0 (by kernel_rfl)) rfl
                  have e1 : z 74 = .agg (lab e f) := hz 1 _ (hw 1 (by kernel_rfl)) rfl
                  refine wpOp_plain rfl rfl ?_
                  go_simp
                  go_at_call 9
                  refine (HAC.out wx).mono ?_
                  rintro e w' ⟨rfl, low⟩
                  exact ⟨⟨by simp [hsz.out], hx.out.trans (low.mono hx.out.size)⟩, upd z 75 (.bool false), (by unfold Hid; simp [upd, e0, e1]), hz.next apx hsz.out 2 (by decide) _ (fun _ h => Option.some.inj h)⟩
                · have e2 : z 75 = .bool false := hz 2 _ (hw 2 (by kernel_rfl)) rfl
                  refine wpOp_plain rfl rfl ?_
                  go_simp
                  exact ⟨⟨by simp [hsz.out], hx.out⟩, upd z 76 (.bool false), (by unfold Hid; simp [upd, e2]), hz.next apx hsz.out 3 (by decide) _ (fun _ h => Option.some.inj h)⟩
                · have e3 : z 76 = .bool false := hz 3 _ (hw 3 (by kernel_rfl)) rfl
                  refine wpOp_skip rfl (by simp [Region.wanted, yielded, e3]) ?_
                  go_simp
                  exact ⟨⟨by simp [hsz.out], hx.out⟩, upd z 77 (undef), (by unfold Hid; simp [upd, e3]), hz.next apx hsz.out 4 (by decide) _ (fun _ h => by cases h)⟩
                · have e3 : z 76 = .bool false := hz 3 _ (hw 3 (by kernel_rfl)) rfl
                  refine wpOp_skip rfl (by simp [Region.wanted, yielded, e3]) ?_
                  go_simp
                  exact ⟨⟨by simp [hsz.out], hx.out⟩, upd z 78 (undef), (by unfold Hid; simp [upd, e3]), hz.next apx hsz.out 5 (by decide) _ (fun _ h => by cases h)⟩
                · have e3 : z 76 = .bool false := hz 3 _ (hw 3 (by kernel_rfl)) rfl
                  refine wpOp_skip rfl (by simp [Region.wanted, yielded, e3]) ?_
                  go_simp
                  exact ⟨⟨by simp [hsz.out], hx.out⟩, upd z 79 (undef), (by unfold Hid; simp [upd, e3]), hz.next apx hsz.out 6 (by decide) _ (fun _ h => by cases h)⟩
                · have e3 : z 76 = .bool false := hz 3 _ (hw 3 (by kernel_rfl)) rfl
                  refine wpOp_skip rfl (by simp [Region.wanted, yielded, e3]) ?_
                  go_simp
                  exact ⟨⟨by simp [hsz.out], hx.out⟩, upd z 80 (undef), (by unfold Hid; simp [upd, e3]), hz.next apx hsz.out 7 (by decide) _ (fun _ h => by cases h)⟩
                · have e3 : z 76 = .bool false := hz 3 _ (hw 3 (by kernel_rfl)) rfl
                  refine wpOp_skip rfl (by simp [Region.wanted, yielded, e3]) ?_
                  go_simp
                  exact ⟨⟨by simp [hsz.out], hx.out⟩, upd z 81 (undef), (by unfold Hid; simp [upd, e3]), hz.next apx hsz.out 8 (by decide) _ (fun _ h => by cases h)⟩
                · have e3 : z 76 = .bool false := hz 3 _ (hw 3 (by kernel_rfl)) rfl
                  refine wpOp_skip rfl (by simp [Region.wanted, yielded, e3]) ?_
                  go_simp
                  exact ⟨⟨by simp [hsz.out], hx.out⟩, upd z 82 (undef), (by unfold Hid; simp [upd, e3]), hz.next apx hsz.out 9 (by decide) _ (fun _ h => by cases h)⟩
                · have e3 : z 76 = .bool false := hz 3 _ (hw 3 (by kernel_rfl)) rfl
                  refine wpOp_skip rfl (by simp [Region.wanted, yielded, e3]) ?_
                  go_simp
                  exact ⟨⟨by simp [hsz.out], hx.out⟩, upd z 83 (undef), (by unfold Hid; simp [upd, e3]), hz.next apx hsz.out 10 (by decide) _ (fun _ h => by cases h)⟩
                · have e3 : z 76 = .bool false := hz 3 _ (hw 3 (by kernel_rfl)) rfl
                  refine wpOp_plain rfl rfl ?_
                  go_simp
                  exact ⟨⟨by simp [hsz.out], hx.out⟩, upd z 84 (.bool false), (by unfold Hid; simp [upd, e3]), hz.next apx hsz.out 11 (by decide) _ (fun _ h => Option.some.inj h)⟩
                · have e11 : z 84 = .bool false := hz 11 _ (hw 11 (by kernel_rfl)) rfl
                  refine wpOp_plain rfl rfl ?_
                  go_simp
                  exact ⟨⟨by simp [hsz.out], hx.out⟩, upd z 85 (.bool false), (by unfold Hid; simp [upd, e11]), hz.next apx hsz.out 12 (by decide) _ (fun _ h => Option.some.inj h)⟩
                · have e12 : z 85 = .bool false := hz 12 _ (hw 12 (by kernel_rfl)) rfl
                  have cl := (hx.out.block _ (Array.getElem?_eq_some_iff.1 F5.out).1).trans F5.out
                  refine wpOp_want rfl (by simp [Region.wanted, yielded, e12]) (wp_load_row 24 (.tmp 5) rfl (g5) rfl 24 (lab e f) (0, 0) _ cl Tryd.underlying24 rfl infoL ?_)
                  go_simp
                  exact ⟨⟨by simp [hsz.out], hx.out⟩, upd z 86 (.agg (lab e f)), (by unfold Hid; simp [upd, e12]), hz.next apx hsz.out 13 (by decide) _ (fun _ h => Option.some.inj h)⟩
                · have e12 : z 85 = .bool false := hz 12 _ (hw 12 (by kernel_rfl)) rfl
                  have cl := (hx.out.block _ (Array.getElem?_eq_some_iff.1 F3.out).1).trans F3.out
                  refine wpOp_want rfl (by simp [Region.wanted, yielded, e12]) (wp_load_row 24 (.tmp 3) rfl (g) rfl 24 (lab a c) (0, 0) _ cl Tryd.underlying24 rfl infoL ?_)
                  go_simp
                  exact ⟨⟨by simp [hsz.out], hx.out⟩, upd z 87 (.agg (lab a c)), (by unfold Hid; simp [upd, e12]), hz.next apx hsz.out 14 (by decide) _ (fun _ h => Option.some.inj h)⟩
                · have e12 : z 85 = .bool false := hz 12 _ (hw 12 (by kernel_rfl)) rfl
                  have e13 : z 86 = .agg (lab e f) := hz 13 _ (hw 13 (by kernel_rfl)) rfl
                  have e14 : z 87 = .agg (lab a c) := hz 14 _ (hw 14 (by kernel_rfl)) rfl
                  refine wpOp_want rfl (by simp [Region.wanted, yielded, e12]) ?_
                  go_simp
                  go_at_call 9
                  refine (HCA.out wx).mono ?_
                  rintro e w' ⟨rfl, low⟩
                  exact ⟨⟨by simp [hsz.out], hx.out.trans (low.mono hx.out.size)⟩, upd z 88 (.bool false), (by unfold Hid; simp [upd, e12, e13, e14]), hz.next apx hsz.out 15 (by decide) _ (fun _ h => Option.some.inj h)⟩
                · have e12 : z 85 = .bool false := hz 12 _ (hw 12 (by kernel_rfl)) rfl
                  have e15 : z 88 = .bool false := hz 15 _ (hw 15 (by kernel_rfl)) rfl
                  refine wpOp_want rfl (by simp [Region.wanted, yielded, e12]) ?_
                  go_simp
                  exact ⟨⟨by simp [hsz.out], hx.out⟩, upd z 89 (.bool false), (by unfold Hid; simp [upd, e12, e15]), hz.next apx hsz.out 16 (by decide) _ (fun _ h => Option.some.inj h)⟩
                · have e16 : z 89 = .bool false := hz 16 _ (hw 16 (by kernel_rfl)) rfl
                  refine wpOp_skip rfl (by simp [Region.wanted, yielded, e16]) ?_
                  go_simp
                  exact ⟨⟨by simp [hsz.out], hx.out⟩, upd z 90 (undef), (by unfold Hid; simp [upd, e16]), hz.next apx hsz.out 17 (by decide) _ (fun _ h => by cases h)⟩
                · have e16 : z 89 = .bool false := hz 16 _ (hw 16 (by kernel_rfl)) rfl
                  refine wpOp_skip rfl (by simp [Region.wanted, yielded, e16]) ?_
                  go_simp
                  exact ⟨⟨by simp [hsz.out], hx.out⟩, upd z 91 (undef), (by unfold Hid; simp [upd, e16]), hz.next apx hsz.out 18 (by decide) _ (fun _ h => by cases h)⟩
                · have e16 : z 89 = .bool false := hz 16 _ (hw 16 (by kernel_rfl)) rfl
                  refine wpOp_skip rfl (by simp [Region.wanted, yielded, e16]) ?_
                  go_simp
                  exact ⟨⟨by simp [hsz.out], hx.out⟩, upd z 92 (undef), (by unfold Hid; simp [upd, e16]), hz.next apx hsz.out 19 (by decide) _ (fun _ h => by cases h)⟩
                · have e16 : z 89 = .bool false := hz 16 _ (hw 16 (by kernel_rfl)) rfl
                  refine wpOp_skip rfl (by simp [Region.wanted, yielded, e16]) ?_
                  go_simp
                  exact ⟨⟨by simp [hsz.out], hx.out⟩, upd z 93 (undef), (by unfold Hid; simp [upd, e16]), hz.next apx hsz.out 20 (by decide) _ (fun _ h => by cases h)⟩
                · have e16 : z 89 = .bool false := hz 16 _ (hw 16 (by kernel_rfl)) rfl
                  refine wpOp_skip rfl (by simp [Region.wanted, yielded, e16]) ?_
                  go_simp
                  exact ⟨⟨by simp [hsz.out], hx.out⟩, upd z 94 (undef), (by unfold Hid; simp [upd, e16]), hz.next apx hsz.out 21 (by decide) _ (fun _ h => by cases h)⟩
                · have e16 : z 89 = .bool false := hz 16 _ (hw 16 (by kernel_rfl)) rfl
                  refine wpOp_skip rfl (by simp [Region.wanted, yielded, e16]) ?_
                  go_simp
                  exact ⟨⟨by simp [hsz.out], hx.out⟩, upd z 95 (undef), (by unfold Hid; simp [upd, e16]), hz.next apx hsz.out 22 (by decide) _ (fun _ h => by cases h)⟩
                · have e16 : z 89 = .bool false := hz 16 _ (hw 16 (by kernel_rfl)) rfl
                  refine wpOp_skip rfl (by simp [Region.wanted, yielded, e16]) ?_
                  go_simp
                  exact ⟨⟨by simp [hsz.out], hx.out⟩, upd z 96 (undef), (by unfold Hid; simp [upd, e16]), hz.next apx hsz.out 23 (by decide) _ (fun _ h => by cases h)⟩
                · have e12 : z 85 = .bool false := hz 12 _ (hw 12 (by kernel_rfl)) rfl
                  have e16 : z 89 = .bool false := hz 16 _ (hw 16 (by kernel_rfl)) rfl
                  refine wpOp_want rfl (by simp [Region.wanted, yielded, e12]) ?_
                  go_simp
                  exact ⟨⟨by simp [hsz.out], hx.out⟩, upd z 97 (.bool false), (by unfold Hid; simp [upd, e12, e16]), hz.next apx hsz.out 24 (by decide) _ (fun _ h => Option.some.inj h)⟩
                · have e12 : z 85 = .bool false := hz 12 _ (hw 12 (by kernel_rfl)) rfl
                  have e24 : z 97 = .bool false := hz 24 _ (hw 24 (by kernel_rfl)) rfl
                  refine wpOp_plain rfl rfl ?_
                  go_simp
                  exact ⟨⟨by simp [hsz.out], hx.out⟩, upd z 98 (.bool false), (by unfold Hid; simp [upd, e12, e24]), hz.next apx hsz.out 25 (by decide) _ (fun _ h => Option.some.inj h)⟩
              · exact ⟨⟨rfl, (Below.refl _ _).drew⟩, fun xx => (#[.agg (lab a c), .agg (lab b d), .agg (lab e f), .pointer (some ⟨g, 0, none⟩), .pointer (some ⟨g4, 0, none⟩), .pointer (some ⟨g5, 0, none⟩), .bool false, .pointer (some ⟨n7, 0, none⟩), .pointer (some ⟨n8, 0, none⟩), undef, u10, u11, u12, u13, u14, u15, u16, u17, u18, u19, u20, u21, u22, u23, u24, u25, u26, u27, u28, u29, u30, u31, u32, u33, u34, u35, u36, u37, u38, u39, u40, u41, u42, u43, u44, u45, u46, u47, u48, u49, u50, u51, u52, u53, u54, u55, u56, u57, u58, u59, u60, u61, u62, u63, u64, u65, u66, u67, u68, u69, u70, u71, .bool false, u73, u74, u75, u76, u77, u78, u79, u80, u81, u82, u83, u84, u85, u86, u87, u88, u89, u90, u91, u92, u93, u94, u95, u96, u97, u98, u99, u100, u101, u102, u103, u104, u105, u106, u107, u108, u109, u110, u111, u112, u113, u114, u115, u116, u117, u118, u119, u120, u121, u122, u123, u124, u125, u126, u127, u128, u129, u130, u131, u132, u133, u134, u135, u136, u137, u138, u139] : Array Value).getD xx undef, rfl, Holding.start⟩
        case rest =>
          obtain ⟨rfl, HF3⟩ := hcut
          clear HF2
          by_cases hv : 0 ≤ a ∧ a ≤ 15
          · have hchk : chk a = 0 := by unfold chk; rw [if_pos hv]
            go_upto_region 9 with (first
              | (go_at_call 7; refine (check_any _ _ _).mono ?_; rintro e' w2 ⟨rfl, low⟩; have HF := Lib.hid (HF3.out.later low); clear low)
              | (refine want_lab (.tmp 3) rfl g rfl _ _ HF3.out.h3 rfl ?_))
            rename World => wf
            have F3 := Lib.hid HF.out.h3
            have F4 := Lib.hid HF.out.h4
            have F5 := Lib.hid HF.out.h5
            have F7 := Lib.hid HF.out.h7
            have F8 := Lib.hid HF.out.h8
            have Low := Lib.hid HF.out.low
            have HLd := Lib.hid HF.out.ld
            have hjm1 : max a ml = a := by rw [Hml.out]; omega
            have hjm2 : c ||| mc = c := by rw [Hmc.out]; exact or_and c d
            have HJM := Lib.hid (fun wx => join_is hc om hjm1 hjm2 wx)
            clear hjm1 hjm2
            have hmin : min a jl = a := by rw [Hjl.out]; omega
            have hand : c &&& jc = c := by rw [Hjc.out]; exact and_or c d
            have HBO := Lib.hid (fun wx => below_zero hc hv.1 wx)
            have HBT := Lib.hid (fun wx => below_top hc hv.2 wx)
            obtain ⟨r, hr⟩ : ∃ r, bel a c b d = r := ⟨_, rfl⟩
            have HAB := Lib.hid (fun wx => below_is hc hd hr wx)
            have HMJ := Lib.hid (fun wx => meet_is hc oj hmin hand wx)
            have hq : (jl == b && jc == d) = r := by rw [← hr, Hjl.out, Hjc.out]; exact join_beq a b c d
            have heq := eq_run hq
            clear hmin hand hv hchk hr hq
            have apx : apartB [102, 103, 104, 105, 106, 107, 108, 109, 110, 111, 112, 113, 114, 115, 116, 117, 118, 119, 120, 121, 122, 123, 124, 125, 126, 127, 128, 129, 130, 131, 132, 133, 134, 135, 136, 137, 138, 139, 6] = true := by decide
            refine wp_region_any (by kernel_rfl) ?_
            change wpAny _ _ _ _ _ _ _ (World.drew _)
            refine wpAny_inv (fun ll aa wx => Hid (ll.size = 39 ∧ Below wf.heap.size wf wx) ∧ ∃ (z : Nat → Value), Hid (aa = ⟨#[.agg (lab a c), .agg (lab b d), .agg (lab e f), .pointer (some ⟨g, 0, none⟩), .pointer (some ⟨g4, 0, none⟩), .pointer (some ⟨g5, 0, none⟩), z 6, .pointer (some ⟨n7, 0, none⟩), .pointer (some ⟨n8, 0, none⟩), Value.bool true, u10, u11, u12, u13, u14, u15, u16, u17, u18, u19, u20, u21, u22, u23, u24, u25, u26, u27, u28, u29, u30, u31, u32, u33, u34, u35, u36, u37, u38, u39, u40, u41, u42, u43, u44, u45, u46, u47, u48, u49, u50, u51, u52, u53, u54, u55, u56, u57, u58, u59, u60, u61, u62, u63, u64, u65, u66, u67, u68, u69, u70, u71, u72, u73, u74, u75, u76, u77, u78, u79, u80, u81, u82, u83, u84, u85, u86, u87, u88, u89, u90, u91, u92, u93, u94, u95, u96, u97, Value.bool false, .agg (lab a c), Value.int IntKind.i64 0, Value.bool true, z 102, z 103, z 104, z 105, z 106, z 107, z 108, z 109, z 110, z 111, z 112, z 113, z 114, z 115, z 116, z 117, z 118, z 119, z 120, z 121, z 122, z 123, z 124, z 125, z 126, z 127, z 128, z 129, z 130, z 131, z 132, z 133, z 134, z 135, z 136, z 137, z 138, z 139], []⟩) ∧ Holding [102, 103, 104, 105, 106, 107, 108, 109, 110, 111, 112, 113, 114, 115, 116, 117, 118, 119, 120, 121, 122, 123, 124, 125, 126, 127, 128, 129, 130, 131, 132, 133, 134, 135, 136, 137, 138, 139, 6] [some (.agg (lab a c)), some (.agg (lab ml mc)), some (.agg (lab a c)), some (.agg (lab a c)), some (.bool true), some (.bool true), some (.agg (lab a c)), some (.agg (lab jl jc)), some (.agg (lab a c)), some (.agg (lab a c)), some (.bool true), some (.bool true), some (.bool true), some (.agg (lab a c)), some (.agg (lab b d)), some (.bool r), some (.agg (lab jl jc)), some (.agg (lab b d)), some (.bool r), some (.bool true), some (.bool true), some (.bool true), some (.bool true), some (.bool false), some (.bool false), some (.agg #[.int .i64 0, .int .u64 0]), some (.agg (lab a c)), some (.bool true), some (.bool true), some (.agg (lab a c)), some (.agg #[.int .i64 15, .int .u64 18446744073709551615]), some (.bool true), some (.bool true), some (.bool true), some (.bool true), some (.bool true), some (.bool true), some (.bool true), some (.bool true)] ll z) ?_ (by kernel_rfl) ?_ ?_ _ _ _ _ (unlisted_none _) ?_
            · rintro ll aa wx ⟨hI, _⟩
              exact hI.out.1
            · rintro ll aa wx ⟨hI, z, ha, hz⟩ hall
              have hx := Lib.hid hI.out.2
              have e0 : z 102 = .agg (lab a c) := hz 0 _ (hall 0 (by decide)) rfl
              have e1 : z 103 = .agg (lab ml mc) := hz 1 _ (hall 1 (by decide)) rfl
              have e2 : z 104 = .agg (lab a c) := hz 2 _ (hall 2 (by decide)) rfl
              have e3 : z 105 = .agg (lab a c) := hz 3 _ (hall 3 (by decide)) rfl
              have e4 : z 106 = .bool true := hz 4 _ (hall 4 (by decide)) rfl
              have e5 : z 107 = .bool true := hz 5 _ (hall 5 (by decide)) rfl
              have e6 : z 108 = .agg (lab a c) := hz 6 _ (hall 6 (by decide)) rfl
              have e7 : z 109 = .agg (lab jl jc) := hz 7 _ (hall 7 (by decide)) rfl
              have e8 : z 110 = .agg (lab a c) := hz 8 _ (hall 8 (by decide)) rfl
              have e9 : z 111 = .agg (lab a c) := hz 9 _ (hall 9 (by decide)) rfl
              have e10 : z 112 = .bool true := hz 10 _ (hall 10 (by decide)) rfl
              have e11 : z 113 = .bool true := hz 11 _ (hall 11 (by decide)) rfl
              have e12 : z 114 = .bool true := hz 12 _ (hall 12 (by decide)) rfl
              have e13 : z 115 = .agg (lab a c) := hz 13 _ (hall 13 (by decide)) rfl
              have e14 : z 116 = .agg (lab b d) := hz 14 _ (hall 14 (by decide)) rfl
              have e15 : z 117 = .bool r := hz 15 _ (hall 15 (by decide)) rfl
              have e16 : z 118 = .agg (lab jl jc) := hz 16 _ (hall 16 (by decide)) rfl
              have e17 : z 119 = .agg (lab b d) := hz 17 _ (hall 17 (by decide)) rfl
              have e18 : z 120 = .bool r := hz 18 _ (hall 18 (by decide)) rfl
              have e19 : z 121 = .bool true := hz 19 _ (hall 19 (by decide)) rfl
              have e20 : z 122 = .bool true := hz 20 _ (hall 20 (by decide)) rfl
              have e21 : z 123 = .bool true := hz 21 _ (hall 21 (by decide)) rfl
              have e22 : z 124 = .bool true := hz 22 _ (hall 22 (by decide)) rfl
              have e23 : z 125 = .bool false := hz 23 _ (hall 23 (by decide)) rfl
              have e24 : z 126 = .bool false := hz 24 _ (hall 24 (by decide)) rfl
              have e25 : z 127 = .agg #[.int .i64 0, .int .u64 0] := hz 25 _ (hall 25 (by decide)) rfl
              have e26 : z 128 = .agg (lab a c) := hz 26 _ (hall 26 (by decide)) rfl
              have e27 : z 129 = .bool true := hz 27 _ (hall 27 (by decide)) rfl
              have e28 : z 130 = .bool true := hz 28 _ (hall 28 (by decide)) rfl
              have e29 : z 131 = .agg (lab a c) := hz 29 _ (hall 29 (by decide)) rfl
              have e30 : z 132 = .agg #[.int .i64 15, .int .u64 18446744073709551615] := hz 30 _ (hall 30 (by decide)) rfl
              have e31 : z 133 = .bool true := hz 31 _ (hall 31 (by decide)) rfl
              have e32 : z 134 = .bool true := hz 32 _ (hall 32 (by decide)) rfl
              have e33 : z 135 = .bool true := hz 33 _ (hall 33 (by decide)) rfl
              have e34 : z 136 = .bool true := hz 34 _ (hall 34 (by decide)) rfl
              have e35 : z 137 = .bool true := hz 35 _ (hall 35 (by decide)) rfl
              have e36 : z 138 = .bool true := hz 36 _ (hall 36 (by decide)) rfl
              have e37 : z 139 = .bool true := hz 37 _ (hall 37 (by decide)) rfl
              have e38 : z 6 = .bool true := hz 38 _ (hall 38 (by decide)) rfl
              clear hall hz hI 
              obtain rfl := ha.out
              clear ha
              clear apx
              have E := Lib.hid e38
              clear e0 e1 e2 e3 e4 e5 e6 e7 e8 e9 e10 e11 e12 e13 e14 e15 e16 e17 e18 e19 e20 e21 e22 e23 e24 e25 e26 e27 e28 e29 e30 e31 e32 e33 e34 e35 e36 e37 e38
              dsimp only
              go_wp2
              go_ret
              exact ⟨by rw [E.out]; rfl, Low.out.trans (hx.out.mono Low.out.size)⟩
            · rintro ll aa wx i ⟨hI, z, ha, hz⟩ hi hu hw
              obtain rfl := ha.out
              have hsz := Lib.hid hI.out.1
              have hx := Lib.hid hI.out.2
              clear ha hI
              have hin : i < 39 := hi
              obtain rfl | rfl | rfl | rfl | rfl | rfl | rfl | rfl | rfl | rfl | rfl | rfl | rfl | rfl | rfl | rfl | rfl | rfl | rfl | rfl | rfl | rfl | rfl | rfl | rfl | rfl | rfl | rfl | rfl | rfl | rfl | rfl | rfl | rfl | rfl | rfl | rfl | rfl | rfl : i = 0 ∨ i = 1 ∨ i = 2 ∨ i = 3 ∨ i = 4 ∨ i = 5 ∨ i = 6 ∨ i = 7 ∨ i = 8 ∨ i = 9 ∨ i = 10 ∨ i = 11 ∨ i = 12 ∨ i = 13 ∨ i = 14 ∨ i = 15 ∨ i = 16 ∨ i = 17 ∨ i = 18 ∨ i = 19 ∨ i = 20 ∨ i = 21 ∨ i = 22 ∨ i = 23 ∨ i = 24 ∨ i = 25 ∨ i = 26 ∨ i = 27 ∨ i = 28 ∨ i = 29 ∨ i = 30 ∨ i = 31 ∨ i = 32 ∨ i = 33 ∨ i = 34 ∨ i = 35 ∨ i = 36 ∨ i = 37 ∨ i = 38 := by omega
              · have cl := (hx.out.block _ (Array.getElem?_eq_some_iff.1 F3.out).1).trans F3.out
                refine wpOp_plain rfl rfl (wp_load_row 24 (.tmp 3) rfl (g) rfl 24 (lab a c) (0, 0) _ cl Tryd.underlying24 rfl infoL ?_)
                go_simp
                exact ⟨⟨by simp [hsz.out], hx.out⟩, upd z 102 (.agg (lab a c)), (by unfold Hid; simp [upd]), hz.next apx hsz.out 0 (by decide) _ (fun _ h => Option.some.inj h)⟩
              · have cl := (hx.out.block _ (Array.getElem?_eq_some_iff.1 F8.out).1).trans F8.out
                refine wpOp_plain rfl rfl (wp_load_row 24 (.tmp 8) rfl (n8) rfl 24 (lab ml mc) (0, 0) _ cl Tryd.underlying24 rfl infoL ?_)
                go_simp
                exact ⟨⟨by simp [hsz.out], hx.out⟩, upd z 103 (.agg (lab ml mc)), (by unfold Hid; simp [upd]), hz.next apx hsz.out 1 (by decide) _ (fun _ h => Option.some.inj h)⟩
              · have e0 : z 102 = .agg (lab a c) := hz 0 _ (hw 0 (by kernel_rfl)) rfl
                have e1 : z 103 = .agg (lab ml mc) := hz 1 _ (hw 1 (by kernel_rfl)) rfl
                refine wpOp_plain rfl rfl ?_
                go_simp
                go_at_call 11
                refine (HJM.out wx).mono ?_
                rintro e w' ⟨rfl, low⟩
                exact ⟨⟨by simp [hsz.out], hx.out.trans (low.mono hx.out.size)⟩, upd z 104 (.agg (lab a c)), (by unfold Hid; simp [upd, e0, e1]), hz.next apx hsz.out 2 (by decide) _ (fun _ h => Option.some.inj h)⟩
              · have cl := (hx.out.block _ (Array.getElem?_eq_some_iff.1 F3.out).1).trans F3.out
                refine wpOp_plain rfl rfl (wp_load_row 24 (.tmp 3) rfl (g) rfl 24 (lab a c) (0, 0) _ cl Tryd.underlying24 rfl infoL ?_)
                go_simp
                exact ⟨⟨by simp [hsz.out], hx.out⟩, upd z 105 (.agg (lab a c)), (by unfold Hid; simp [upd]), hz.next apx hsz.out 3 (by decide) _ (fun _ h => Option.some.inj h)⟩
              · have e2 : z 104 = .agg (lab a c) := hz 2 _ (hw 2 (by kernel_rfl)) rfl
                have e3 : z 105 = .agg (lab a c) := hz 3 _ (hw 3 (by kernel_rfl)) rfl
                refine wpOp_plain rfl rfl ?_
                go_simp
                exact ⟨⟨by simp [hsz.out], hx.out⟩, upd z 106 (.bool true), (by unfold Hid; simp [upd, e2, e3]), hz.next apx hsz.out 4 (by decide) _ (fun _ h => Option.some.inj h)⟩
              · have e4 : z 106 = .bool true := hz 4 _ (hw 4 (by kernel_rfl)) rfl
                refine wpOp_plain rfl rfl ?_
                go_simp
                exact ⟨⟨by simp [hsz.out], hx.out⟩, upd z 107 (.bool true), (by unfold Hid; simp [upd, e4]), hz.next apx hsz.out 5 (by decide) _ (fun _ h => Option.some.inj h)⟩
              · have e5 : z 107 = .bool true := hz 5 _ (hw 5 (by kernel_rfl)) rfl
                have cl := (hx.out.block _ (Array.getElem?_eq_some_iff.1 F3.out).1).trans F3.out
                refine wpOp_want rfl (by simp [Region.wanted, yielded, e5]) (wp_load_row 24 (.tmp 3) rfl (g) rfl 24 (lab a c) (0, 0) _ cl Tryd.underlying24 rfl infoL ?_)
                go_simp
                exact ⟨⟨by simp [hsz.out], hx.out⟩, upd z 108 (.agg (lab a c)), (by unfold Hid; simp [upd, e5]), hz.next apx hsz.out 6 (by decide) _ (fun _ h => Option.some.inj h)⟩
              · have e5 : z 107 = .bool true := hz 5 _ (hw 5 (by kernel_rfl)) rfl
                have cl := (hx.out.block _ (Array.getElem?_eq_some_iff.1 F7.out).1).trans F7.out
                refine wpOp_want rfl (by simp [Region.wanted, yielded, e5]) (wp_load_row 24 (.tmp 7) rfl (n7) rfl 24 (lab jl jc) (0, 0) _ cl Tryd.underlying24 rfl infoL ?_)
                go_simp
                exact ⟨⟨by simp [hsz.out], hx.out⟩, upd z 109 (.agg (lab jl jc)), (by unfold Hid; simp [upd, e5]), hz.next apx hsz.out 7 (by decide) _ (fun _ h => Option.some.inj h)⟩
              · have e5 : z 107 = .bool true := hz 5 _ (hw 5 (by kernel_rfl)) rfl
                have e6 : z 108 = .agg (lab a c) := hz 6 _ (hw 6 (by kernel_rfl)) rfl
                have e7 : z 109 = .agg (lab jl jc) := hz 7 _ (hw 7 (by kernel_rfl)) rfl
                refine wpOp_want rfl (by simp [Region.wanted, yielded, e5]) ?_
                go_simp
                go_at_call 13
                refine (HMJ.out wx).mono ?_
                rintro e w' ⟨rfl, low⟩
                exact ⟨⟨by simp [hsz.out], hx.out.trans (low.mono hx.out.size)⟩, upd z 110 (.agg (lab a c)), (by unfold Hid; simp [upd, e5, e6, e7]), hz.next apx hsz.out 8 (by decide) _ (fun _ h => Option.some.inj h)⟩
              · have e5 : z 107 = .bool true := hz 5 _ (hw 5 (by kernel_rfl)) rfl
                have cl := (hx.out.block _ (Array.getElem?_eq_some_iff.1 F3.out).1).trans F3.out
                refine wpOp_want rfl (by simp [Region.wanted, yielded, e5]) (wp_load_row 24 (.tmp 3) rfl (g) rfl 24 (lab a c) (0, 0) _ cl Tryd.underlying24 rfl infoL ?_)
                go_simp
                exact ⟨⟨by simp [hsz.out], hx.out⟩, upd z 111 (.agg (lab a c)), (by unfold Hid; simp [upd, e5]), hz.next apx hsz.out 9 (by decide) _ (fun _ h => Option.some.inj h)⟩
              · have e5 : z 107 = .bool true := hz 5 _ (hw 5 (by kernel_rfl)) rfl
                have e8 : z 110 = .agg (lab a c) := hz 8 _ (hw 8 (by kernel_rfl)) rfl
                have e9 : z 111 = .agg (lab a c) := hz 9 _ (hw 9 (by kernel_rfl)) rfl
                refine wpOp_want rfl (by simp [Region.wanted, yielded, e5]) ?_
                go_simp
                exact ⟨⟨by simp [hsz.out], hx.out⟩, upd z 112 (.bool true), (by unfold Hid; simp [upd, e5, e8, e9]), hz.next apx hsz.out 10 (by decide) _ (fun _ h => Option.some.inj h)⟩
              · have e5 : z 107 = .bool true := hz 5 _ (hw 5 (by kernel_rfl)) rfl
                have e10 : z 112 = .bool true := hz 10 _ (hw 10 (by kernel_rfl)) rfl
                refine wpOp_plain rfl rfl ?_
                go_simp
                exact ⟨⟨by simp [hsz.out], hx.out⟩, upd z 113 (.bool true), (by unfold Hid; simp [upd, e5, e10]), hz.next apx hsz.out 11 (by decide) _ (fun _ h => Option.some.inj h)⟩
              · have e11 : z 113 = .bool true := hz 11 _ (hw 11 (by kernel_rfl)) rfl
                refine wpOp_plain rfl rfl ?_
                go_simp
                exact ⟨⟨by simp [hsz.out], hx.out⟩, upd z 114 (.bool true), (by unfold Hid; simp [upd, e11]), hz.next apx hsz.out 12 (by decide) _ (fun _ h => Option.some.inj h)⟩
              · have e12 : z 114 = .bool true := hz 12 _ (hw 12 (by kernel_rfl)) rfl
                have cl := (hx.out.block _ (Array.getElem?_eq_some_iff.1 F3.out).1).trans F3.out
                refine wpOp_want rfl (by simp [Region.wanted, yielded, e12]) (wp_load_row 24 (.tmp 3) rfl (g) rfl 24 (lab a c) (0, 0) _ cl Tryd.underlying24 rfl infoL ?_)
                go_simp
                exact ⟨⟨by simp [hsz.out], hx.out⟩, upd z 115 (.agg (lab a c)), (by unfold Hid; simp [upd, e12]), hz.next apx hsz.out 13 (by decide) _ (fun _ h => Option.some.inj h)⟩
              · have e12 : z 114 = .bool true := hz 12 _ (hw 12 (by kernel_rfl)) rfl
                have cl := (hx.out.block _ (Array.getElem?_eq_some_iff.1 F4.out).1).trans F4.out
                refine wpOp_want rfl (by simp [Region.wanted, yielded, e12]) (wp_load_row 24 (.tmp 4) rfl (g4) rfl 24 (lab b d) (0, 0) _ cl Tryd.underlying24 rfl infoL ?_)
                go_simp
                exact ⟨⟨by simp [hsz.out], hx.out⟩, upd z 116 (.agg (lab b d)), (by unfold Hid; simp [upd, e12]), hz.next apx hsz.out 14 (by decide) _ (fun _ h => Option.some.inj h)⟩
              · have e12 : z 114 = .bool true := hz 12 _ (hw 12 (by kernel_rfl)) rfl
                have e13 : z 115 = .agg (lab a c) := hz 13 _ (hw 13 (by kernel_rfl)) rfl
                have e14 : z 116 = .agg (lab b d) := hz 14 _ (hw 14 (by kernel_rfl)) rfl
                refine wpOp_want rfl (by simp [Region.wanted, yielded, e12]) ?_
                go_simp
                go_at_call 9
                refine (HAB.out wx).mono ?_
                rintro e w' ⟨rfl, low⟩
                exact ⟨⟨by simp [hsz.out], hx.out.trans (low.mono hx.out.size)⟩, upd z 117 (.bool r), (by unfold Hid; simp [upd, e12, e13, e14]), hz.next apx hsz.out 15 (by decide) _ (fun _ h => Option.some.inj h)⟩
              · have e12 : z 114 = .bool true := hz 12 _ (hw 12 (by kernel_rfl)) rfl
                have cl := (hx.out.block _ (Array.getElem?_eq_some_iff.1 F7.out).1).trans F7.out
                refine wpOp_want rfl (by simp [Region.wanted, yielded, e12]) (wp_load_row 24 (.tmp 7) rfl (n7) rfl 24 (lab jl jc) (0, 0) _ cl Tryd.underlying24 rfl infoL ?_)
                go_simp
                exact ⟨⟨by simp [hsz.out], hx.out⟩, upd z 118 (.agg (lab jl jc)), (by unfold Hid; simp [upd, e12]), hz.next apx hsz.out 16 (by decide) _ (fun _ h => Option.some.inj h)⟩
              · have e12 : z 114 = .bool true := hz 12 _ (hw 12 (by kernel_rfl)) rfl
                have cl := (hx.out.block _ (Array.getElem?_eq_some_iff.1 F4.out).1).trans F4.out
                refine wpOp_want rfl (by simp [Region.wanted, yielded, e12]) (wp_load_row 24 (.tmp 4) rfl (g4) rfl 24 (lab b d) (0, 0) _ cl Tryd.underlying24 rfl infoL ?_)
                go_simp
                exact ⟨⟨by simp [hsz.out], hx.out⟩, upd z 119 (.agg (lab b d)), (by unfold Hid; simp [upd, e12]), hz.next apx hsz.out 17 (by decide) _ (fun _ h => Option.some.inj h)⟩
              · have e12 : z 114 = .bool true := hz 12 _ (hw 12 (by kernel_rfl)) rfl
                have e16 : z 118 = .agg (lab jl jc) := hz 16 _ (hw 16 (by kernel_rfl)) rfl
                have e17 : z 119 = .agg (lab b d) := hz 17 _ (hw 17 (by kernel_rfl)) rfl
                refine wpOp_want rfl (by simp [Region.wanted, yielded, e12]) ?_
                go_simp
                exact ⟨⟨by simp [hsz.out], hx.out⟩, upd z 120 (.bool r), (by unfold Hid; simp [upd, e12, e16, e17]), hz.next apx hsz.out 18 (by decide) _ (fun _ h => Option.some.inj h)⟩
              · have e12 : z 114 = .bool true := hz 12 _ (hw 12 (by kernel_rfl)) rfl
                have e15 : z 117 = .bool r := hz 15 _ (hw 15 (by kernel_rfl)) rfl
                have e18 : z 120 = .bool r := hz 18 _ (hw 18 (by kernel_rfl)) rfl
                refine wpOp_want rfl (by simp [Region.wanted, yielded, e12]) ?_
                go_simp
                exact ⟨⟨by simp [hsz.out], hx.out⟩, upd z 121 (.bool true), (by unfold Hid; simp [upd, e12, e15, e18]), hz.next apx hsz.out 19 (by decide) _ (fun _ h => Option.some.inj h)⟩
              · have e12 : z 114 = .bool true := hz 12 _ (hw 12 (by kernel_rfl)) rfl
                have e19 : z 121 = .bool true := hz 19 _ (hw 19 (by kernel_rfl)) rfl
                refine wpOp_plain rfl rfl ?_
                go_simp
                exact ⟨⟨by simp [hsz.out], hx.out⟩, upd z 122 (.bool true), (by unfold Hid; simp [upd, e12, e19]), hz.next apx hsz.out 20 (by decide) _ (fun _ h => Option.some.inj h)⟩
              · have e20 : z 122 = .bool true := hz 20 _ (hw 20 (by kernel_rfl)) rfl
                refine wpOp_plain rfl rfl ?_
                go_simp
                exact ⟨⟨by simp [hsz.out], hx.out⟩, upd z 123 (.bool true), (by unfold Hid; simp [upd, e20]), hz.next apx hsz.out 21 (by decide) _ (fun _ h => Option.some.inj h)⟩
              · have e21 : z 123 = .bool true := hz 21 _ (hw 21 (by kernel_rfl)) rfl
                refine wpOp_want rfl (by simp [Region.wanted, yielded, e21]) ?_
                go_simp
                exact ⟨⟨by simp [hsz.out], hx.out⟩, upd z 124 (.bool true), (by unfold Hid; simp [upd, e21]), hz.next apx hsz.out 22 (by decide) _ (fun _ h => Option.some.inj h)⟩
              · have e21 : z 123 = .bool true := hz 21 _ (hw 21 (by kernel_rfl)) rfl
                have e22 : z 124 = .bool true := hz 22 _ (hw 22 (by kernel_rfl)) rfl
                refine wpOp_want rfl (by simp [Region.wanted, yielded, e21]) ?_
                go_simp
                exact ⟨⟨by simp [hsz.out], hx.out⟩, upd z 125 (.bool false), (by unfold Hid; simp [upd, e21, e22]), hz.next apx hsz.out 23 (by decide) _ (fun _ h => Option.some.inj h)⟩
              · have e21 : z 123 = .bool true := hz 21 _ (hw 21 (by kernel_rfl)) rfl
                have e23 : z 125 = .bool false := hz 23 _ (hw 23 (by kernel_rfl)) rfl
                refine wpOp_want rfl (by simp [Region.wanted, yielded, e21]) ?_
                go_simp
                exact ⟨⟨by simp [hsz.out], hx.out⟩, upd z 126 (.bool false), (by unfold Hid; simp [upd, e21, e23]), hz.next apx hsz.out 24 (by decide) _ (fun _ h => Option.some.inj h)⟩
              · have e24 : z 126 = .bool false := hz 24 _ (hw 24 (by kernel_rfl)) rfl
                refine wpOp_want rfl (by simp [Region.wanted, yielded, e24]) ?_
                go_simp
                exact ⟨⟨by simp [hsz.out], hx.out⟩, upd z 127 (.agg #[.int .i64 0, .int .u64 0]), (by unfold Hid; simp [upd, e24]), hz.next apx hsz.out 25 (by decide) _ (fun _ h => Option.some.inj h)⟩
              · have e24 : z 126 = .bool false := hz 24 _ (hw 24 (by kernel_rfl)) rfl
                have cl := (hx.out.block _ (Array.getElem?_eq_some_iff.1 F3.out).1).trans F3.out
                refine wpOp_want rfl (by simp [Region.wanted, yielded, e24]) (wp_load_row 24 (.tmp 3) rfl (g) rfl 24 (lab a c) (0, 0) _ cl Tryd.underlying24 rfl infoL ?_)
                go_simp
                exact ⟨⟨by simp [hsz.out], hx.out⟩, upd z 128 (.agg (lab a c)), (by unfold Hid; simp [upd, e24]), hz.next apx hsz.out 26 (by decide) _ (fun _ h => Option.some.inj h)⟩
              · have e24 : z 126 = .bool false := hz 24 _ (hw 24 (by kernel_rfl)) rfl
                have e25 : z 127 = .agg #[.int .i64 0, .int .u64 0] := hz 25 _ (hw 25 (by kernel_rfl)) rfl
                have e26 : z 128 = .agg (lab a c) := hz 26 _ (hw 26 (by kernel_rfl)) rfl
                refine wpOp_want rfl (by simp [Region.wanted, yielded, e24]) ?_
                go_simp
                go_at_call 9
                refine (HBO.out wx).mono ?_
                rintro e w' ⟨rfl, low⟩
                exact ⟨⟨by simp [hsz.out], hx.out.trans (low.mono hx.out.size)⟩, upd z 129 (.bool true), (by unfold Hid; simp [upd, e24, e25, e26]), hz.next apx hsz.out 27 (by decide) _ (fun _ h => Option.some.inj h)⟩
              · have e24 : z 126 = .bool false := hz 24 _ (hw 24 (by kernel_rfl)) rfl
                have e27 : z 129 = .bool true := hz 27 _ (hw 27 (by kernel_rfl)) rfl
                refine wpOp_want rfl (by simp [Region.wanted, yielded, e24]) ?_
                go_simp
                exact ⟨⟨by simp [hsz.out], hx.out⟩, upd z 130 (.bool true), (by unfold Hid; simp [upd, e24, e27]), hz.next apx hsz.out 28 (by decide) _ (fun _ h => Option.some.inj h)⟩
              · have e28 : z 130 = .bool true := hz 28 _ (hw 28 (by kernel_rfl)) rfl
                have cl := (hx.out.block _ (Array.getElem?_eq_some_iff.1 F3.out).1).trans F3.out
                refine wpOp_want rfl (by simp [Region.wanted, yielded, e28]) (wp_load_row 24 (.tmp 3) rfl (g) rfl 24 (lab a c) (0, 0) _ cl Tryd.underlying24 rfl infoL ?_)
                go_simp
                exact ⟨⟨by simp [hsz.out], hx.out⟩, upd z 131 (.agg (lab a c)), (by unfold Hid; simp [upd, e28]), hz.next apx hsz.out 29 (by decide) _ (fun _ h => Option.some.inj h)⟩
              · have e28 : z 130 = .bool true := hz 28 _ (hw 28 (by kernel_rfl)) rfl
                refine wpOp_want rfl (by simp [Region.wanted, yielded, e28]) ?_
                go_simp
                go_at_call 24
                refine (top_any wx).mono ?_
                rintro e w' ⟨rfl, low⟩
                exact ⟨⟨by simp [hsz.out], hx.out.trans (low.mono hx.out.size)⟩, upd z 132 (.agg #[.int .i64 15, .int .u64 18446744073709551615]), (by unfold Hid; simp [upd, e28]), hz.next apx hsz.out 30 (by decide) _ (fun _ h => Option.some.inj h)⟩
              · have e28 : z 130 = .bool true := hz 28 _ (hw 28 (by kernel_rfl)) rfl
                have e29 : z 131 = .agg (lab a c) := hz 29 _ (hw 29 (by kernel_rfl)) rfl
                have e30 : z 132 = .agg #[.int .i64 15, .int .u64 18446744073709551615] := hz 30 _ (hw 30 (by kernel_rfl)) rfl
                refine wpOp_want rfl (by simp [Region.wanted, yielded, e28]) ?_
                go_simp
                go_at_call 9
                refine (HBT.out wx).mono ?_
                rintro e w' ⟨rfl, low⟩
                exact ⟨⟨by simp [hsz.out], hx.out.trans (low.mono hx.out.size)⟩, upd z 133 (.bool true), (by unfold Hid; simp [upd, e28, e29, e30]), hz.next apx hsz.out 31 (by decide) _ (fun _ h => Option.some.inj h)⟩
              · have e24 : z 126 = .bool false := hz 24 _ (hw 24 (by kernel_rfl)) rfl
                have e28 : z 130 = .bool true := hz 28 _ (hw 28 (by kernel_rfl)) rfl
                have e31 : z 133 = .bool true := hz 31 _ (hw 31 (by kernel_rfl)) rfl
                refine wpOp_want rfl (by simp [Region.wanted, yielded, e24]) ?_
                go_simp
                exact ⟨⟨by simp [hsz.out], hx.out⟩, upd z 134 (.bool true), (by unfold Hid; simp [upd, e24, e28, e31]), hz.next apx hsz.out 32 (by decide) _ (fun _ h => Option.some.inj h)⟩
              · have e21 : z 123 = .bool true := hz 21 _ (hw 21 (by kernel_rfl)) rfl
                have e24 : z 126 = .bool false := hz 24 _ (hw 24 (by kernel_rfl)) rfl
                have e32 : z 134 = .bool true := hz 32 _ (hw 32 (by kernel_rfl)) rfl
                refine wpOp_want rfl (by simp [Region.wanted, yielded, e21]) ?_
                go_simp
                exact ⟨⟨by simp [hsz.out], hx.out⟩, upd z 135 (.bool true), (by unfold Hid; simp [upd, e21, e24, e32]), hz.next apx hsz.out 33 (by decide) _ (fun _ h => Option.some.inj h)⟩
              · have e21 : z 123 = .bool true := hz 21 _ (hw 21 (by kernel_rfl)) rfl
                have e33 : z 135 = .bool true := hz 33 _ (hw 33 (by kernel_rfl)) rfl
                refine wpOp_plain rfl rfl ?_
                go_simp
                exact ⟨⟨by simp [hsz.out], hx.out⟩, upd z 136 (.bool true), (by unfold Hid; simp [upd, e21, e33]), hz.next apx hsz.out 34 (by decide) _ (fun _ h => Option.some.inj h)⟩
              · have e34 : z 136 = .bool true := hz 34 _ (hw 34 (by kernel_rfl)) rfl
                refine wpOp_plain rfl rfl ?_
                go_simp
                exact ⟨⟨by simp [hsz.out], hx.out⟩, upd z 137 (.bool true), (by unfold Hid; simp [upd, e34]), hz.next apx hsz.out 35 (by decide) _ (fun _ h => Option.some.inj h)⟩
              · have e35 : z 137 = .bool true := hz 35 _ (hw 35 (by kernel_rfl)) rfl
                refine wpOp_want rfl (by simp [Region.wanted, yielded, e35]) ?_
                go_simp
                go_at_call 17
                refine (awake_any wx (HLd.out.below hx.out)).mono ?_
                rintro e w' ⟨rfl, low⟩
                exact ⟨⟨by simp [hsz.out], hx.out.trans (low.mono hx.out.size)⟩, upd z 138 (.bool true), (by unfold Hid; simp [upd, e35]), hz.next apx hsz.out 36 (by decide) _ (fun _ h => Option.some.inj h)⟩
              · have e35 : z 137 = .bool true := hz 35 _ (hw 35 (by kernel_rfl)) rfl
                have e36 : z 138 = .bool true := hz 36 _ (hw 36 (by kernel_rfl)) rfl
                refine wpOp_plain rfl rfl ?_
                go_simp
                exact ⟨⟨by simp [hsz.out], hx.out⟩, upd z 139 (.bool true), (by unfold Hid; simp [upd, e35, e36]), hz.next apx hsz.out 37 (by decide) _ (fun _ h => Option.some.inj h)⟩
              · have e37 : z 139 = .bool true := hz 37 _ (hw 37 (by kernel_rfl)) rfl
                refine wpOp_plain rfl rfl ?_
                go_simp
                exact ⟨⟨by simp [hsz.out], hx.out⟩, upd z 6 (.bool true), (by unfold Hid; simp [upd, e37]), hz.next apx hsz.out 38 (by decide) _ (fun _ h => Option.some.inj h)⟩
            · exact ⟨⟨rfl, (Below.refl _ _).drew⟩, fun xx => (#[.agg (lab a c), .agg (lab b d), .agg (lab e f), .pointer (some ⟨g, 0, none⟩), .pointer (some ⟨g4, 0, none⟩), .pointer (some ⟨g5, 0, none⟩), .bool false, .pointer (some ⟨n7, 0, none⟩), .pointer (some ⟨n8, 0, none⟩), Value.bool true, u10, u11, u12, u13, u14, u15, u16, u17, u18, u19, u20, u21, u22, u23, u24, u25, u26, u27, u28, u29, u30, u31, u32, u33, u34, u35, u36, u37, u38, u39, u40, u41, u42, u43, u44, u45, u46, u47, u48, u49, u50, u51, u52, u53, u54, u55, u56, u57, u58, u59, u60, u61, u62, u63, u64, u65, u66, u67, u68, u69, u70, u71, u72, u73, u74, u75, u76, u77, u78, u79, u80, u81, u82, u83, u84, u85, u86, u87, u88, u89, u90, u91, u92, u93, u94, u95, u96, u97, Value.bool false, .agg (lab a c), Value.int IntKind.i64 0, Value.bool true, u102, u103, u104, u105, u106, u107, u108, u109, u110, u111, u112, u113, u114, u115, u116, u117, u118, u119, u120, u121, u122, u123, u124, u125, u126, u127, u128, u129, u130, u131, u132, u133, u134, u135, u136, u137, u138, u139] : Array Value).getD xx undef, (by rfl), Holding.start⟩

          · have hchk : chk a = 2 := by unfold chk; rw [if_neg hv]
            go_upto_region 9 with (first
              | (go_at_call 7; refine (check_any _ _ _).mono ?_; rintro e' w2 ⟨rfl, low⟩; have HF := Lib.hid (HF3.out.later low); clear low)
              | (refine want_lab (.tmp 3) rfl g rfl _ _ HF3.out.h3 rfl ?_))
            rename World => wf
            have F3 := Lib.hid HF.out.h3
            have F4 := Lib.hid HF.out.h4
            have F5 := Lib.hid HF.out.h5
            have F7 := Lib.hid HF.out.h7
            have F8 := Lib.hid HF.out.h8
            have Low := Lib.hid HF.out.low
            have HLd := Lib.hid HF.out.ld
            have hjm1 : max a ml = a := by rw [Hml.out]; omega
            have hjm2 : c ||| mc = c := by rw [Hmc.out]; exact or_and c d
            have HJM := Lib.hid (fun wx => join_is hc om hjm1 hjm2 wx)
            clear hjm1 hjm2
            have hmin : min a jl = a := by rw [Hjl.out]; omega
            have hand : c &&& jc = c := by rw [Hjc.out]; exact and_or c d
            obtain ⟨r, hr⟩ : ∃ r, bel a c b d = r := ⟨_, rfl⟩
            have HAB := Lib.hid (fun wx => below_is hc hd hr wx)
            have HMJ := Lib.hid (fun wx => meet_is hc oj hmin hand wx)
            have hq : (jl == b && jc == d) = r := by rw [← hr, Hjl.out, Hjc.out]; exact join_beq a b c d
            have heq := eq_run hq
            clear hmin hand hv hchk hr hq
            have apx : apartB [102, 103, 104, 105, 106, 107, 108, 109, 110, 111, 112, 113, 114, 115, 116, 117, 118, 119, 120, 121, 122, 123, 124, 125, 126, 127, 128, 129, 130, 131, 132, 133, 134, 135, 136, 137, 138, 139, 6] = true := by decide
            refine wp_region_any (by kernel_rfl) ?_
            change wpAny _ _ _ _ _ _ _ (World.drew _)
            refine wpAny_inv (fun ll aa wx => Hid (ll.size = 39 ∧ Below wf.heap.size wf wx) ∧ ∃ (z : Nat → Value), Hid (aa = ⟨#[.agg (lab a c), .agg (lab b d), .agg (lab e f), .pointer (some ⟨g, 0, none⟩), .pointer (some ⟨g4, 0, none⟩), .pointer (some ⟨g5, 0, none⟩), z 6, .pointer (some ⟨n7, 0, none⟩), .pointer (some ⟨n8, 0, none⟩), Value.bool false, u10, u11, u12, u13, u14, u15, u16, u17, u18, u19, u20, u21, u22, u23, u24, u25, u26, u27, u28, u29, u30, u31, u32, u33, u34, u35, u36, u37, u38, u39, u40, u41, u42, u43, u44, u45, u46, u47, u48, u49, u50, u51, u52, u53, u54, u55, u56, u57, u58, u59, u60, u61, u62, u63, u64, u65, u66, u67, u68, u69, u70, u71, u72, u73, u74, u75, u76, u77, u78, u79, u80, u81, u82, u83, u84, u85, u86, u87, u88, u89, u90, u91, u92, u93, u94, u95, u96, u97, Value.bool false, .agg (lab a c), Value.int IntKind.i64 2, Value.bool false, z 102, z 103, z 104, z 105, z 106, z 107, z 108, z 109, z 110, z 111, z 112, z 113, z 114, z 115, z 116, z 117, z 118, z 119, z 120, z 121, z 122, z 123, z 124, z 125, z 126, z 127, z 128, z 129, z 130, z 131, z 132, z 133, z 134, z 135, z 136, z 137, z 138, z 139], []⟩) ∧ Holding [102, 103, 104, 105, 106, 107, 108, 109, 110, 111, 112, 113, 114, 115, 116, 117, 118, 119, 120, 121, 122, 123, 124, 125, 126, 127, 128, 129, 130, 131, 132, 133, 134, 135, 136, 137, 138, 139, 6] [some (.agg (lab a c)), some (.agg (lab ml mc)), some (.agg (lab a c)), some (.agg (lab a c)), some (.bool true), some (.bool true), some (.agg (lab a c)), some (.agg (lab jl jc)), some (.agg (lab a c)), some (.agg (lab a c)), some (.bool true), some (.bool true), some (.bool true), some (.agg (lab a c)), some (.agg (lab b d)), some (.bool r), some (.agg (lab jl jc)), some (.agg (lab b d)), some (.bool r), some (.bool true), some (.bool true), some (.bool true), some (.bool false), some (.bool true), some (.bool true), some (undef), some (undef), some (undef), some (undef), some (undef), some (undef), some (undef), some (undef), some (.bool true), some (.bool true), some (.bool true), some (.bool true), some (.bool true), some (.bool true)] ll z) ?_ (by kernel_rfl) ?_ ?_ _ _ _ _ (unlisted_none _) ?_
            · rintro ll aa wx ⟨hI, _⟩
              exact hI.out.1
            · rintro ll aa wx ⟨hI, z, ha, hz⟩ hall
              have hx := Lib.hid hI.out.2
              have e0 : z 102 = .agg (lab a c) := hz 0 _ (hall 0 (by decide)) rfl
              have e1 : z 103 = .agg (lab ml mc) := hz 1 _ (hall 1 (by decide)) rfl
              have e2 : z 104 = .agg (lab a c) := hz 2 _ (hall 2 (by decide)) rfl
              have e3 : z 105 = .agg (lab a c) := hz 3 _ (hall 3 (by decide)) rfl
              have e4 : z 106 = .bool true := hz 4 _ (hall 4 (by decide)) rfl
              have e5 : z 107 = .bool true := hz 5 _ (hall 5 (by decide)) rfl
              have e6 : z 108 = .agg (lab a c) := hz 6 _ (hall 6 (by decide)) rfl
              have e7 : z 109 = .agg (lab jl jc) := hz 7 _ (hall 7 (by decide)) rfl
              have e8 : z 110 = .agg (lab a c) := hz 8 _ (hall 8 (by decide)) rfl
              have e9 : z 111 = .agg (lab a c) := hz 9 _ (hall 9 (by decide)) rfl
              have e10 : z 112 = .bool true := hz 10 _ (hall 10 (by decide)) rfl
              have e11 : z 113 = .bool true := hz 11 _ (hall 11 (by decide)) rfl
              have e12 : z 114 = .bool true := hz 12 _ (hall 12 (by decide)) rfl
              have e13 : z 115 = .agg (lab a c) := hz 13 _ (hall 13 (by decide)) rfl
              have e14 : z 116 = .agg (lab b d) := hz 14 _ (hall 14 (by decide)) rfl
              have e15 : z 117 = .bool r := hz 15 _ (hall 15 (by decide)) rfl
              have e16 : z 118 = .agg (lab jl jc) := hz 16 _ (hall 16 (by decide)) rfl
              have e17 : z 119 = .agg (lab b d) := hz 17 _ (hall 17 (by decide)) rfl
              have e18 : z 120 = .bool r := hz 18 _ (hall 18 (by decide)) rfl
              have e19 : z 121 = .bool true := hz 19 _ (hall 19 (by decide)) rfl
              have e20 : z 122 = .bool true := hz 20 _ (hall 20 (by decide)) rfl
              have e21 : z 123 = .bool true := hz 21 _ (hall 21 (by decide)) rfl
              have e22 : z 124 = .bool false := hz 22 _ (hall 22 (by decide)) rfl
              have e23 : z 125 = .bool true := hz 23 _ (hall 23 (by decide)) rfl
              have e24 : z 126 = .bool true := hz 24 _ (hall 24 (by decide)) rfl
              have e25 : z 127 = undef := hz 25 _ (hall 25 (by decide)) rfl
              have e26 : z 128 = undef := hz 26 _ (hall 26 (by decide)) rfl
              have e27 : z 129 = undef := hz 27 _ (hall 27 (by decide)) rfl
              have e28 : z 130 = undef := hz 28 _ (hall 28 (by decide)) rfl
              have e29 : z 131 = undef := hz 29 _ (hall 29 (by decide)) rfl
              have e30 : z 132 = undef := hz 30 _ (hall 30 (by decide)) rfl
              have e31 : z 133 = undef := hz 31 _ (hall 31 (by decide)) rfl
              have e32 : z 134 = undef := hz 32 _ (hall 32 (by decide)) rfl
              have e33 : z 135 = .bool true := hz 33 _ (hall 33 (by decide)) rfl
              have e34 : z 136 = .bool true := hz 34 _ (hall 34 (by decide)) rfl
              have e35 : z 137 = .bool true := hz 35 _ (hall 35 (by decide)) rfl
              have e36 : z 138 = .bool true := hz 36 _ (hall 36 (by decide)) rfl
              have e37 : z 139 = .bool true := hz 37 _ (hall 37 (by decide)) rfl
              have e38 : z 6 = .bool true := hz 38 _ (hall 38 (by decide)) rfl
              clear hall hz hI 
              obtain rfl := ha.out
              clear ha
              clear apx
              have E := Lib.hid e38
              clear e0 e1 e2 e3 e4 e5 e6 e7 e8 e9 e10 e11 e12 e13 e14 e15 e16 e17 e18 e19 e20 e21 e22 e23 e24 e25 e26 e27 e28 e29 e30 e31 e32 e33 e34 e35 e36 e37 e38
              dsimp only
              go_wp2
              go_ret
              exact ⟨by rw [E.out]; rfl, Low.out.trans (hx.out.mono Low.out.size)⟩
            · rintro ll aa wx i ⟨hI, z, ha, hz⟩ hi hu hw
              obtain rfl := ha.out
              have hsz := Lib.hid hI.out.1
              have hx := Lib.hid hI.out.2
              clear ha hI
              have hin : i < 39 := hi
              obtain rfl | rfl | rfl | rfl | rfl | rfl | rfl | rfl | rfl | rfl | rfl | rfl | rfl | rfl | rfl | rfl | rfl | rfl | rfl | rfl | rfl | rfl | rfl | rfl | rfl | rfl | rfl | rfl | rfl | rfl | rfl | rfl | rfl | rfl | rfl | rfl | rfl | rfl | rfl : i = 0 ∨ i = 1 ∨ i = 2 ∨ i = 3 ∨ i = 4 ∨ i = 5 ∨ i = 6 ∨ i = 7 ∨ i = 8 ∨ i = 9 ∨ i = 10 ∨ i = 11 ∨ i = 12 ∨ i = 13 ∨ i = 14 ∨ i = 15 ∨ i = 16 ∨ i = 17 ∨ i = 18 ∨ i = 19 ∨ i = 20 ∨ i = 21 ∨ i = 22 ∨ i = 23 ∨ i = 24 ∨ i = 25 ∨ i = 26 ∨ i = 27 ∨ i = 28 ∨ i = 29 ∨ i = 30 ∨ i = 31 ∨ i = 32 ∨ i = 33 ∨ i = 34 ∨ i = 35 ∨ i = 36 ∨ i = 37 ∨ i = 38 := by omega
              · have cl := (hx.out.block _ (Array.getElem?_eq_some_iff.1 F3.out).1).trans F3.out
                refine wpOp_plain rfl rfl (wp_load_row 24 (.tmp 3) rfl (g) rfl 24 (lab a c) (0, 0) _ cl Tryd.underlying24 rfl infoL ?_)
                go_simp
                exact ⟨⟨by simp [hsz.out], hx.out⟩, upd z 102 (.agg (lab a c)), (by unfold Hid; simp [upd]), hz.next apx hsz.out 0 (by decide) _ (fun _ h => Option.some.inj h)⟩
              · have cl := (hx.out.block _ (Array.getElem?_eq_some_iff.1 F8.out).1).trans F8.out
                refine wpOp_plain rfl rfl (wp_load_row 24 (.tmp 8) rfl (n8) rfl 24 (lab ml mc) (0, 0) _ cl Tryd.underlying24 rfl infoL ?_)
                go_simp
                exact ⟨⟨by simp [hsz.out], hx.out⟩, upd z 103 (.agg (lab ml mc)), (by unfold Hid; simp [upd]), hz.next apx hsz.out 1 (by decide) _ (fun _ h => Option.some.inj h)⟩
              · have e0 : z 102 = .agg (lab a c) := hz 0 _ (hw 0 (by kernel_rfl)) rfl
                have e1 : z 103 = .agg (lab ml mc) := hz 1 _ (hw 1 (by kernel_rfl)) rfl
                refine wpOp_plain rfl rfl ?_
                go_simp
                go_at_call 11
                refine (HJM.out wx).mono ?_
                rintro e w' ⟨rfl, low⟩
                exact ⟨⟨by simp [hsz.out], hx.out.trans (low.mono hx.out.size)⟩, upd z 104 (.agg (lab a c)), (by unfold Hid; simp [upd, e0, e1]), hz.next apx hsz.out 2 (by decide) _ (fun _ h => Option.some.inj h)⟩
              · have cl := (hx.out.block _ (Array.getElem?_eq_some_iff.1 F3.out).1).trans F3.out
                refine wpOp_plain rfl rfl (wp_load_row 24 (.tmp 3) rfl (g) rfl 24 (lab a c) (0, 0) _ cl Tryd.underlying24 rfl infoL ?_)
                go_simp
                exact ⟨⟨by simp [hsz.out], hx.out⟩, upd z 105 (.agg (lab a c)), (by unfold Hid; simp [upd]), hz.next apx hsz.out 3 (by decide) _ (fun _ h => Option.some.inj h)⟩
              · have e2 : z 104 = .agg (lab a c) := hz 2 _ (hw 2 (by kernel_rfl)) rfl
                have e3 : z 105 = .agg (lab a c) := hz 3 _ (hw 3 (by kernel_rfl)) rfl
                refine wpOp_plain rfl rfl ?_
                go_simp
                exact ⟨⟨by simp [hsz.out], hx.out⟩, upd z 106 (.bool true), (by unfold Hid; simp [upd, e2, e3]), hz.next apx hsz.out 4 (by decide) _ (fun _ h => Option.some.inj h)⟩
              · have e4 : z 106 = .bool true := hz 4 _ (hw 4 (by kernel_rfl)) rfl
                refine wpOp_plain rfl rfl ?_
                go_simp
                exact ⟨⟨by simp [hsz.out], hx.out⟩, upd z 107 (.bool true), (by unfold Hid; simp [upd, e4]), hz.next apx hsz.out 5 (by decide) _ (fun _ h => Option.some.inj h)⟩
              · have e5 : z 107 = .bool true := hz 5 _ (hw 5 (by kernel_rfl)) rfl
                have cl := (hx.out.block _ (Array.getElem?_eq_some_iff.1 F3.out).1).trans F3.out
                refine wpOp_want rfl (by simp [Region.wanted, yielded, e5]) (wp_load_row 24 (.tmp 3) rfl (g) rfl 24 (lab a c) (0, 0) _ cl Tryd.underlying24 rfl infoL ?_)
                go_simp
                exact ⟨⟨by simp [hsz.out], hx.out⟩, upd z 108 (.agg (lab a c)), (by unfold Hid; simp [upd, e5]), hz.next apx hsz.out 6 (by decide) _ (fun _ h => Option.some.inj h)⟩
              · have e5 : z 107 = .bool true := hz 5 _ (hw 5 (by kernel_rfl)) rfl
                have cl := (hx.out.block _ (Array.getElem?_eq_some_iff.1 F7.out).1).trans F7.out
                refine wpOp_want rfl (by simp [Region.wanted, yielded, e5]) (wp_load_row 24 (.tmp 7) rfl (n7) rfl 24 (lab jl jc) (0, 0) _ cl Tryd.underlying24 rfl infoL ?_)
                go_simp
                exact ⟨⟨by simp [hsz.out], hx.out⟩, upd z 109 (.agg (lab jl jc)), (by unfold Hid; simp [upd, e5]), hz.next apx hsz.out 7 (by decide) _ (fun _ h => Option.some.inj h)⟩
              · have e5 : z 107 = .bool true := hz 5 _ (hw 5 (by kernel_rfl)) rfl
                have e6 : z 108 = .agg (lab a c) := hz 6 _ (hw 6 (by kernel_rfl)) rfl
                have e7 : z 109 = .agg (lab jl jc) := hz 7 _ (hw 7 (by kernel_rfl)) rfl
                refine wpOp_want rfl (by simp [Region.wanted, yielded, e5]) ?_
                go_simp
                go_at_call 13
                refine (HMJ.out wx).mono ?_
                rintro e w' ⟨rfl, low⟩
                exact ⟨⟨by simp [hsz.out], hx.out.trans (low.mono hx.out.size)⟩, upd z 110 (.agg (lab a c)), (by unfold Hid; simp [upd, e5, e6, e7]), hz.next apx hsz.out 8 (by decide) _ (fun _ h => Option.some.inj h)⟩
              · have e5 : z 107 = .bool true := hz 5 _ (hw 5 (by kernel_rfl)) rfl
                have cl := (hx.out.block _ (Array.getElem?_eq_some_iff.1 F3.out).1).trans F3.out
                refine wpOp_want rfl (by simp [Region.wanted, yielded, e5]) (wp_load_row 24 (.tmp 3) rfl (g) rfl 24 (lab a c) (0, 0) _ cl Tryd.underlying24 rfl infoL ?_)
                go_simp
                exact ⟨⟨by simp [hsz.out], hx.out⟩, upd z 111 (.agg (lab a c)), (by unfold Hid; simp [upd, e5]), hz.next apx hsz.out 9 (by decide) _ (fun _ h => Option.some.inj h)⟩
              · have e5 : z 107 = .bool true := hz 5 _ (hw 5 (by kernel_rfl)) rfl
                have e8 : z 110 = .agg (lab a c) := hz 8 _ (hw 8 (by kernel_rfl)) rfl
                have e9 : z 111 = .agg (lab a c) := hz 9 _ (hw 9 (by kernel_rfl)) rfl
                refine wpOp_want rfl (by simp [Region.wanted, yielded, e5]) ?_
                go_simp
                exact ⟨⟨by simp [hsz.out], hx.out⟩, upd z 112 (.bool true), (by unfold Hid; simp [upd, e5, e8, e9]), hz.next apx hsz.out 10 (by decide) _ (fun _ h => Option.some.inj h)⟩
              · have e5 : z 107 = .bool true := hz 5 _ (hw 5 (by kernel_rfl)) rfl
                have e10 : z 112 = .bool true := hz 10 _ (hw 10 (by kernel_rfl)) rfl
                refine wpOp_plain rfl rfl ?_
                go_simp
                exact ⟨⟨by simp [hsz.out], hx.out⟩, upd z 113 (.bool true), (by unfold Hid; simp [upd, e5, e10]), hz.next apx hsz.out 11 (by decide) _ (fun _ h => Option.some.inj h)⟩
              · have e11 : z 113 = .bool true := hz 11 _ (hw 11 (by kernel_rfl)) rfl
                refine wpOp_plain rfl rfl ?_
                go_simp
                exact ⟨⟨by simp [hsz.out], hx.out⟩, upd z 114 (.bool true), (by unfold Hid; simp [upd, e11]), hz.next apx hsz.out 12 (by decide) _ (fun _ h => Option.some.inj h)⟩
              · have e12 : z 114 = .bool true := hz 12 _ (hw 12 (by kernel_rfl)) rfl
                have cl := (hx.out.block _ (Array.getElem?_eq_some_iff.1 F3.out).1).trans F3.out
                refine wpOp_want rfl (by simp [Region.wanted, yielded, e12]) (wp_load_row 24 (.tmp 3) rfl (g) rfl 24 (lab a c) (0, 0) _ cl Tryd.underlying24 rfl infoL ?_)
                go_simp
                exact ⟨⟨by simp [hsz.out], hx.out⟩, upd z 115 (.agg (lab a c)), (by unfold Hid; simp [upd, e12]), hz.next apx hsz.out 13 (by decide) _ (fun _ h => Option.some.inj h)⟩
              · have e12 : z 114 = .bool true := hz 12 _ (hw 12 (by kernel_rfl)) rfl
                have cl := (hx.out.block _ (Array.getElem?_eq_some_iff.1 F4.out).1).trans F4.out
                refine wpOp_want rfl (by simp [Region.wanted, yielded, e12]) (wp_load_row 24 (.tmp 4) rfl (g4) rfl 24 (lab b d) (0, 0) _ cl Tryd.underlying24 rfl infoL ?_)
                go_simp
                exact ⟨⟨by simp [hsz.out], hx.out⟩, upd z 116 (.agg (lab b d)), (by unfold Hid; simp [upd, e12]), hz.next apx hsz.out 14 (by decide) _ (fun _ h => Option.some.inj h)⟩
              · have e12 : z 114 = .bool true := hz 12 _ (hw 12 (by kernel_rfl)) rfl
                have e13 : z 115 = .agg (lab a c) := hz 13 _ (hw 13 (by kernel_rfl)) rfl
                have e14 : z 116 = .agg (lab b d) := hz 14 _ (hw 14 (by kernel_rfl)) rfl
                refine wpOp_want rfl (by simp [Region.wanted, yielded, e12]) ?_
                go_simp
                go_at_call 9
                refine (HAB.out wx).mono ?_
                rintro e w' ⟨rfl, low⟩
                exact ⟨⟨by simp [hsz.out], hx.out.trans (low.mono hx.out.size)⟩, upd z 117 (.bool r), (by unfold Hid; simp [upd, e12, e13, e14]), hz.next apx hsz.out 15 (by decide) _ (fun _ h => Option.some.inj h)⟩
              · have e12 : z 114 = .bool true := hz 12 _ (hw 12 (by kernel_rfl)) rfl
                have cl := (hx.out.block _ (Array.getElem?_eq_some_iff.1 F7.out).1).trans F7.out
                refine wpOp_want rfl (by simp [Region.wanted, yielded, e12]) (wp_load_row 24 (.tmp 7) rfl (n7) rfl 24 (lab jl jc) (0, 0) _ cl Tryd.underlying24 rfl infoL ?_)
                go_simp
                exact ⟨⟨by simp [hsz.out], hx.out⟩, upd z 118 (.agg (lab jl jc)), (by unfold Hid; simp [upd, e12]), hz.next apx hsz.out 16 (by decide) _ (fun _ h => Option.some.inj h)⟩
              · have e12 : z 114 = .bool true := hz 12 _ (hw 12 (by kernel_rfl)) rfl
                have cl := (hx.out.block _ (Array.getElem?_eq_some_iff.1 F4.out).1).trans F4.out
                refine wpOp_want rfl (by simp [Region.wanted, yielded, e12]) (wp_load_row 24 (.tmp 4) rfl (g4) rfl 24 (lab b d) (0, 0) _ cl Tryd.underlying24 rfl infoL ?_)
                go_simp
                exact ⟨⟨by simp [hsz.out], hx.out⟩, upd z 119 (.agg (lab b d)), (by unfold Hid; simp [upd, e12]), hz.next apx hsz.out 17 (by decide) _ (fun _ h => Option.some.inj h)⟩
              · have e12 : z 114 = .bool true := hz 12 _ (hw 12 (by kernel_rfl)) rfl
                have e16 : z 118 = .agg (lab jl jc) := hz 16 _ (hw 16 (by kernel_rfl)) rfl
                have e17 : z 119 = .agg (lab b d) := hz 17 _ (hw 17 (by kernel_rfl)) rfl
                refine wpOp_want rfl (by simp [Region.wanted, yielded, e12]) ?_
                go_simp
                exact ⟨⟨by simp [hsz.out], hx.out⟩, upd z 120 (.bool r), (by unfold Hid; simp [upd, e12, e16, e17]), hz.next apx hsz.out 18 (by decide) _ (fun _ h => Option.some.inj h)⟩
              · have e12 : z 114 = .bool true := hz 12 _ (hw 12 (by kernel_rfl)) rfl
                have e15 : z 117 = .bool r := hz 15 _ (hw 15 (by kernel_rfl)) rfl
                have e18 : z 120 = .bool r := hz 18 _ (hw 18 (by kernel_rfl)) rfl
                refine wpOp_want rfl (by simp [Region.wanted, yielded, e12]) ?_
                go_simp
                exact ⟨⟨by simp [hsz.out], hx.out⟩, upd z 121 (.bool true), (by unfold Hid; simp [upd, e12, e15, e18]), hz.next apx hsz.out 19 (by decide) _ (fun _ h => Option.some.inj h)⟩
              · have e12 : z 114 = .bool true := hz 12 _ (hw 12 (by kernel_rfl)) rfl
                have e19 : z 121 = .bool true := hz 19 _ (hw 19 (by kernel_rfl)) rfl
                refine wpOp_plain rfl rfl ?_
                go_simp
                exact ⟨⟨by simp [hsz.out], hx.out⟩, upd z 122 (.bool true), (by unfold Hid; simp [upd, e12, e19]), hz.next apx hsz.out 20 (by decide) _ (fun _ h => Option.some.inj h)⟩
              · have e20 : z 122 = .bool true := hz 20 _ (hw 20 (by kernel_rfl)) rfl
                refine wpOp_plain rfl rfl ?_
                go_simp
                exact ⟨⟨by simp [hsz.out], hx.out⟩, upd z 123 (.bool true), (by unfold Hid; simp [upd, e20]), hz.next apx hsz.out 21 (by decide) _ (fun _ h => Option.some.inj h)⟩
              · have e21 : z 123 = .bool true := hz 21 _ (hw 21 (by kernel_rfl)) rfl
                refine wpOp_want rfl (by simp [Region.wanted, yielded, e21]) ?_
                go_simp
                exact ⟨⟨by simp [hsz.out], hx.out⟩, upd z 124 (.bool false), (by unfold Hid; simp [upd, e21]), hz.next apx hsz.out 22 (by decide) _ (fun _ h => Option.some.inj h)⟩
              · have e21 : z 123 = .bool true := hz 21 _ (hw 21 (by kernel_rfl)) rfl
                have e22 : z 124 = .bool false := hz 22 _ (hw 22 (by kernel_rfl)) rfl
                refine wpOp_want rfl (by simp [Region.wanted, yielded, e21]) ?_
                go_simp
                exact ⟨⟨by simp [hsz.out], hx.out⟩, upd z 125 (.bool true), (by unfold Hid; simp [upd, e21, e22]), hz.next apx hsz.out 23 (by decide) _ (fun _ h => Option.some.inj h)⟩
              · have e21 : z 123 = .bool true := hz 21 _ (hw 21 (by kernel_rfl)) rfl
                have e23 : z 125 = .bool true := hz 23 _ (hw 23 (by kernel_rfl)) rfl
                refine wpOp_want rfl (by simp [Region.wanted, yielded, e21]) ?_
                go_simp
                exact ⟨⟨by simp [hsz.out], hx.out⟩, upd z 126 (.bool true), (by unfold Hid; simp [upd, e21, e23]), hz.next apx hsz.out 24 (by decide) _ (fun _ h => Option.some.inj h)⟩
              · have e24 : z 126 = .bool true := hz 24 _ (hw 24 (by kernel_rfl)) rfl
                refine wpOp_skip rfl (by simp [Region.wanted, yielded, e24]; try simp [undef]) ?_
                go_simp
                exact ⟨⟨by simp [hsz.out], hx.out⟩, upd z 127 (undef), (by unfold Hid; simp [upd, e24]), hz.next apx hsz.out 25 (by decide) _ (fun _ h => Option.some.inj h)⟩
              · have e24 : z 126 = .bool true := hz 24 _ (hw 24 (by kernel_rfl)) rfl
                refine wpOp_skip rfl (by simp [Region.wanted, yielded, e24]; try simp [undef]) ?_
                go_simp
                exact ⟨⟨by simp [hsz.out], hx.out⟩, upd z 128 (undef), (by unfold Hid; simp [upd, e24]), hz.next apx hsz.out 26 (by decide) _ (fun _ h => Option.some.inj h)⟩
              · have e24 : z 126 = .bool true := hz 24 _ (hw 24 (by kernel_rfl)) rfl
                refine wpOp_skip rfl (by simp [Region.wanted, yielded, e24]; try simp [undef]) ?_
                go_simp
                exact ⟨⟨by simp [hsz.out], hx.out⟩, upd z 129 (undef), (by unfold Hid; simp [upd, e24]), hz.next apx hsz.out 27 (by decide) _ (fun _ h => Option.some.inj h)⟩
              · have e24 : z 126 = .bool true := hz 24 _ (hw 24 (by kernel_rfl)) rfl
                refine wpOp_skip rfl (by simp [Region.wanted, yielded, e24]; try simp [undef]) ?_
                go_simp
                exact ⟨⟨by simp [hsz.out], hx.out⟩, upd z 130 (undef), (by unfold Hid; simp [upd, e24]), hz.next apx hsz.out 28 (by decide) _ (fun _ h => Option.some.inj h)⟩
              · have e28 : z 130 = undef := hz 28 _ (hw 28 (by kernel_rfl)) rfl
                refine wpOp_skip rfl (by simp [Region.wanted, yielded, e28]; try simp [undef]) ?_
                go_simp
                exact ⟨⟨by simp [hsz.out], hx.out⟩, upd z 131 (undef), (by unfold Hid; simp [upd, e28]), hz.next apx hsz.out 29 (by decide) _ (fun _ h => Option.some.inj h)⟩
              · have e28 : z 130 = undef := hz 28 _ (hw 28 (by kernel_rfl)) rfl
                refine wpOp_skip rfl (by simp [Region.wanted, yielded, e28]; try simp [undef]) ?_
                go_simp
                exact ⟨⟨by simp [hsz.out], hx.out⟩, upd z 132 (undef), (by unfold Hid; simp [upd, e28]), hz.next apx hsz.out 30 (by decide) _ (fun _ h => Option.some.inj h)⟩
              · have e28 : z 130 = undef := hz 28 _ (hw 28 (by kernel_rfl)) rfl
                refine wpOp_skip rfl (by simp [Region.wanted, yielded, e28]; try simp [undef]) ?_
                go_simp
                exact ⟨⟨by simp [hsz.out], hx.out⟩, upd z 133 (undef), (by unfold Hid; simp [upd, e28]), hz.next apx hsz.out 31 (by decide) _ (fun _ h => Option.some.inj h)⟩
              · have e24 : z 126 = .bool true := hz 24 _ (hw 24 (by kernel_rfl)) rfl
                refine wpOp_skip rfl (by simp [Region.wanted, yielded, e24]; try simp [undef]) ?_
                go_simp
                exact ⟨⟨by simp [hsz.out], hx.out⟩, upd z 134 (undef), (by unfold Hid; simp [upd, e24]), hz.next apx hsz.out 32 (by decide) _ (fun _ h => Option.some.inj h)⟩
              · have e21 : z 123 = .bool true := hz 21 _ (hw 21 (by kernel_rfl)) rfl
                have e24 : z 126 = .bool true := hz 24 _ (hw 24 (by kernel_rfl)) rfl
                refine wpOp_want rfl (by simp [Region.wanted, yielded, e21]) ?_
                go_simp
                exact ⟨⟨by simp [hsz.out], hx.out⟩, upd z 135 (.bool true), (by unfold Hid; simp [upd, e21, e24]), hz.next apx hsz.out 33 (by decide) _ (fun _ h => Option.some.inj h)⟩
              · have e21 : z 123 = .bool true := hz 21 _ (hw 21 (by kernel_rfl)) rfl
                have e33 : z 135 = .bool true := hz 33 _ (hw 33 (by kernel_rfl)) rfl
                refine wpOp_plain rfl rfl ?_
                go_simp
                exact ⟨⟨by simp [hsz.out], hx.out⟩, upd z 136 (.bool true), (by unfold Hid; simp [upd, e21, e33]), hz.next apx hsz.out 34 (by decide) _ (fun _ h => Option.some.inj h)⟩
              · have e34 : z 136 = .bool true := hz 34 _ (hw 34 (by kernel_rfl)) rfl
                refine wpOp_plain rfl rfl ?_
                go_simp
                exact ⟨⟨by simp [hsz.out], hx.out⟩, upd z 137 (.bool true), (by unfold Hid; simp [upd, e34]), hz.next apx hsz.out 35 (by decide) _ (fun _ h => Option.some.inj h)⟩
              · have e35 : z 137 = .bool true := hz 35 _ (hw 35 (by kernel_rfl)) rfl
                refine wpOp_want rfl (by simp [Region.wanted, yielded, e35]) ?_
                go_simp
                go_at_call 17
                refine (awake_any wx (HLd.out.below hx.out)).mono ?_
                rintro e w' ⟨rfl, low⟩
                exact ⟨⟨by simp [hsz.out], hx.out.trans (low.mono hx.out.size)⟩, upd z 138 (.bool true), (by unfold Hid; simp [upd, e35]), hz.next apx hsz.out 36 (by decide) _ (fun _ h => Option.some.inj h)⟩
              · have e35 : z 137 = .bool true := hz 35 _ (hw 35 (by kernel_rfl)) rfl
                have e36 : z 138 = .bool true := hz 36 _ (hw 36 (by kernel_rfl)) rfl
                refine wpOp_plain rfl rfl ?_
                go_simp
                exact ⟨⟨by simp [hsz.out], hx.out⟩, upd z 139 (.bool true), (by unfold Hid; simp [upd, e35, e36]), hz.next apx hsz.out 37 (by decide) _ (fun _ h => Option.some.inj h)⟩
              · have e37 : z 139 = .bool true := hz 37 _ (hw 37 (by kernel_rfl)) rfl
                refine wpOp_plain rfl rfl ?_
                go_simp
                exact ⟨⟨by simp [hsz.out], hx.out⟩, upd z 6 (.bool true), (by unfold Hid; simp [upd, e37]), hz.next apx hsz.out 38 (by decide) _ (fun _ h => Option.some.inj h)⟩
            · exact ⟨⟨rfl, (Below.refl _ _).drew⟩, fun xx => (#[.agg (lab a c), .agg (lab b d), .agg (lab e f), .pointer (some ⟨g, 0, none⟩), .pointer (some ⟨g4, 0, none⟩), .pointer (some ⟨g5, 0, none⟩), .bool false, .pointer (some ⟨n7, 0, none⟩), .pointer (some ⟨n8, 0, none⟩), Value.bool false, u10, u11, u12, u13, u14, u15, u16, u17, u18, u19, u20, u21, u22, u23, u24, u25, u26, u27, u28, u29, u30, u31, u32, u33, u34, u35, u36, u37, u38, u39, u40, u41, u42, u43, u44, u45, u46, u47, u48, u49, u50, u51, u52, u53, u54, u55, u56, u57, u58, u59, u60, u61, u62, u63, u64, u65, u66, u67, u68, u69, u70, u71, u72, u73, u74, u75, u76, u77, u78, u79, u80, u81, u82, u83, u84, u85, u86, u87, u88, u89, u90, u91, u92, u93, u94, u95, u96, u97, Value.bool false, .agg (lab a c), Value.int IntKind.i64 2, Value.bool false, u102, u103, u104, u105, u106, u107, u108, u109, u110, u111, u112, u113, u114, u115, u116, u117, u118, u119, u120, u121, u122, u123, u124, u125, u126, u127, u128, u129, u130, u131, u132, u133, u134, u135, u136, u137, u138, u139] : Array Value).getD xx undef, (by rfl), Holding.start⟩

end Go.Proofs.YtdajmflpgphjiaaDoor.Lab
