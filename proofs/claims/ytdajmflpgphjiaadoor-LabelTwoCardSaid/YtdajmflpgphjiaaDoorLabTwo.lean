/- DERIVED. The walk of the law LabelTwo. Written by mktwo.py. -/
import Derived.Test.YtdajmflpgphjiaaDoorLabBoth
namespace Go.Proofs.YtdajmflpgphjiaaDoor.Lab
open Go.RowKit Str
set_option maxRecDepth 100000 in
set_option maxHeartbeats 8000000 in
theorem two_walk (a b : Int) (c d : Nat) (hc : OkC c) (hd : OkC d) (w : World) (hL : Laid w) :
    Calls Tryd.prog 3 #[.agg (lab a c), .agg (lab b d)] w fun e w' => e = .returned (.bool true) ∧ Below w.heap.size w w' := by
  obtain ⟨q, hq⟩ : ∃ q, chk a = q := ⟨_, rfl⟩
  obtain ⟨r, hr⟩ : ∃ r, bel a c b d = r := ⟨_, rfl⟩
  obtain ⟨o, ho⟩ : ∃ o, ordL a c b d = o := ⟨_, rfl⟩
  obtain ⟨jl, hjl⟩ : ∃ x, max a b = x := ⟨_, rfl⟩
  obtain ⟨jc, hjc⟩ : ∃ x, c ||| d = x := ⟨_, rfl⟩
  obtain ⟨ml, hml⟩ : ∃ x, min a b = x := ⟨_, rfl⟩
  obtain ⟨mc, hmc⟩ : ∃ x, c &&& d = x := ⟨_, rfl⟩
  have HC := Lib.hid (fun wx => check_any a c wx)
  have HM := Lib.hid (fun wx => refMay_any a c wx)
  have HB := Lib.hid (fun wx => below_l a b c d hc hd wx)
  have HRB := Lib.hid (fun wx => refBelow_any a b c d hc wx)
  have HJ := Lib.hid (fun wx => join_is hc hd hjl hjc wx)
  have HRJ := Lib.hid (fun wx => refJoin_any a b c d hc hd wx)
  have HE := Lib.hid (fun wx => meet_is hc hd hml hmc wx)
  have HRE := Lib.hid (fun wx => refMeet_any a b c d hc hd wx)
  have HO := Lib.hid (fun wx => order_any a b c d wx)
  have HRO := Lib.hid (fun wx => refOrder_any a b c d wx)
  rw [hq] at HC HM
  rw [hr] at HB HRB
  rw [hjl, hjc] at HRJ
  rw [hml, hmc] at HRE
  rw [ho] at HO HRO
  clear hq hr ho hjl hjc hml hmc hc hd
  have h2 := two_new w (.cells (lab a c) 24) (.cells (lab b d) 24)
  have low : Below w.heap.size w ((w.alloc (.cells (lab a c) 24)).alloc (.cells (lab b d) 24)) := ((Below.refl _ _).alloc (Nat.le_refl _) _).alloc (by simp) _
  obtain ⟨w2, hw2⟩ : ∃ w2, w2 = (w.alloc (.cells (lab a c) 24)).alloc (.cells (lab b d) 24) := ⟨_, rfl⟩
  rw [← hw2] at h2 low
  have Low := Lib.hid low
  have F2 := Lib.hid h2.1
  have F3 := Lib.hid h2.2
  have HLd := Lib.hid (hL.below low)
  have Hw := Lib.hid hw2
  clear low h2 hw2 hL
  go_enter Tryd.func3, Tryd.ntmps3
  go_upto_region 1 with (fail)
  rw [← Hw.out]
  clear Hw
  obtain ⟨g2, hg2⟩ : ∃ g2, g2 = w.heap.size + 1 := ⟨_, rfl⟩
  rw [← hg2] at F3 ⊢
  obtain ⟨g, hg⟩ : ∃ g, g = w.heap.size := ⟨_, rfl⟩
  rw [← hg] at F2 ⊢
  clear hg hg2
  have apx : apartB [5, 6, 7, 8, 9, 10, 11, 12, 13, 14, 15, 16, 17, 18, 19, 20, 21, 22, 23, 24, 25, 26, 27, 28, 29, 30, 31, 32, 33, 34, 35, 36, 37, 38, 39, 40, 41, 42, 43, 44, 45, 46, 47, 48, 49, 4] = true := by decide
  refine wp_region_any (by kernel_rfl) ?_
  change wpAny _ _ _ _ _ _ _ (World.drew _)
  refine wpAny_inv (fun ll aa wx => Hid (ll.size = 46 ∧ Below w2.heap.size w2 wx) ∧ ∃ (z : Nat → Value), Hid (aa = ⟨#[.agg (lab a c), .agg (lab b d), .pointer (some ⟨g, 0, none⟩), .pointer (some ⟨g2, 0, none⟩), z 4, z 5, z 6, z 7, z 8, z 9, z 10, z 11, z 12, z 13, z 14, z 15, z 16, z 17, z 18, z 19, z 20, z 21, z 22, z 23, z 24, z 25, z 26, z 27, z 28, z 29, z 30, z 31, z 32, z 33, z 34, z 35, z 36, z 37, z 38, z 39, z 40, z 41, z 42, z 43, z 44, z 45, z 46, z 47, z 48, z 49], []⟩) ∧ Holding [5, 6, 7, 8, 9, 10, 11, 12, 13, 14, 15, 16, 17, 18, 19, 20, 21, 22, 23, 24, 25, 26, 27, 28, 29, 30, 31, 32, 33, 34, 35, 36, 37, 38, 39, 40, 41, 42, 43, 44, 45, 46, 47, 48, 49, 4] [some (.agg (lab a c)), some (.int .i64 q), some (.bool (q == 0)), some (.agg (lab a c)), some (.bool (q == 0)), some (.bool true), some (.bool true), some (.agg (lab a c)), some (.agg (lab b d)), some (.bool r), some (.agg (lab a c)), some (.agg (lab b d)), some (.bool r), some (.bool true), some (.bool true), some (.bool true), some (.agg (lab a c)), some (.agg (lab b d)), some (.agg (lab jl jc)), some (.agg (lab a c)), some (.agg (lab b d)), some (.agg (lab jl jc)), some (.bool true), some (.bool true), some (.bool true), some (.agg (lab a c)), some (.agg (lab b d)), some (.agg (lab ml mc)), some (.agg (lab a c)), some (.agg (lab b d)), some (.agg (lab ml mc)), some (.bool true), some (.bool true), some (.bool true), some (.agg (lab a c)), some (.agg (lab b d)), some (.int .i64 o), some (.agg (lab a c)), some (.agg (lab b d)), some (.int .i64 o), some (.bool true), some (.bool true), some (.bool true), some (.bool true), some (.bool true), some (.bool true)] ll z) ?_ (by kernel_rfl) ?_ ?_ _ _ _ _ (unlisted_none _) ?_
  · rintro ll aa wx ⟨hI, _⟩
    exact hI.out.1
  · rintro ll aa wx ⟨hI, z, ha, hz⟩ hall
    have hx := Lib.hid hI.out.2
    have e0 : z 5 = .agg (lab a c) := hz 0 _ (hall 0 (by decide)) rfl
    have e1 : z 6 = .int .i64 q := hz 1 _ (hall 1 (by decide)) rfl
    have e2 : z 7 = .bool (q == 0) := hz 2 _ (hall 2 (by decide)) rfl
    have e3 : z 8 = .agg (lab a c) := hz 3 _ (hall 3 (by decide)) rfl
    have e4 : z 9 = .bool (q == 0) := hz 4 _ (hall 4 (by decide)) rfl
    have e5 : z 10 = .bool true := hz 5 _ (hall 5 (by decide)) rfl
    have e6 : z 11 = .bool true := hz 6 _ (hall 6 (by decide)) rfl
    have e7 : z 12 = .agg (lab a c) := hz 7 _ (hall 7 (by decide)) rfl
    have e8 : z 13 = .agg (lab b d) := hz 8 _ (hall 8 (by decide)) rfl
    have e9 : z 14 = .bool r := hz 9 _ (hall 9 (by decide)) rfl
    have e10 : z 15 = .agg (lab a c) := hz 10 _ (hall 10 (by decide)) rfl
    have e11 : z 16 = .agg (lab b d) := hz 11 _ (hall 11 (by decide)) rfl
    have e12 : z 17 = .bool r := hz 12 _ (hall 12 (by decide)) rfl
    have e13 : z 18 = .bool true := hz 13 _ (hall 13 (by decide)) rfl
    have e14 : z 19 = .bool true := hz 14 _ (hall 14 (by decide)) rfl
    have e15 : z 20 = .bool true := hz 15 _ (hall 15 (by decide)) rfl
    have e16 : z 21 = .agg (lab a c) := hz 16 _ (hall 16 (by decide)) rfl
    have e17 : z 22 = .agg (lab b d) := hz 17 _ (hall 17 (by decide)) rfl
    have e18 : z 23 = .agg (lab jl jc) := hz 18 _ (hall 18 (by decide)) rfl
    have e19 : z 24 = .agg (lab a c) := hz 19 _ (hall 19 (by decide)) rfl
    have e20 : z 25 = .agg (lab b d) := hz 20 _ (hall 20 (by decide)) rfl
    have e21 : z 26 = .agg (lab jl jc) := hz 21 _ (hall 21 (by decide)) rfl
    have e22 : z 27 = .bool true := hz 22 _ (hall 22 (by decide)) rfl
    have e23 : z 28 = .bool true := hz 23 _ (hall 23 (by decide)) rfl
    have e24 : z 29 = .bool true := hz 24 _ (hall 24 (by decide)) rfl
    have e25 : z 30 = .agg (lab a c) := hz 25 _ (hall 25 (by decide)) rfl
    have e26 : z 31 = .agg (lab b d) := hz 26 _ (hall 26 (by decide)) rfl
    have e27 : z 32 = .agg (lab ml mc) := hz 27 _ (hall 27 (by decide)) rfl
    have e28 : z 33 = .agg (lab a c) := hz 28 _ (hall 28 (by decide)) rfl
    have e29 : z 34 = .agg (lab b d) := hz 29 _ (hall 29 (by decide)) rfl
    have e30 : z 35 = .agg (lab ml mc) := hz 30 _ (hall 30 (by decide)) rfl
    have e31 : z 36 = .bool true := hz 31 _ (hall 31 (by decide)) rfl
    have e32 : z 37 = .bool true := hz 32 _ (hall 32 (by decide)) rfl
    have e33 : z 38 = .bool true := hz 33 _ (hall 33 (by decide)) rfl
    have e34 : z 39 = .agg (lab a c) := hz 34 _ (hall 34 (by decide)) rfl
    have e35 : z 40 = .agg (lab b d) := hz 35 _ (hall 35 (by decide)) rfl
    have e36 : z 41 = .int .i64 o := hz 36 _ (hall 36 (by decide)) rfl
    have e37 : z 42 = .agg (lab a c) := hz 37 _ (hall 37 (by decide)) rfl
    have e38 : z 43 = .agg (lab b d) := hz 38 _ (hall 38 (by decide)) rfl
    have e39 : z 44 = .int .i64 o := hz 39 _ (hall 39 (by decide)) rfl
    have e40 : z 45 = .bool true := hz 40 _ (hall 40 (by decide)) rfl
    have e41 : z 46 = .bool true := hz 41 _ (hall 41 (by decide)) rfl
    have e42 : z 47 = .bool true := hz 42 _ (hall 42 (by decide)) rfl
    have e43 : z 48 = .bool true := hz 43 _ (hall 43 (by decide)) rfl
    have e44 : z 49 = .bool true := hz 44 _ (hall 44 (by decide)) rfl
    have e45 : z 4 = .bool true := hz 45 _ (hall 45 (by decide)) rfl
    clear hall hz hI 
    obtain rfl := ha.out
    clear ha
    clear apx
    have E := Lib.hid e45
    clear e0 e1 e2 e3 e4 e5 e6 e7 e8 e9 e10 e11 e12 e13 e14 e15 e16 e17 e18 e19 e20 e21 e22 e23 e24 e25 e26 e27 e28 e29 e30 e31 e32 e33 e34 e35 e36 e37 e38 e39 e40 e41 e42 e43 e44 e45
    dsimp only
    go_wp2
    go_ret
    exact ⟨by rw [E.out]; rfl, Low.out.trans (hx.out.mono Low.out.size)⟩
  · rintro ll aa wx i ⟨hI, z, ha, hz⟩ hi hu hw
    obtain rfl := ha.out
    have hsz := Lib.hid hI.out.1
    have hx := Lib.hid hI.out.2
    clear ha hI
    have hin : i < 46 := hi
    obtain rfl | rfl | rfl | rfl | rfl | rfl | rfl | rfl | rfl | rfl | rfl | rfl | rfl | rfl | rfl | rfl | rfl | rfl | rfl | rfl | rfl | rfl | rfl | rfl | rfl | rfl | rfl | rfl | rfl | rfl | rfl | rfl | rfl | rfl | rfl | rfl | rfl | rfl | rfl | rfl | rfl | rfl | rfl | rfl | rfl | rfl : i = 0 ∨ i = 1 ∨ i = 2 ∨ i = 3 ∨ i = 4 ∨ i = 5 ∨ i = 6 ∨ i = 7 ∨ i = 8 ∨ i = 9 ∨ i = 10 ∨ i = 11 ∨ i = 12 ∨ i = 13 ∨ i = 14 ∨ i = 15 ∨ i = 16 ∨ i = 17 ∨ i = 18 ∨ i = 19 ∨ i = 20 ∨ i = 21 ∨ i = 22 ∨ i = 23 ∨ i = 24 ∨ i = 25 ∨ i = 26 ∨ i = 27 ∨ i = 28 ∨ i = 29 ∨ i = 30 ∨ i = 31 ∨ i = 32 ∨ i = 33 ∨ i = 34 ∨ i = 35 ∨ i = 36 ∨ i = 37 ∨ i = 38 ∨ i = 39 ∨ i = 40 ∨ i = 41 ∨ i = 42 ∨ i = 43 ∨ i = 44 ∨ i = 45 := by omega
    · have cl := (hx.out.block _ (Array.getElem?_eq_some_iff.1 F2.out).1).trans F2.out
      refine wpOp_plain rfl rfl (wp_load_row 24 (.tmp 2) rfl (g) rfl 24 (lab a c) (0, 0) _ cl Tryd.underlying24 rfl infoL ?_)
      go_simp
      exact ⟨⟨by simp [hsz.out], hx.out⟩, upd z 5 (.agg (lab a c)), (by unfold Hid; simp [upd]), hz.next apx hsz.out 0 (by decide) _ (fun _ h => Option.some.inj h)⟩
    · have e0 : z 5 = .agg (lab a c) := hz 0 _ (hw 0 (by kernel_rfl)) rfl
      refine wpOp_plain rfl rfl ?_
      go_simp
      go_at_call 7
      refine (HC.out wx).mono ?_
      rintro e w' ⟨rfl, low⟩
      exact ⟨⟨by simp [hsz.out], hx.out.trans (low.mono hx.out.size)⟩, upd z 6 (.int .i64 q), (by unfold Hid; simp [upd, e0]), hz.next apx hsz.out 1 (by decide) _ (fun _ h => Option.some.inj h)⟩
    · have e1 : z 6 = .int .i64 q := hz 1 _ (hw 1 (by kernel_rfl)) rfl
      refine wpOp_plain rfl rfl ?_
      go_simp
      exact ⟨⟨by simp [hsz.out], hx.out⟩, upd z 7 (.bool (q == 0)), (by unfold Hid; simp [upd, e1]), hz.next apx hsz.out 2 (by decide) _ (fun _ h => Option.some.inj h)⟩
    · have cl := (hx.out.block _ (Array.getElem?_eq_some_iff.1 F2.out).1).trans F2.out
      refine wpOp_plain rfl rfl (wp_load_row 24 (.tmp 2) rfl (g) rfl 24 (lab a c) (0, 0) _ cl Tryd.underlying24 rfl infoL ?_)
      go_simp
      exact ⟨⟨by simp [hsz.out], hx.out⟩, upd z 8 (.agg (lab a c)), (by unfold Hid; simp [upd]), hz.next apx hsz.out 3 (by decide) _ (fun _ h => Option.some.inj h)⟩
    · have e3 : z 8 = .agg (lab a c) := hz 3 _ (hw 3 (by kernel_rfl)) rfl
      refine wpOp_plain rfl rfl ?_
      go_simp
      go_at_call 8
      refine (HM.out wx).mono ?_
      rintro e w' ⟨rfl, low⟩
      exact ⟨⟨by simp [hsz.out], hx.out.trans (low.mono hx.out.size)⟩, upd z 9 (.bool (q == 0)), (by unfold Hid; simp [upd, e3]), hz.next apx hsz.out 4 (by decide) _ (fun _ h => Option.some.inj h)⟩
    · have e2 : z 7 = .bool (q == 0) := hz 2 _ (hw 2 (by kernel_rfl)) rfl
      have e4 : z 9 = .bool (q == 0) := hz 4 _ (hw 4 (by kernel_rfl)) rfl
      refine wpOp_plain rfl rfl ?_
      go_simp
      exact ⟨⟨by simp [hsz.out], hx.out⟩, upd z 10 (.bool true), (by unfold Hid; simp [upd, e2, e4]), hz.next apx hsz.out 5 (by decide) _ (fun _ h => Option.some.inj h)⟩
    · have e5 : z 10 = .bool true := hz 5 _ (hw 5 (by kernel_rfl)) rfl
      refine wpOp_plain rfl rfl ?_
      go_simp
      exact ⟨⟨by simp [hsz.out], hx.out⟩, upd z 11 (.bool true), (by unfold Hid; simp [upd, e5]), hz.next apx hsz.out 6 (by decide) _ (fun _ h => Option.some.inj h)⟩
    · have e6 : z 11 = .bool true := hz 6 _ (hw 6 (by kernel_rfl)) rfl
      have cl := (hx.out.block _ (Array.getElem?_eq_some_iff.1 F2.out).1).trans F2.out
      refine wpOp_want rfl (by simp [Region.wanted, yielded, e6]) (wp_load_row 24 (.tmp 2) rfl (g) rfl 24 (lab a c) (0, 0) _ cl Tryd.underlying24 rfl infoL ?_)
      go_simp
      exact ⟨⟨by simp [hsz.out], hx.out⟩, upd z 12 (.agg (lab a c)), (by unfold Hid; simp [upd, e6]), hz.next apx hsz.out 7 (by decide) _ (fun _ h => Option.some.inj h)⟩
    · have e6 : z 11 = .bool true := hz 6 _ (hw 6 (by kernel_rfl)) rfl
      have cl := (hx.out.block _ (Array.getElem?_eq_some_iff.1 F3.out).1).trans F3.out
      refine wpOp_want rfl (by simp [Region.wanted, yielded, e6]) (wp_load_row 24 (.tmp 3) rfl (g2) rfl 24 (lab b d) (0, 0) _ cl Tryd.underlying24 rfl infoL ?_)
      go_simp
      exact ⟨⟨by simp [hsz.out], hx.out⟩, upd z 13 (.agg (lab b d)), (by unfold Hid; simp [upd, e6]), hz.next apx hsz.out 8 (by decide) _ (fun _ h => Option.some.inj h)⟩
    · have e6 : z 11 = .bool true := hz 6 _ (hw 6 (by kernel_rfl)) rfl
      have e7 : z 12 = .agg (lab a c) := hz 7 _ (hw 7 (by kernel_rfl)) rfl
      have e8 : z 13 = .agg (lab b d) := hz 8 _ (hw 8 (by kernel_rfl)) rfl
      refine wpOp_want rfl (by simp [Region.wanted, yielded, e6]) ?_
      go_simp
      go_at_call 9
      refine (HB.out wx).mono ?_
      rintro e w' ⟨rfl, low⟩
      exact ⟨⟨by simp [hsz.out], hx.out.trans (low.mono hx.out.size)⟩, upd z 14 (.bool r), (by unfold Hid; simp [upd, e6, e7, e8]), hz.next apx hsz.out 9 (by decide) _ (fun _ h => Option.some.inj h)⟩
    · have e6 : z 11 = .bool true := hz 6 _ (hw 6 (by kernel_rfl)) rfl
      have cl := (hx.out.block _ (Array.getElem?_eq_some_iff.1 F2.out).1).trans F2.out
      refine wpOp_want rfl (by simp [Region.wanted, yielded, e6]) (wp_load_row 24 (.tmp 2) rfl (g) rfl 24 (lab a c) (0, 0) _ cl Tryd.underlying24 rfl infoL ?_)
      go_simp
      exact ⟨⟨by simp [hsz.out], hx.out⟩, upd z 15 (.agg (lab a c)), (by unfold Hid; simp [upd, e6]), hz.next apx hsz.out 10 (by decide) _ (fun _ h => Option.some.inj h)⟩
    · have e6 : z 11 = .bool true := hz 6 _ (hw 6 (by kernel_rfl)) rfl
      have cl := (hx.out.block _ (Array.getElem?_eq_some_iff.1 F3.out).1).trans F3.out
      refine wpOp_want rfl (by simp [Region.wanted, yielded, e6]) (wp_load_row 24 (.tmp 3) rfl (g2) rfl 24 (lab b d) (0, 0) _ cl Tryd.underlying24 rfl infoL ?_)
      go_simp
      exact ⟨⟨by simp [hsz.out], hx.out⟩, upd z 16 (.agg (lab b d)), (by unfold Hid; simp [upd, e6]), hz.next apx hsz.out 11 (by decide) _ (fun _ h => Option.some.inj h)⟩
    · have e6 : z 11 = .bool true := hz 6 _ (hw 6 (by kernel_rfl)) rfl
      have e10 : z 15 = .agg (lab a c) := hz 10 _ (hw 10 (by kernel_rfl)) rfl
      have e11 : z 16 = .agg (lab b d) := hz 11 _ (hw 11 (by kernel_rfl)) rfl
      refine wpOp_want rfl (by simp [Region.wanted, yielded, e6]) ?_
      go_simp
      go_at_call 10
      refine (HRB.out wx).mono ?_
      rintro e w' ⟨rfl, low⟩
      exact ⟨⟨by simp [hsz.out], hx.out.trans (low.mono hx.out.size)⟩, upd z 17 (.bool r), (by unfold Hid; simp [upd, e6, e10, e11]), hz.next apx hsz.out 12 (by decide) _ (fun _ h => Option.some.inj h)⟩
    · have e6 : z 11 = .bool true := hz 6 _ (hw 6 (by kernel_rfl)) rfl
      have e9 : z 14 = .bool r := hz 9 _ (hw 9 (by kernel_rfl)) rfl
      have e12 : z 17 = .bool r := hz 12 _ (hw 12 (by kernel_rfl)) rfl
      refine wpOp_want rfl (by simp [Region.wanted, yielded, e6]) ?_
      go_simp
      exact ⟨⟨by simp [hsz.out], hx.out⟩, upd z 18 (.bool true), (by unfold Hid; simp [upd, e6, e9, e12]), hz.next apx hsz.out 13 (by decide) _ (fun _ h => Option.some.inj h)⟩
    · have e6 : z 11 = .bool true := hz 6 _ (hw 6 (by kernel_rfl)) rfl
      have e13 : z 18 = .bool true := hz 13 _ (hw 13 (by kernel_rfl)) rfl
      refine wpOp_plain rfl rfl ?_
      go_simp
      exact ⟨⟨by simp [hsz.out], hx.out⟩, upd z 19 (.bool true), (by unfold Hid; simp [upd, e6, e13]), hz.next apx hsz.out 14 (by decide) _ (fun _ h => Option.some.inj h)⟩
    · have e14 : z 19 = .bool true := hz 14 _ (hw 14 (by kernel_rfl)) rfl
      refine wpOp_plain rfl rfl ?_
      go_simp
      exact ⟨⟨by simp [hsz.out], hx.out⟩, upd z 20 (.bool true), (by unfold Hid; simp [upd, e14]), hz.next apx hsz.out 15 (by decide) _ (fun _ h => Option.some.inj h)⟩
    · have e15 : z 20 = .bool true := hz 15 _ (hw 15 (by kernel_rfl)) rfl
      have cl := (hx.out.block _ (Array.getElem?_eq_some_iff.1 F2.out).1).trans F2.out
      refine wpOp_want rfl (by simp [Region.wanted, yielded, e15]) (wp_load_row 24 (.tmp 2) rfl (g) rfl 24 (lab a c) (0, 0) _ cl Tryd.underlying24 rfl infoL ?_)
      go_simp
      exact ⟨⟨by simp [hsz.out], hx.out⟩, upd z 21 (.agg (lab a c)), (by unfold Hid; simp [upd, e15]), hz.next apx hsz.out 16 (by decide) _ (fun _ h => Option.some.inj h)⟩
    · have e15 : z 20 = .bool true := hz 15 _ (hw 15 (by kernel_rfl)) rfl
      have cl := (hx.out.block _ (Array.getElem?_eq_some_iff.1 F3.out).1).trans F3.out
      refine wpOp_want rfl (by simp [Region.wanted, yielded, e15]) (wp_load_row 24 (.tmp 3) rfl (g2) rfl 24 (lab b d) (0, 0) _ cl Tryd.underlying24 rfl infoL ?_)
      go_simp
      exact ⟨⟨by simp [hsz.out], hx.out⟩, upd z 22 (.agg (lab b d)), (by unfold Hid; simp [upd, e15]), hz.next apx hsz.out 17 (by decide) _ (fun _ h => Option.some.inj h)⟩
    · have e15 : z 20 = .bool true := hz 15 _ (hw 15 (by kernel_rfl)) rfl
      have e16 : z 21 = .agg (lab a c) := hz 16 _ (hw 16 (by kernel_rfl)) rfl
      have e17 : z 22 = .agg (lab b d) := hz 17 _ (hw 17 (by kernel_rfl)) rfl
      refine wpOp_want rfl (by simp [Region.wanted, yielded, e15]) ?_
      go_simp
      go_at_call 11
      refine (HJ.out wx).mono ?_
      rintro e w' ⟨rfl, low⟩
      exact ⟨⟨by simp [hsz.out], hx.out.trans (low.mono hx.out.size)⟩, upd z 23 (.agg (lab jl jc)), (by unfold Hid; simp [upd, e15, e16, e17]), hz.next apx hsz.out 18 (by decide) _ (fun _ h => Option.some.inj h)⟩
    · have e15 : z 20 = .bool true := hz 15 _ (hw 15 (by kernel_rfl)) rfl
      have cl := (hx.out.block _ (Array.getElem?_eq_some_iff.1 F2.out).1).trans F2.out
      refine wpOp_want rfl (by simp [Region.wanted, yielded, e15]) (wp_load_row 24 (.tmp 2) rfl (g) rfl 24 (lab a c) (0, 0) _ cl Tryd.underlying24 rfl infoL ?_)
      go_simp
      exact ⟨⟨by simp [hsz.out], hx.out⟩, upd z 24 (.agg (lab a c)), (by unfold Hid; simp [upd, e15]), hz.next apx hsz.out 19 (by decide) _ (fun _ h => Option.some.inj h)⟩
    · have e15 : z 20 = .bool true := hz 15 _ (hw 15 (by kernel_rfl)) rfl
      have cl := (hx.out.block _ (Array.getElem?_eq_some_iff.1 F3.out).1).trans F3.out
      refine wpOp_want rfl (by simp [Region.wanted, yielded, e15]) (wp_load_row 24 (.tmp 3) rfl (g2) rfl 24 (lab b d) (0, 0) _ cl Tryd.underlying24 rfl infoL ?_)
      go_simp
      exact ⟨⟨by simp [hsz.out], hx.out⟩, upd z 25 (.agg (lab b d)), (by unfold Hid; simp [upd, e15]), hz.next apx hsz.out 20 (by decide) _ (fun _ h => Option.some.inj h)⟩
    · have e15 : z 20 = .bool true := hz 15 _ (hw 15 (by kernel_rfl)) rfl
      have e19 : z 24 = .agg (lab a c) := hz 19 _ (hw 19 (by kernel_rfl)) rfl
      have e20 : z 25 = .agg (lab b d) := hz 20 _ (hw 20 (by kernel_rfl)) rfl
      refine wpOp_want rfl (by simp [Region.wanted, yielded, e15]) ?_
      go_simp
      go_at_call 12
      refine (HRJ.out wx).mono ?_
      rintro e w' ⟨rfl, low⟩
      exact ⟨⟨by simp [hsz.out], hx.out.trans (low.mono hx.out.size)⟩, upd z 26 (.agg (lab jl jc)), (by unfold Hid; simp [upd, e15, e19, e20]), hz.next apx hsz.out 21 (by decide) _ (fun _ h => Option.some.inj h)⟩
    · have e15 : z 20 = .bool true := hz 15 _ (hw 15 (by kernel_rfl)) rfl
      have e18 : z 23 = .agg (lab jl jc) := hz 18 _ (hw 18 (by kernel_rfl)) rfl
      have e21 : z 26 = .agg (lab jl jc) := hz 21 _ (hw 21 (by kernel_rfl)) rfl
      refine wpOp_want rfl (by simp [Region.wanted, yielded, e15]) ?_
      go_simp
      exact ⟨⟨by simp [hsz.out], hx.out⟩, upd z 27 (.bool true), (by unfold Hid; simp [upd, e15, e18, e21]), hz.next apx hsz.out 22 (by decide) _ (fun _ h => Option.some.inj h)⟩
    · have e15 : z 20 = .bool true := hz 15 _ (hw 15 (by kernel_rfl)) rfl
      have e22 : z 27 = .bool true := hz 22 _ (hw 22 (by kernel_rfl)) rfl
      refine wpOp_plain rfl rfl ?_
      go_simp
      exact ⟨⟨by simp [hsz.out], hx.out⟩, upd z 28 (.bool true), (by unfold Hid; simp [upd, e15, e22]), hz.next apx hsz.out 23 (by decide) _ (fun _ h => Option.some.inj h)⟩
    · have e23 : z 28 = .bool true := hz 23 _ (hw 23 (by kernel_rfl)) rfl
      refine wpOp_plain rfl rfl ?_
      go_simp
      exact ⟨⟨by simp [hsz.out], hx.out⟩, upd z 29 (.bool true), (by unfold Hid; simp [upd, e23]), hz.next apx hsz.out 24 (by decide) _ (fun _ h => Option.some.inj h)⟩
    · have e24 : z 29 = .bool true := hz 24 _ (hw 24 (by kernel_rfl)) rfl
      have cl := (hx.out.block _ (Array.getElem?_eq_some_iff.1 F2.out).1).trans F2.out
      refine wpOp_want rfl (by simp [Region.wanted, yielded, e24]) (wp_load_row 24 (.tmp 2) rfl (g) rfl 24 (lab a c) (0, 0) _ cl Tryd.underlying24 rfl infoL ?_)
      go_simp
      exact ⟨⟨by simp [hsz.out], hx.out⟩, upd z 30 (.agg (lab a c)), (by unfold Hid; simp [upd, e24]), hz.next apx hsz.out 25 (by decide) _ (fun _ h => Option.some.inj h)⟩
    · have e24 : z 29 = .bool true := hz 24 _ (hw 24 (by kernel_rfl)) rfl
      have cl := (hx.out.block _ (Array.getElem?_eq_some_iff.1 F3.out).1).trans F3.out
      refine wpOp_want rfl (by simp [Region.wanted, yielded, e24]) (wp_load_row 24 (.tmp 3) rfl (g2) rfl 24 (lab b d) (0, 0) _ cl Tryd.underlying24 rfl infoL ?_)
      go_simp
      exact ⟨⟨by simp [hsz.out], hx.out⟩, upd z 31 (.agg (lab b d)), (by unfold Hid; simp [upd, e24]), hz.next apx hsz.out 26 (by decide) _ (fun _ h => Option.some.inj h)⟩
    · have e24 : z 29 = .bool true := hz 24 _ (hw 24 (by kernel_rfl)) rfl
      have e25 : z 30 = .agg (lab a c) := hz 25 _ (hw 25 (by kernel_rfl)) rfl
      have e26 : z 31 = .agg (lab b d) := hz 26 _ (hw 26 (by kernel_rfl)) rfl
      refine wpOp_want rfl (by simp [Region.wanted, yielded, e24]) ?_
      go_simp
      go_at_call 13
      refine (HE.out wx).mono ?_
      rintro e w' ⟨rfl, low⟩
      exact ⟨⟨by simp [hsz.out], hx.out.trans (low.mono hx.out.size)⟩, upd z 32 (.agg (lab ml mc)), (by unfold Hid; simp [upd, e24, e25, e26]), hz.next apx hsz.out 27 (by decide) _ (fun _ h => Option.some.inj h)⟩
    · have e24 : z 29 = .bool true := hz 24 _ (hw 24 (by kernel_rfl)) rfl
      have cl := (hx.out.block _ (Array.getElem?_eq_some_iff.1 F2.out).1).trans F2.out
      refine wpOp_want rfl (by simp [Region.wanted, yielded, e24]) (wp_load_row 24 (.tmp 2) rfl (g) rfl 24 (lab a c) (0, 0) _ cl Tryd.underlying24 rfl infoL ?_)
      go_simp
      exact ⟨⟨by simp [hsz.out], hx.out⟩, upd z 33 (.agg (lab a c)), (by unfold Hid; simp [upd, e24]), hz.next apx hsz.out 28 (by decide) _ (fun _ h => Option.some.inj h)⟩
    · have e24 : z 29 = .bool true := hz 24 _ (hw 24 (by kernel_rfl)) rfl
      have cl := (hx.out.block _ (Array.getElem?_eq_some_iff.1 F3.out).1).trans F3.out
      refine wpOp_want rfl (by simp [Region.wanted, yielded, e24]) (wp_load_row 24 (.tmp 3) rfl (g2) rfl 24 (lab b d) (0, 0) _ cl Tryd.underlying24 rfl infoL ?_)
      go_simp
      exact ⟨⟨by simp [hsz.out], hx.out⟩, upd z 34 (.agg (lab b d)), (by unfold Hid; simp [upd, e24]), hz.next apx hsz.out 29 (by decide) _ (fun _ h => Option.some.inj h)⟩
    · have e24 : z 29 = .bool true := hz 24 _ (hw 24 (by kernel_rfl)) rfl
      have e28 : z 33 = .agg (lab a c) := hz 28 _ (hw 28 (by kernel_rfl)) rfl
      have e29 : z 34 = .agg (lab b d) := hz 29 _ (hw 29 (by kernel_rfl)) rfl
      refine wpOp_want rfl (by simp [Region.wanted, yielded, e24]) ?_
      go_simp
      go_at_call 14
      refine (HRE.out wx).mono ?_
      rintro e w' ⟨rfl, low⟩
      exact ⟨⟨by simp [hsz.out], hx.out.trans (low.mono hx.out.size)⟩, upd z 35 (.agg (lab ml mc)), (by unfold Hid; simp [upd, e24, e28, e29]), hz.next apx hsz.out 30 (by decide) _ (fun _ h => Option.some.inj h)⟩
    · have e24 : z 29 = .bool true := hz 24 _ (hw 24 (by kernel_rfl)) rfl
      have e27 : z 32 = .agg (lab ml mc) := hz 27 _ (hw 27 (by kernel_rfl)) rfl
      have e30 : z 35 = .agg (lab ml mc) := hz 30 _ (hw 30 (by kernel_rfl)) rfl
      refine wpOp_want rfl (by simp [Region.wanted, yielded, e24]) ?_
      go_simp
      exact ⟨⟨by simp [hsz.out], hx.out⟩, upd z 36 (.bool true), (by unfold Hid; simp [upd, e24, e27, e30]), hz.next apx hsz.out 31 (by decide) _ (fun _ h => Option.some.inj h)⟩
    · have e24 : z 29 = .bool true := hz 24 _ (hw 24 (by kernel_rfl)) rfl
      have e31 : z 36 = .bool true := hz 31 _ (hw 31 (by kernel_rfl)) rfl
      refine wpOp_plain rfl rfl ?_
      go_simp
      exact ⟨⟨by simp [hsz.out], hx.out⟩, upd z 37 (.bool true), (by unfold Hid; simp [upd, e24, e31]), hz.next apx hsz.out 32 (by decide) _ (fun _ h => Option.some.inj h)⟩
    · have e32 : z 37 = .bool true := hz 32 _ (hw 32 (by kernel_rfl)) rfl
      refine wpOp_plain rfl rfl ?_
      go_simp
      exact ⟨⟨by simp [hsz.out], hx.out⟩, upd z 38 (.bool true), (by unfold Hid; simp [upd, e32]), hz.next apx hsz.out 33 (by decide) _ (fun _ h => Option.some.inj h)⟩
    · have e33 : z 38 = .bool true := hz 33 _ (hw 33 (by kernel_rfl)) rfl
      have cl := (hx.out.block _ (Array.getElem?_eq_some_iff.1 F2.out).1).trans F2.out
      refine wpOp_want rfl (by simp [Region.wanted, yielded, e33]) (wp_load_row 24 (.tmp 2) rfl (g) rfl 24 (lab a c) (0, 0) _ cl Tryd.underlying24 rfl infoL ?_)
      go_simp
      exact ⟨⟨by simp [hsz.out], hx.out⟩, upd z 39 (.agg (lab a c)), (by unfold Hid; simp [upd, e33]), hz.next apx hsz.out 34 (by decide) _ (fun _ h => Option.some.inj h)⟩
    · have e33 : z 38 = .bool true := hz 33 _ (hw 33 (by kernel_rfl)) rfl
      have cl := (hx.out.block _ (Array.getElem?_eq_some_iff.1 F3.out).1).trans F3.out
      refine wpOp_want rfl (by simp [Region.wanted, yielded, e33]) (wp_load_row 24 (.tmp 3) rfl (g2) rfl 24 (lab b d) (0, 0) _ cl Tryd.underlying24 rfl infoL ?_)
      go_simp
      exact ⟨⟨by simp [hsz.out], hx.out⟩, upd z 40 (.agg (lab b d)), (by unfold Hid; simp [upd, e33]), hz.next apx hsz.out 35 (by decide) _ (fun _ h => Option.some.inj h)⟩
    · have e33 : z 38 = .bool true := hz 33 _ (hw 33 (by kernel_rfl)) rfl
      have e34 : z 39 = .agg (lab a c) := hz 34 _ (hw 34 (by kernel_rfl)) rfl
      have e35 : z 40 = .agg (lab b d) := hz 35 _ (hw 35 (by kernel_rfl)) rfl
      refine wpOp_want rfl (by simp [Region.wanted, yielded, e33]) ?_
      go_simp
      go_at_call 15
      refine (HO.out wx).mono ?_
      rintro e w' ⟨rfl, low⟩
      exact ⟨⟨by simp [hsz.out], hx.out.trans (low.mono hx.out.size)⟩, upd z 41 (.int .i64 o), (by unfold Hid; simp [upd, e33, e34, e35]), hz.next apx hsz.out 36 (by decide) _ (fun _ h => Option.some.inj h)⟩
    · have e33 : z 38 = .bool true := hz 33 _ (hw 33 (by kernel_rfl)) rfl
      have cl := (hx.out.block _ (Array.getElem?_eq_some_iff.1 F2.out).1).trans F2.out
      refine wpOp_want rfl (by simp [Region.wanted, yielded, e33]) (wp_load_row 24 (.tmp 2) rfl (g) rfl 24 (lab a c) (0, 0) _ cl Tryd.underlying24 rfl infoL ?_)
      go_simp
      exact ⟨⟨by simp [hsz.out], hx.out⟩, upd z 42 (.agg (lab a c)), (by unfold Hid; simp [upd, e33]), hz.next apx hsz.out 37 (by decide) _ (fun _ h => Option.some.inj h)⟩
    · have e33 : z 38 = .bool true := hz 33 _ (hw 33 (by kernel_rfl)) rfl
      have cl := (hx.out.block _ (Array.getElem?_eq_some_iff.1 F3.out).1).trans F3.out
      refine wpOp_want rfl (by simp [Region.wanted, yielded, e33]) (wp_load_row 24 (.tmp 3) rfl (g2) rfl 24 (lab b d) (0, 0) _ cl Tryd.underlying24 rfl infoL ?_)
      go_simp
      exact ⟨⟨by simp [hsz.out], hx.out⟩, upd z 43 (.agg (lab b d)), (by unfold Hid; simp [upd, e33]), hz.next apx hsz.out 38 (by decide) _ (fun _ h => Option.some.inj h)⟩
    · have e33 : z 38 = .bool true := hz 33 _ (hw 33 (by kernel_rfl)) rfl
      have e37 : z 42 = .agg (lab a c) := hz 37 _ (hw 37 (by kernel_rfl)) rfl
      have e38 : z 43 = .agg (lab b d) := hz 38 _ (hw 38 (by kernel_rfl)) rfl
      refine wpOp_want rfl (by simp [Region.wanted, yielded, e33]) ?_
      go_simp
      go_at_call 16
      refine (HRO.out wx).mono ?_
      rintro e w' ⟨rfl, low⟩
      exact ⟨⟨by simp [hsz.out], hx.out.trans (low.mono hx.out.size)⟩, upd z 44 (.int .i64 o), (by unfold Hid; simp [upd, e33, e37, e38]), hz.next apx hsz.out 39 (by decide) _ (fun _ h => Option.some.inj h)⟩
    · have e33 : z 38 = .bool true := hz 33 _ (hw 33 (by kernel_rfl)) rfl
      have e36 : z 41 = .int .i64 o := hz 36 _ (hw 36 (by kernel_rfl)) rfl
      have e39 : z 44 = .int .i64 o := hz 39 _ (hw 39 (by kernel_rfl)) rfl
      refine wpOp_want rfl (by simp [Region.wanted, yielded, e33]) ?_
      go_simp
      exact ⟨⟨by simp [hsz.out], hx.out⟩, upd z 45 (.bool true), (by unfold Hid; simp [upd, e33, e36, e39]), hz.next apx hsz.out 40 (by decide) _ (fun _ h => Option.some.inj h)⟩
    · have e33 : z 38 = .bool true := hz 33 _ (hw 33 (by kernel_rfl)) rfl
      have e40 : z 45 = .bool true := hz 40 _ (hw 40 (by kernel_rfl)) rfl
      refine wpOp_plain rfl rfl ?_
      go_simp
      exact ⟨⟨by simp [hsz.out], hx.out⟩, upd z 46 (.bool true), (by unfold Hid; simp [upd, e33, e40]), hz.next apx hsz.out 41 (by decide) _ (fun _ h => Option.some.inj h)⟩
    · have e41 : z 46 = .bool true := hz 41 _ (hw 41 (by kernel_rfl)) rfl
      refine wpOp_plain rfl rfl ?_
      go_simp
      exact ⟨⟨by simp [hsz.out], hx.out⟩, upd z 47 (.bool true), (by unfold Hid; simp [upd, e41]), hz.next apx hsz.out 42 (by decide) _ (fun _ h => Option.some.inj h)⟩
    · have e42 : z 47 = .bool true := hz 42 _ (hw 42 (by kernel_rfl)) rfl
      refine wpOp_want rfl (by simp [Region.wanted, yielded, e42]) ?_
      go_simp
      go_at_call 17
      refine (awake_any wx (HLd.out.below hx.out)).mono ?_
      rintro e w' ⟨rfl, low⟩
      exact ⟨⟨by simp [hsz.out], hx.out.trans (low.mono hx.out.size)⟩, upd z 48 (.bool true), (by unfold Hid; simp [upd, e42]), hz.next apx hsz.out 43 (by decide) _ (fun _ h => Option.some.inj h)⟩
    · have e42 : z 47 = .bool true := hz 42 _ (hw 42 (by kernel_rfl)) rfl
      have e43 : z 48 = .bool true := hz 43 _ (hw 43 (by kernel_rfl)) rfl
      refine wpOp_plain rfl rfl ?_
      go_simp
      exact ⟨⟨by simp [hsz.out], hx.out⟩, upd z 49 (.bool true), (by unfold Hid; simp [upd, e42, e43]), hz.next apx hsz.out 44 (by decide) _ (fun _ h => Option.some.inj h)⟩
    · have e44 : z 49 = .bool true := hz 44 _ (hw 44 (by kernel_rfl)) rfl
      refine wpOp_plain rfl rfl ?_
      go_simp
      exact ⟨⟨by simp [hsz.out], hx.out⟩, upd z 4 (.bool true), (by unfold Hid; simp [upd, e44]), hz.next apx hsz.out 45 (by decide) _ (fun _ h => Option.some.inj h)⟩
  · exact ⟨⟨rfl, (Below.refl _ _).drew⟩, fun xx => (#[.agg (lab a c), .agg (lab b d), .pointer (some ⟨g, 0, none⟩), .pointer (some ⟨g2, 0, none⟩), .bool false, undef, undef, undef, undef, undef, undef, undef, undef, undef, undef, undef, undef, undef, undef, undef, undef, undef, undef, undef, undef, undef, undef, undef, undef, undef, undef, undef, undef, undef, undef, undef, undef, undef, undef, undef, undef, undef, undef, undef, undef, undef, undef, undef, undef, undef] : Array Value).getD xx undef, (by rfl), Holding.start⟩
end Go.Proofs.YtdajmflpgphjiaaDoor.Lab
