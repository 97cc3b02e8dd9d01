/- DERIVED. Texts of ours, merged: XGrfNo2 XGrfRemo XGrfDropA XGrfDropB. -/
import Derived.Test.YtnjeppmpnaemlaaDoorMrk25
/- DERIVED. Before of no graph. Written by mkno.py. -/
set_option maxRecDepth 100000
namespace Go.Proofs.YtnjeppmpnaemlaaDoor.Grf
open Go.RowKit Str Go.Maps
attribute [local go_sem ↓ high] loadAtVx loadAtHs loadAtGv
set_option maxHeartbeats 8000000 in
theorem no_before {w : World} {v : Value} (h : NoG w v) (a b : Vx) : Calls Tryd.prog 18 #[v, .agg a.c, .agg b.c] w fun e w' => e = .returned (.bool false) ∧ Below w.heap.size w w' := by
  have h2 := two_new w (.cells a.c 27) (.cells b.c 27)
  have k2 : Below w.heap.size w ((w.alloc (.cells a.c 27)).alloc (.cells b.c 27)) := ((Below.refl _ _).alloc (Nat.le_refl _) _).alloc (by rw [World.size_alloc]; omega) _
  obtain ⟨W, hW⟩ : ∃ W, W = (w.alloc (.cells a.c 27)).alloc (.cells b.c 27) := ⟨_, rfl⟩
  rw [← hW] at h2 k2
  have HW := Lib.hid hW.symm
  have K2 := Lib.hid k2
  have Hg : Hid (NoG W v) := h.below k2
  obtain ⟨q4, hq4⟩ : ∃ q4, q4 = w.heap.size := ⟨_, rfl⟩
  rw [← hq4] at h2
  have Hq4 := Lib.hid hq4
  have H4 := Lib.hid h2.1
  clear h2 k2 hW h hq4
  go_enter Tryd.func18, Tryd.ntmps18
  go_upto_region 1 with (fail)
  rw [HW.out, ← Hq4.out]
  have apx : apartB [7, 8, 9, 10, 11, 12, 13, 14, 15, 16, 17, 18, 19, 20, 21, 22, 23, 24, 25, 26, 27, 28, 29, 6] = true := by decide
  refine wp_region_any (by kernel_rfl) ?_
  change wpAny _ _ _ _ _ _ _ (World.drew _)
  refine wpAny_inv (fun ll aa wx => Hid (ll.size = 24 ∧ Below W.heap.size W wx) ∧ ∃ (z : Nat → Value), Hid (aa = ⟨#[v, .agg a.c, .agg b.c, undef, .pointer (some ⟨q4, 0, none⟩), .pointer (some ⟨q4 + 1, 0, none⟩), z 6, z 7, z 8, z 9, z 10, z 11, z 12, z 13, z 14, z 15, z 16, z 17, z 18, z 19, z 20, z 21, z 22, z 23, z 24, z 25, z 26, z 27, z 28, z 29], []⟩) ∧ Holding [7, 8, 9, 10, 11, 12, 13, 14, 15, 16, 17, 18, 19, 20, 21, 22, 23, 24, 25, 26, 27, 28, 29, 6] [some (v), some (.agg a.c), some (.bool false), some (.bool false), none, none, none, some (.bool false), some (.bool false), none, none, none, none, none, none, none, none, none, none, none, none, none, some (.bool false), some (.bool false)] ll z) ?_ (by kernel_rfl) ?_ ?_ _ _ _ _ (unlisted_none _) ?_
  · rintro ll aa wx ⟨hI, _⟩
    exact hI.out.1
  · rintro ll aa wx ⟨hI, z, ha, hz⟩ hall
    have hx := Lib.hid hI.out.2
    have e0 : z 7 = v := hz 0 _ (hall 0 (by decide)) rfl
    have e1 : z 8 = .agg a.c := hz 1 _ (hall 1 (by decide)) rfl
    have e2 : z 9 = .bool false := hz 2 _ (hall 2 (by decide)) rfl
    have e3 : z 10 = .bool false := hz 3 _ (hall 3 (by decide)) rfl
    have e7 : z 14 = .bool false := hz 7 _ (hall 7 (by decide)) rfl
    have e8 : z 15 = .bool false := hz 8 _ (hall 8 (by decide)) rfl
    have e22 : z 29 = .bool false := hz 22 _ (hall 22 (by decide)) rfl
    have e23 : z 6 = .bool false := hz 23 _ (hall 23 (by decide)) rfl
    clear hall hz hI 
    obtain rfl := ha.out
    clear ha
    clear apx
    have E6 := Lib.hid e23
    have HX := Lib.hid hx.out
    clear e0 e1 e2 e3 e7 e8 e22 e23 hx
    rw [E6.out]
    go_wp2
    go_ret
    exact ⟨rfl, K2.out.trans (HX.out.mono K2.out.size)⟩
  · rintro ll aa wx i ⟨hI, z, ha, hz⟩ hi hu hw
    obtain rfl := ha.out
    have hsz := Lib.hid hI.out.1
    have hx := Lib.hid hI.out.2
    clear ha hI
    have hin : i < 24 := hi
    obtain rfl | rfl | rfl | rfl | rfl | rfl | rfl | rfl | rfl | rfl | rfl | rfl | rfl | rfl | rfl | rfl | rfl | rfl | rfl | rfl | rfl | rfl | rfl | rfl : i = 0 ∨ i = 1 ∨ i = 2 ∨ i = 3 ∨ i = 4 ∨ i = 5 ∨ i = 6 ∨ i = 7 ∨ i = 8 ∨ i = 9 ∨ i = 10 ∨ i = 11 ∨ i = 12 ∨ i = 13 ∨ i = 14 ∨ i = 15 ∨ i = 16 ∨ i = 17 ∨ i = 18 ∨ i = 19 ∨ i = 20 ∨ i = 21 ∨ i = 22 ∨ i = 23 := by omega
    · refine wpOp_plain rfl rfl ?_
      go_simp
      exact ⟨⟨by simp [hsz.out], hx.out⟩, upd z 7 (v), (by unfold Hid; simp [upd]), hz.next apx hsz.out 0 (by decide) _ (fun _ h => Option.some.inj h)⟩
    · have cl := (hx.out.block _ (Array.getElem?_eq_some_iff.1 H4.out).1).trans H4.out
      refine wpOp_plain rfl rfl (wp_load_row 27 (.tmp 4) rfl (q4) rfl 27 a.c (0, 0) _ cl Tryd.underlying27 rfl (infoVxA a) ?_)
      go_simp
      exact ⟨⟨by simp [hsz.out], hx.out⟩, upd z 8 (.agg a.c), (by unfold Hid; simp [upd]), hz.next apx hsz.out 1 (by decide) _ (fun _ h => Option.some.inj h)⟩
    · have e0 : z 7 = v := hz 0 _ (hw 0 (by kernel_rfl)) rfl
      have e1 : z 8 = .agg a.c := hz 1 _ (hw 1 (by kernel_rfl)) rfl
      have hh := no_has (Hg.out.below hx.out) a
      refine wpOp_plain rfl rfl ?_
      go_simp
      go_at_call 25
      refine hh.mono ?_
      rintro e w8 ⟨rfl, low⟩
      exact ⟨⟨by simp [hsz.out], hx.out.trans (low.mono hx.out.size)⟩, upd z 9 (.bool false), (by unfold Hid; simp [upd, e0, e1]), hz.next apx hsz.out 2 (by decide) _ (fun _ h => Option.some.inj h)⟩
    · have e2 : z 9 = .bool false := hz 2 _ (hw 2 (by kernel_rfl)) rfl
      refine wpOp_plain rfl rfl ?_
      go_simp
      exact ⟨⟨by simp [hsz.out], hx.out⟩, upd z 10 (.bool false), (by unfold Hid; simp [upd, e2]), hz.next apx hsz.out 3 (by decide) _ (fun _ h => Option.some.inj h)⟩
    · have e3 : z 10 = .bool false := hz 3 _ (hw 3 (by kernel_rfl)) rfl
      refine wpOp_skip rfl (by simp [Region.wanted, yielded, e3]) ?_
      go_simp
      exact ⟨⟨by simp [hsz.out], hx.out⟩, upd z 11 (undef), (by unfold Hid; simp [upd, e3]), hz.next apx hsz.out 4 (by decide) _ (fun _ h => by cases h)⟩
    · have e3 : z 10 = .bool false := hz 3 _ (hw 3 (by kernel_rfl)) rfl
      refine wpOp_skip rfl (by simp [Region.wanted, yielded, e3]) ?_
      go_simp
      exact ⟨⟨by simp [hsz.out], hx.out⟩, upd z 12 (undef), (by unfold Hid; simp [upd, e3]), hz.next apx hsz.out 5 (by decide) _ (fun _ h => by cases h)⟩
    · have e3 : z 10 = .bool false := hz 3 _ (hw 3 (by kernel_rfl)) rfl
      refine wpOp_skip rfl (by simp [Region.wanted, yielded, e3]) ?_
      go_simp
      exact ⟨⟨by simp [hsz.out], hx.out⟩, upd z 13 (undef), (by unfold Hid; simp [upd, e3]), hz.next apx hsz.out 6 (by decide) _ (fun _ h => by cases h)⟩
    · have e3 : z 10 = .bool false := hz 3 _ (hw 3 (by kernel_rfl)) rfl
      refine wpOp_plain rfl rfl ?_
      go_simp
      exact ⟨⟨by simp [hsz.out], hx.out⟩, upd z 14 (.bool false), (by unfold Hid; simp [upd, e3]), hz.next apx hsz.out 7 (by decide) _ (fun _ h => Option.some.inj h)⟩
    · have e7 : z 14 = .bool false := hz 7 _ (hw 7 (by kernel_rfl)) rfl
      refine wpOp_plain rfl rfl ?_
      go_simp
      exact ⟨⟨by simp [hsz.out], hx.out⟩, upd z 15 (.bool false), (by unfold Hid; simp [upd, e7]), hz.next apx hsz.out 8 (by decide) _ (fun _ h => Option.some.inj h)⟩
    · have e8 : z 15 = .bool false := hz 8 _ (hw 8 (by kernel_rfl)) rfl
      refine wpOp_skip rfl (by simp [Region.wanted, yielded, e8]) ?_
      go_simp
      exact ⟨⟨by simp [hsz.out], hx.out⟩, upd z 16 (undef), (by unfold Hid; simp [upd, e8]), hz.next apx hsz.out 9 (by decide) _ (fun _ h => by cases h)⟩
    · have e8 : z 15 = .bool false := hz 8 _ (hw 8 (by kernel_rfl)) rfl
      refine wpOp_skip rfl (by simp [Region.wanted, yielded, e8]) ?_
      go_simp
      exact ⟨⟨by simp [hsz.out], hx.out⟩, upd z 17 (undef), (by unfold Hid; simp [upd, e8]), hz.next apx hsz.out 10 (by decide) _ (fun _ h => by cases h)⟩
    · have e8 : z 15 = .bool false := hz 8 _ (hw 8 (by kernel_rfl)) rfl
      refine wpOp_skip rfl (by simp [Region.wanted, yielded, e8]) ?_
      go_simp
      exact ⟨⟨by simp [hsz.out], hx.out⟩, upd z 18 (undef), (by unfold Hid; simp [upd, e8]), hz.next apx hsz.out 11 (by decide) _ (fun _ h => by cases h)⟩
    · have e8 : z 15 = .bool false := hz 8 _ (hw 8 (by kernel_rfl)) rfl
      refine wpOp_skip rfl (by simp [Region.wanted, yielded, e8]) ?_
      go_simp
      exact ⟨⟨by simp [hsz.out], hx.out⟩, upd z 19 (undef), (by unfold Hid; simp [upd, e8]), hz.next apx hsz.out 12 (by decide) _ (fun _ h => by cases h)⟩
    · have e8 : z 15 = .bool false := hz 8 _ (hw 8 (by kernel_rfl)) rfl
      refine wpOp_skip rfl (by simp [Region.wanted, yielded, e8]) ?_
      go_simp
      exact ⟨⟨by simp [hsz.out], hx.out⟩, upd z 20 (undef), (by unfold Hid; simp [upd, e8]), hz.next apx hsz.out 13 (by decide) _ (fun _ h => by cases h)⟩
    · have e8 : z 15 = .bool false := hz 8 _ (hw 8 (by kernel_rfl)) rfl
      refine wpOp_skip rfl (by simp [Region.wanted, yielded, e8]) ?_
      go_simp
      exact ⟨⟨by simp [hsz.out], hx.out⟩, upd z 21 (undef), (by unfold Hid; simp [upd, e8]), hz.next apx hsz.out 14 (by decide) _ (fun _ h => by cases h)⟩
    · have e8 : z 15 = .bool false := hz 8 _ (hw 8 (by kernel_rfl)) rfl
      refine wpOp_skip rfl (by simp [Region.wanted, yielded, e8]) ?_
      go_simp
      exact ⟨⟨by simp [hsz.out], hx.out⟩, upd z 22 (undef), (by unfold Hid; simp [upd, e8]), hz.next apx hsz.out 15 (by decide) _ (fun _ h => by cases h)⟩
    · have e8 : z 15 = .bool false := hz 8 _ (hw 8 (by kernel_rfl)) rfl
      refine wpOp_skip rfl (by simp [Region.wanted, yielded, e8]) ?_
      go_simp
      exact ⟨⟨by simp [hsz.out], hx.out⟩, upd z 23 (undef), (by unfold Hid; simp [upd, e8]), hz.next apx hsz.out 16 (by decide) _ (fun _ h => by cases h)⟩
    · have e8 : z 15 = .bool false := hz 8 _ (hw 8 (by kernel_rfl)) rfl
      refine wpOp_skip rfl (by simp [Region.wanted, yielded, e8]) ?_
      go_simp
      exact ⟨⟨by simp [hsz.out], hx.out⟩, upd z 24 (undef), (by unfold Hid; simp [upd, e8]), hz.next apx hsz.out 17 (by decide) _ (fun _ h => by cases h)⟩
    · have e8 : z 15 = .bool false := hz 8 _ (hw 8 (by kernel_rfl)) rfl
      refine wpOp_skip rfl (by simp [Region.wanted, yielded, e8]) ?_
      go_simp
      exact ⟨⟨by simp [hsz.out], hx.out⟩, upd z 25 (undef), (by unfold Hid; simp [upd, e8]), hz.next apx hsz.out 18 (by decide) _ (fun _ h => by cases h)⟩
    · have e8 : z 15 = .bool false := hz 8 _ (hw 8 (by kernel_rfl)) rfl
      refine wpOp_skip rfl (by simp [Region.wanted, yielded, e8]) ?_
      go_simp
      exact ⟨⟨by simp [hsz.out], hx.out⟩, upd z 26 (undef), (by unfold Hid; simp [upd, e8]), hz.next apx hsz.out 19 (by decide) _ (fun _ h => by cases h)⟩
    · have e8 : z 15 = .bool false := hz 8 _ (hw 8 (by kernel_rfl)) rfl
      refine wpOp_skip rfl (by simp [Region.wanted, yielded, e8]) ?_
      go_simp
      exact ⟨⟨by simp [hsz.out], hx.out⟩, upd z 27 (undef), (by unfold Hid; simp [upd, e8]), hz.next apx hsz.out 20 (by decide) _ (fun _ h => by cases h)⟩
    · have e8 : z 15 = .bool false := hz 8 _ (hw 8 (by kernel_rfl)) rfl
      refine wpOp_skip rfl (by simp [Region.wanted, yielded, e8]) ?_
      go_simp
      exact ⟨⟨by simp [hsz.out], hx.out⟩, upd z 28 (undef), (by unfold Hid; simp [upd, e8]), hz.next apx hsz.out 21 (by decide) _ (fun _ h => by cases h)⟩
    · have e8 : z 15 = .bool false := hz 8 _ (hw 8 (by kernel_rfl)) rfl
      refine wpOp_plain rfl rfl ?_
      go_simp
      exact ⟨⟨by simp [hsz.out], hx.out⟩, upd z 29 (.bool false), (by unfold Hid; simp [upd, e8]), hz.next apx hsz.out 22 (by decide) _ (fun _ h => Option.some.inj h)⟩
    · have e22 : z 29 = .bool false := hz 22 _ (hw 22 (by kernel_rfl)) rfl
      refine wpOp_plain rfl rfl ?_
      go_simp
      exact ⟨⟨by simp [hsz.out], hx.out⟩, upd z 6 (.bool false), (by unfold Hid; simp [upd, e22]), hz.next apx hsz.out 23 (by decide) _ (fun _ h => Option.some.inj h)⟩
  · exact ⟨⟨rfl, (Below.refl _ _).drew⟩, fun xx => (#[v, .agg a.c, .agg b.c, undef, .pointer (some ⟨q4, 0, none⟩), .pointer (some ⟨q4 + 1, 0, none⟩), .bool false, undef, undef, undef, undef, undef, undef, undef, undef, undef, undef, undef, undef, undef, undef, undef, undef, undef, undef, undef, undef, undef, undef, undef] : Array Value).getD xx undef, (by rfl), Holding.start⟩
end Go.Proofs.YtnjeppmpnaemlaaDoor.Grf
/- DERIVED. Remove, but for drop. Written by mkremove.py. -/
set_option maxRecDepth 100000
namespace Go.Proofs.YtnjeppmpnaemlaaDoor.Grf
open Go.RowKit Str Go.Maps
attribute [local go_sem ↓ high] loadAtVx loadAtHs loadAtGv
theorem hs_boxH {w : World} {b : Nat} {h : List Int} (hb : w.heap[b]? = some (.cells (hsC h) 25 (0, 0))) : w.rangeAt b 0 (hsC h).toList := row_range hb [] _ [] (by simp) 0 rfl
set_option maxHeartbeats 8000000 in
theorem remove_none (S : GS) (us : Nat → Int) (gn : Vx → Int) (x : Vx) (w : World) (h : GM w S us gn) (hq : partB S x = none) :
    Calls Tryd.prog 23 #[ptr S.g, .agg (hsC x.h), .int .i64 x.n] w fun e w' => e = .returned (.int .i64 5) ∧ Below w.heap.size w w' := by
  have HQ := Lib.hid hq
  clear hq
  have hnew := Go.heap_alloc_new w (.cells (hsC x.h) 25)
  have hlow : Below w.heap.size w (w.alloc (.cells (hsC x.h) 25)) := (Below.refl _ _).alloc (Nat.le_refl _) _
  obtain ⟨w1, hw1⟩ : ∃ w1, w1 = w.alloc (.cells (hsC x.h) 25) := ⟨_, rfl⟩
  rw [← hw1] at hnew hlow
  have h1 := h.below hlow
  have hM := made_yes S.g w1 h1.g0
  have HW := Lib.hid hw1.symm
  have K2 := Lib.hid hlow
  obtain ⟨q4, hq4⟩ : ∃ q4, q4 = w.heap.size := ⟨_, rfl⟩
  rw [← hq4] at hnew
  have Hq4 := Lib.hid hq4
  have H40 := Lib.hid hnew
  have Hg0 := Lib.hid h1
  clear hnew hlow hw1 h1 h hq4
  go_enter Tryd.func23, Tryd.ntmps23
  go_upto_region 1 with (fail)
  rw [HW.out, ← Hq4.out]
  go_upto_region 3 with (go_at_call 46; refine hM.mono ?_; rintro e w2 ⟨rfl, m, rfl⟩)
  obtain ⟨W, hW⟩ : ∃ W, W = w1.drewN m := ⟨_, rfl⟩
  rw [← hW]
  have H4 : Hid (W.heap[q4]? = some (.cells (hsC x.h) 25 (0, 0))) := by show _; rw [hW]; exact H40.out
  have Hg : Hid (GM W S us gn) := by show GM _ _ _ _; rw [hW]; exact Hg0.out.drewN m
  have HG2 : Hid (W.cell? ⟨S.g, 2, none⟩ = some (.map (some S.mp))) := row_cell Hg.out.gr [ptr S.g, ptr S.fr] [.map (some S.mv), .int .i64 S.added] _ rfl 2 rfl
  have KW : Hid (Below w.heap.size w W) := by show Below _ _ _; rw [hW]; exact K2.out.trans ⟨rfl, rfl, rfl, Nat.le_refl _, fun _ _ => rfl⟩
  clear hW H40 Hg0 hM
  have apx : apartB [11, 12, 13, 14, 15, 16, 17, 18, 7] = true := by decide
  refine wp_region_any (by kernel_rfl) ?_
  change wpAny _ _ _ _ _ _ _ (World.drew _)
  refine wpAny_inv (fun ll aa wx => Hid (ll.size = 9 ∧ Below W.heap.size W wx) ∧ ∃ (z : Nat → Value), Hid (aa = ⟨#[ptr S.g, .agg (hsC x.h), .int .i64 x.n, undef, .pointer (some ⟨q4, 0, none⟩), undef, .int .i64 0, z 7, ptr S.g, .bool true, .bool false, z 11, z 12, z 13, z 14, z 15, z 16, z 17, z 18, undef, undef, undef, undef, undef, undef, undef, undef, undef, undef, undef, undef], []⟩) ∧ Holding [11, 12, 13, 14, 15, 16, 17, 18, 7] [some (ptr S.g), some (.pointer (some ⟨S.g, 0, none⟩)), some (.pointer (some ⟨S.g, 2, none⟩)), some (.map (some S.mp)), some (.agg (hsC x.h)), some (.int .i64 x.n), some (.agg x.c), some (.pointer none), some (.pointer none)] ll z) ?_ (by kernel_rfl) ?_ ?_ _ _ _ _ (unlisted_none _) ?_
  · rintro ll aa wx ⟨hI, _⟩
    exact hI.out.1
  · rintro ll aa wx ⟨hI, z, ha, hz⟩ hall
    have hx := Lib.hid hI.out.2
    have e0 : z 11 = ptr S.g := hz 0 _ (hall 0 (by decide)) rfl
    have e1 : z 12 = .pointer (some ⟨S.g, 0, none⟩) := hz 1 _ (hall 1 (by decide)) rfl
    have e2 : z 13 = .pointer (some ⟨S.g, 2, none⟩) := hz 2 _ (hall 2 (by decide)) rfl
    have e3 : z 14 = .map (some S.mp) := hz 3 _ (hall 3 (by decide)) rfl
    have e4 : z 15 = .agg (hsC x.h) := hz 4 _ (hall 4 (by decide)) rfl
    have e5 : z 16 = .int .i64 x.n := hz 5 _ (hall 5 (by decide)) rfl
    have e6 : z 17 = .agg x.c := hz 6 _ (hall 6 (by decide)) rfl
    have e7 : z 18 = .pointer none := hz 7 _ (hall 7 (by decide)) rfl
    have e8 : z 7 = .pointer none := hz 8 _ (hall 8 (by decide)) rfl
    clear hall hz hI 
    obtain rfl := ha.out
    clear ha
    clear apx
    have E7 := Lib.hid e8
    have HX := Lib.hid hx.out
    clear e0 e1 e2 e3 e4 e5 e6 e7 e8 hx
    rw [E7.out]
    go_wp2
    go_ret
    exact ⟨rfl, KW.out.trans (HX.out.mono KW.out.size)⟩
  · rintro ll aa wx i ⟨hI, z, ha, hz⟩ hi hu hw
    obtain rfl := ha.out
    have hsz := Lib.hid hI.out.1
    have hx := Lib.hid hI.out.2
    clear ha hI
    have hin : i < 9 := hi
    obtain rfl | rfl | rfl | rfl | rfl | rfl | rfl | rfl | rfl : i = 0 ∨ i = 1 ∨ i = 2 ∨ i = 3 ∨ i = 4 ∨ i = 5 ∨ i = 6 ∨ i = 7 ∨ i = 8 := by omega
    · refine wpOp_plain rfl rfl ?_
      go_simp
      exact ⟨⟨by simp [hsz.out], hx.out⟩, upd z 11 (ptr S.g), (by unfold Hid; simp [upd]), hz.next apx hsz.out 0 (by decide) _ (fun _ h => Option.some.inj h)⟩
    · have e0 : z 11 = ptr S.g := hz 0 _ (hw 0 (by kernel_rfl)) rfl
      refine wpOp_plain rfl rfl ?_
      go_simp
      exact ⟨⟨by simp [hsz.out], hx.out⟩, upd z 12 (.pointer (some ⟨S.g, 0, none⟩)), (by unfold Hid; simp [upd, e0]), hz.next apx hsz.out 1 (by decide) _ (fun _ h => Option.some.inj h)⟩
    · have e1 : z 12 = .pointer (some ⟨S.g, 0, none⟩) := hz 1 _ (hw 1 (by kernel_rfl)) rfl
      refine wpOp_plain rfl rfl ?_
      go_simp
      exact ⟨⟨by simp [hsz.out], hx.out⟩, upd z 13 (.pointer (some ⟨S.g, 2, none⟩)), (by unfold Hid; simp [upd, e1]), hz.next apx hsz.out 2 (by decide) _ (fun _ h => Option.some.inj h)⟩
    · have e2 : z 13 = .pointer (some ⟨S.g, 2, none⟩) := hz 2 _ (hw 2 (by kernel_rfl)) rfl
      have cl : wx.cell? ⟨S.g, 2, none⟩ = some (.map (some S.mp)) := (hx.out.cell (p := ⟨S.g, 2, none⟩) (World.block_lt_of_cell? _ _ HG2.out)).trans HG2.out
      refine wpOp_plain rfl rfl ?_
      go_simp
      exact ⟨⟨by simp [hsz.out], hx.out⟩, upd z 14 (.map (some S.mp)), (by unfold Hid; simp [upd, e2]), hz.next apx hsz.out 3 (by decide) _ (fun _ h => Option.some.inj h)⟩
    · have cl := loadHs_eq x.len (hs_boxH (at_below H4.out hx.out))
      refine wpOp_plain rfl rfl ?_
      go_simp
      exact ⟨⟨by simp [hsz.out], hx.out⟩, upd z 15 (.agg (hsC x.h)), (by unfold Hid; simp [upd]), hz.next apx hsz.out 4 (by decide) _ (fun _ h => Option.some.inj h)⟩
    · refine wpOp_plain rfl rfl ?_
      go_simp
      exact ⟨⟨by simp [hsz.out], hx.out⟩, upd z 16 (.int .i64 x.n), (by unfold Hid; simp [upd]), hz.next apx hsz.out 5 (by decide) _ (fun _ h => Option.some.inj h)⟩
    · have e4 : z 15 = .agg (hsC x.h) := hz 4 _ (hw 4 (by kernel_rfl)) rfl
      have e5 : z 16 = .int .i64 x.n := hz 5 _ (hw 5 (by kernel_rfl)) rfl
      refine wpOp_plain rfl rfl (wp_buildV 95 #[(0, .tmp 15), (1, .tmp 16)] rfl x.c (by simp only [List.map_toArray, List.map_cons, List.map_nil]; show Tryd.prog.built _ [(0, z 15), (1, z 16)] = _; rw [e4, e5]; exact built_name x) ?_)
      go_simp
      exact ⟨⟨by simp [hsz.out], hx.out⟩, upd z 17 (.agg x.c), (by unfold Hid; simp [upd, e4, e5]), hz.next apx hsz.out 6 (by decide) _ (fun _ h => Option.some.inj h)⟩
    · have e3 : z 14 = .map (some S.mp) := hz 3 _ (hw 3 (by kernel_rfl)) rfl
      have e6 : z 17 = .agg x.c := hz 6 _ (hw 6 (by kernel_rfl)) rfl
      have lk := (Hg.out.below hx.out).lookP x
      rw [HQ.out] at lk
      simp only [Option.map_none, Option.getD_none] at lk
      refine wpOp_plain rfl rfl ?_
      go_simp
      exact ⟨⟨by simp [hsz.out], hx.out⟩, upd z 18 (.pointer none), (by unfold Hid; simp [upd, e3, e6]), hz.next apx hsz.out 7 (by decide) _ (fun _ h => Option.some.inj h)⟩
    · have e7 : z 18 = .pointer none := hz 7 _ (hw 7 (by kernel_rfl)) rfl
      refine wpOp_plain rfl rfl ?_
      go_simp
      exact ⟨⟨by simp [hsz.out], hx.out⟩, upd z 7 (.pointer none), (by unfold Hid; simp [upd, e7]), hz.next apx hsz.out 8 (by decide) _ (fun _ h => Option.some.inj h)⟩
  · exact ⟨⟨rfl, (Below.refl _ _).drew⟩, fun xx => (#[ptr S.g, .agg (hsC x.h), .int .i64 x.n, undef, .pointer (some ⟨q4, 0, none⟩), undef, .int .i64 0, undef, ptr S.g, .bool true, .bool false, undef, undef, undef, undef, undef, undef, undef, undef, undef, undef, undef, undef, undef, undef, undef, undef, undef, undef, undef, undef] : Array Value).getD xx undef, (by rfl), Holding.start⟩
set_option maxHeartbeats 8000000 in
theorem remove_used (S : GS) (us : Nat → Int) (gn : Vx → Int) (x : Vx) (p : PA) (w : World) (h : GM w S us gn) (hq : partB S x = some p) (hus : 0 < us p.b) :
    Calls Tryd.prog 23 #[ptr S.g, .agg (hsC x.h), .int .i64 x.n] w fun e w' => e = .returned (.int .i64 10) ∧ Below w.heap.size w w' := by
  have HQ := Lib.hid hq
  have Hus := Lib.hid hus
  clear hq hus
  have hnew := Go.heap_alloc_new w (.cells (hsC x.h) 25)
  have hlow : Below w.heap.size w (w.alloc (.cells (hsC x.h) 25)) := (Below.refl _ _).alloc (Nat.le_refl _) _
  obtain ⟨w1, hw1⟩ : ∃ w1, w1 = w.alloc (.cells (hsC x.h) 25) := ⟨_, rfl⟩
  rw [← hw1] at hnew hlow
  have h1 := h.below hlow
  have hM := made_yes S.g w1 h1.g0
  have HW := Lib.hid hw1.symm
  have K2 := Lib.hid hlow
  obtain ⟨q4, hq4⟩ : ∃ q4, q4 = w.heap.size := ⟨_, rfl⟩
  rw [← hq4] at hnew
  have Hq4 := Lib.hid hq4
  have H40 := Lib.hid hnew
  have Hg0 := Lib.hid h1
  clear hnew hlow hw1 h1 h hq4
  go_enter Tryd.func23, Tryd.ntmps23
  go_upto_region 1 with (fail)
  rw [HW.out, ← Hq4.out]
  go_upto_region 3 with (go_at_call 46; refine hM.mono ?_; rintro e w2 ⟨rfl, m, rfl⟩)
  obtain ⟨W, hW⟩ : ∃ W, W = w1.drewN m := ⟨_, rfl⟩
  rw [← hW]
  have H4 : Hid (W.heap[q4]? = some (.cells (hsC x.h) 25 (0, 0))) := by show _; rw [hW]; exact H40.out
  have Hg : Hid (GM W S us gn) := by show GM _ _ _ _; rw [hW]; exact Hg0.out.drewN m
  have HG2 : Hid (W.cell? ⟨S.g, 2, none⟩ = some (.map (some S.mp))) := row_cell Hg.out.gr [ptr S.g, ptr S.fr] [.map (some S.mv), .int .i64 S.added] _ rfl 2 rfl
  have KW : Hid (Below w.heap.size w W) := by show Below _ _ _; rw [hW]; exact K2.out.trans ⟨rfl, rfl, rfl, Nat.le_refl _, fun _ _ => rfl⟩
  clear hW H40 Hg0 hM
  have apx : apartB [11, 12, 13, 14, 15, 16, 17, 18, 7] = true := by decide
  refine wp_region_any (by kernel_rfl) ?_
  change wpAny _ _ _ _ _ _ _ (World.drew _)
  refine wpAny_inv (fun ll aa wx => Hid (ll.size = 9 ∧ Below W.heap.size W wx) ∧ ∃ (z : Nat → Value), Hid (aa = ⟨#[ptr S.g, .agg (hsC x.h), .int .i64 x.n, undef, .pointer (some ⟨q4, 0, none⟩), undef, .int .i64 0, z 7, ptr S.g, .bool true, .bool false, z 11, z 12, z 13, z 14, z 15, z 16, z 17, z 18, undef, undef, undef, undef, undef, undef, undef, undef, undef, undef, undef, undef], []⟩) ∧ Holding [11, 12, 13, 14, 15, 16, 17, 18, 7] [some (ptr S.g), some (.pointer (some ⟨S.g, 0, none⟩)), some (.pointer (some ⟨S.g, 2, none⟩)), some (.map (some S.mp)), some (.agg (hsC x.h)), some (.int .i64 x.n), some (.agg x.c), some (ptr p.b), some (ptr p.b)] ll z) ?_ (by kernel_rfl) ?_ ?_ _ _ _ _ (unlisted_none _) ?_
  · rintro ll aa wx ⟨hI, _⟩
    exact hI.out.1
  · rintro ll aa wx ⟨hI, z, ha, hz⟩ hall
    have hx := Lib.hid hI.out.2
    have e0 : z 11 = ptr S.g := hz 0 _ (hall 0 (by decide)) rfl
    have e1 : z 12 = .pointer (some ⟨S.g, 0, none⟩) := hz 1 _ (hall 1 (by decide)) rfl
    have e2 : z 13 = .pointer (some ⟨S.g, 2, none⟩) := hz 2 _ (hall 2 (by decide)) rfl
    have e3 : z 14 = .map (some S.mp) := hz 3 _ (hall 3 (by decide)) rfl
    have e4 : z 15 = .agg (hsC x.h) := hz 4 _ (hall 4 (by decide)) rfl
    have e5 : z 16 = .int .i64 x.n := hz 5 _ (hall 5 (by decide)) rfl
    have e6 : z 17 = .agg x.c := hz 6 _ (hall 6 (by decide)) rfl
    have e7 : z 18 = ptr p.b := hz 7 _ (hall 7 (by decide)) rfl
    have e8 : z 7 = ptr p.b := hz 8 _ (hall 8 (by decide)) rfl
    clear hall hz hI 
    obtain rfl := ha.out
    clear ha
    clear apx
    have E7 := Lib.hid e8
    have HX := Lib.hid hx.out
    clear e0 e1 e2 e3 e4 e5 e6 e7 e8 hx
    rw [E7.out]
    have hP := (Hg.out.prt p (List.mem_of_find?_eq_some HQ.out)).us
    have hc := (HX.out.cell (World.block_lt_of_cell? _ _ hP)).trans hP
    clear hP
    obtain ⟨z, hz⟩ : ∃ z, z = us p.b := ⟨_, rfl⟩
    rw [← hz] at hc
    have hz0 : 0 < z := by rw [hz]; exact Hus.out
    clear hz
    go_wp2
    go_ret
    exact ⟨rfl, KW.out.trans (HX.out.mono KW.out.size)⟩
  · rintro ll aa wx i ⟨hI, z, ha, hz⟩ hi hu hw
    obtain rfl := ha.out
    have hsz := Lib.hid hI.out.1
    have hx := Lib.hid hI.out.2
    clear ha hI
    have hin : i < 9 := hi
    obtain rfl | rfl | rfl | rfl | rfl | rfl | rfl | rfl | rfl : i = 0 ∨ i = 1 ∨ i = 2 ∨ i = 3 ∨ i = 4 ∨ i = 5 ∨ i = 6 ∨ i = 7 ∨ i = 8 := by omega
    · refine wpOp_plain rfl rfl ?_
      go_simp
      exact ⟨⟨by simp [hsz.out], hx.out⟩, upd z 11 (ptr S.g), (by unfold Hid; simp [upd]), hz.next apx hsz.out 0 (by decide) _ (fun _ h => Option.some.inj h)⟩
    · have e0 : z 11 = ptr S.g := hz 0 _ (hw 0 (by kernel_rfl)) rfl
      refine wpOp_plain rfl rfl ?_
      go_simp
      exact ⟨⟨by simp [hsz.out], hx.out⟩, upd z 12 (.pointer (some ⟨S.g, 0, none⟩)), (by unfold Hid; simp [upd, e0]), hz.next apx hsz.out 1 (by decide) _ (fun _ h => Option.some.inj h)⟩
    · have e1 : z 12 = .pointer (some ⟨S.g, 0, none⟩) := hz 1 _ (hw 1 (by kernel_rfl)) rfl
      refine wpOp_plain rfl rfl ?_
      go_simp
      exact ⟨⟨by simp [hsz.out], hx.out⟩, upd z 13 (.pointer (some ⟨S.g, 2, none⟩)), (by unfold Hid; simp [upd, e1]), hz.next apx hsz.out 2 (by decide) _ (fun _ h => Option.some.inj h)⟩
    · have e2 : z 13 = .pointer (some ⟨S.g, 2, none⟩) := hz 2 _ (hw 2 (by kernel_rfl)) rfl
      have cl : wx.cell? ⟨S.g, 2, none⟩ = some (.map (some S.mp)) := (hx.out.cell (p := ⟨S.g, 2, none⟩) (World.block_lt_of_cell? _ _ HG2.out)).trans HG2.out
      refine wpOp_plain rfl rfl ?_
      go_simp
      exact ⟨⟨by simp [hsz.out], hx.out⟩, upd z 14 (.map (some S.mp)), (by unfold Hid; simp [upd, e2]), hz.next apx hsz.out 3 (by decide) _ (fun _ h => Option.some.inj h)⟩
    · have cl := loadHs_eq x.len (hs_boxH (at_below H4.out hx.out))
      refine wpOp_plain rfl rfl ?_
      go_simp
      exact ⟨⟨by simp [hsz.out], hx.out⟩, upd z 15 (.agg (hsC x.h)), (by unfold Hid; simp [upd]), hz.next apx hsz.out 4 (by decide) _ (fun _ h => Option.some.inj h)⟩
    · refine wpOp_plain rfl rfl ?_
      go_simp
      exact ⟨⟨by simp [hsz.out], hx.out⟩, upd z 16 (.int .i64 x.n), (by unfold Hid; simp [upd]), hz.next apx hsz.out 5 (by decide) _ (fun _ h => Option.some.inj h)⟩
    · have e4 : z 15 = .agg (hsC x.h) := hz 4 _ (hw 4 (by kernel_rfl)) rfl
      have e5 : z 16 = .int .i64 x.n := hz 5 _ (hw 5 (by kernel_rfl)) rfl
      refine wpOp_plain rfl rfl (wp_buildV 95 #[(0, .tmp 15), (1, .tmp 16)] rfl x.c (by simp only [List.map_toArray, List.map_cons, List.map_nil]; show Tryd.prog.built _ [(0, z 15), (1, z 16)] = _; rw [e4, e5]; exact built_name x) ?_)
      go_simp
      exact ⟨⟨by simp [hsz.out], hx.out⟩, upd z 17 (.agg x.c), (by unfold Hid; simp [upd, e4, e5]), hz.next apx hsz.out 6 (by decide) _ (fun _ h => Option.some.inj h)⟩
    · have e3 : z 14 = .map (some S.mp) := hz 3 _ (hw 3 (by kernel_rfl)) rfl
      have e6 : z 17 = .agg x.c := hz 6 _ (hw 6 (by kernel_rfl)) rfl
      have lk := (Hg.out.below hx.out).lookP x
      rw [HQ.out] at lk
      simp only [Option.map_some, Option.getD_some] at lk
      refine wpOp_plain rfl rfl ?_
      go_simp
      exact ⟨⟨by simp [hsz.out], hx.out⟩, upd z 18 (ptr p.b), (by unfold Hid; simp [upd, e3, e6]), hz.next apx hsz.out 7 (by decide) _ (fun _ h => Option.some.inj h)⟩
    · have e7 : z 18 = ptr p.b := hz 7 _ (hw 7 (by kernel_rfl)) rfl
      refine wpOp_plain rfl rfl ?_
      go_simp
      exact ⟨⟨by simp [hsz.out], hx.out⟩, upd z 7 (ptr p.b), (by unfold Hid; simp [upd, e7]), hz.next apx hsz.out 8 (by decide) _ (fun _ h => Option.some.inj h)⟩
  · exact ⟨⟨rfl, (Below.refl _ _).drew⟩, fun xx => (#[ptr S.g, .agg (hsC x.h), .int .i64 x.n, undef, .pointer (some ⟨q4, 0, none⟩), undef, .int .i64 0, undef, ptr S.g, .bool true, .bool false, undef, undef, undef, undef, undef, undef, undef, undef, undef, undef, undef, undef, undef, undef, undef, undef, undef, undef, undef, undef] : Array Value).getD xx undef, (by rfl), Holding.start⟩
set_option maxHeartbeats 8000000 in
theorem remove_drop (S : GS) (us : Nat → Int) (gn : Vx → Int) (x : Vx) (p : PA) (w : World) (h : GM w S us gn) (hq : partB S x = some p) (hus : us p.b = 0) (Q : World → Prop)
    (hd : ∀ u, Below w.heap.size w u → Calls Tryd.prog 47 #[ptr S.g, ptr p.b] u fun e w' => e = .returned (.tuple #[]) ∧ Q w') :
    Calls Tryd.prog 23 #[ptr S.g, .agg (hsC x.h), .int .i64 x.n] w fun e w' => e = .returned (.int .i64 0) ∧ Q w' := by
  have HQ := Lib.hid hq
  have Hus := Lib.hid hus
  have HD := Lib.hid hd
  clear hq hus hd
  have hnew := Go.heap_alloc_new w (.cells (hsC x.h) 25)
  have hlow : Below w.heap.size w (w.alloc (.cells (hsC x.h) 25)) := (Below.refl _ _).alloc (Nat.le_refl _) _
  obtain ⟨w1, hw1⟩ : ∃ w1, w1 = w.alloc (.cells (hsC x.h) 25) := ⟨_, rfl⟩
  rw [← hw1] at hnew hlow
  have h1 := h.below hlow
  have hM := made_yes S.g w1 h1.g0
  have HW := Lib.hid hw1.symm
  have K2 := Lib.hid hlow
  obtain ⟨q4, hq4⟩ : ∃ q4, q4 = w.heap.size := ⟨_, rfl⟩
  rw [← hq4] at hnew
  have Hq4 := Lib.hid hq4
  have H40 := Lib.hid hnew
  have Hg0 := Lib.hid h1
  clear hnew hlow hw1 h1 h hq4
  go_enter Tryd.func23, Tryd.ntmps23
  go_upto_region 1 with (fail)
  rw [HW.out, ← Hq4.out]
  go_upto_region 3 with (go_at_call 46; refine hM.mono ?_; rintro e w2 ⟨rfl, m, rfl⟩)
  obtain ⟨W, hW⟩ : ∃ W, W = w1.drewN m := ⟨_, rfl⟩
  rw [← hW]
  have H4 : Hid (W.heap[q4]? = some (.cells (hsC x.h) 25 (0, 0))) := by show _; rw [hW]; exact H40.out
  have Hg : Hid (GM W S us gn) := by show GM _ _ _ _; rw [hW]; exact Hg0.out.drewN m
  have HG2 : Hid (W.cell? ⟨S.g, 2, none⟩ = some (.map (some S.mp))) := row_cell Hg.out.gr [ptr S.g, ptr S.fr] [.map (some S.mv), .int .i64 S.added] _ rfl 2 rfl
  have KW : Hid (Below w.heap.size w W) := by show Below _ _ _; rw [hW]; exact K2.out.trans ⟨rfl, rfl, rfl, Nat.le_refl _, fun _ _ => rfl⟩
  clear hW H40 Hg0 hM
  have apx : apartB [11, 12, 13, 14, 15, 16, 17, 18, 7] = true := by decide
  refine wp_region_any (by kernel_rfl) ?_
  change wpAny _ _ _ _ _ _ _ (World.drew _)
  refine wpAny_inv (fun ll aa wx => Hid (ll.size = 9 ∧ Below W.heap.size W wx) ∧ ∃ (z : Nat → Value), Hid (aa = ⟨#[ptr S.g, .agg (hsC x.h), .int .i64 x.n, undef, .pointer (some ⟨q4, 0, none⟩), undef, .int .i64 0, z 7, ptr S.g, .bool true, .bool false, z 11, z 12, z 13, z 14, z 15, z 16, z 17, z 18, undef, undef, undef, undef, undef, undef, undef, undef, undef, undef, undef, undef], []⟩) ∧ Holding [11, 12, 13, 14, 15, 16, 17, 18, 7] [some (ptr S.g), some (.pointer (some ⟨S.g, 0, none⟩)), some (.pointer (some ⟨S.g, 2, none⟩)), some (.map (some S.mp)), some (.agg (hsC x.h)), some (.int .i64 x.n), some (.agg x.c), some (ptr p.b), some (ptr p.b)] ll z) ?_ (by kernel_rfl) ?_ ?_ _ _ _ _ (unlisted_none _) ?_
  · rintro ll aa wx ⟨hI, _⟩
    exact hI.out.1
  · rintro ll aa wx ⟨hI, z, ha, hz⟩ hall
    have hx := Lib.hid hI.out.2
    have e0 : z 11 = ptr S.g := hz 0 _ (hall 0 (by decide)) rfl
    have e1 : z 12 = .pointer (some ⟨S.g, 0, none⟩) := hz 1 _ (hall 1 (by decide)) rfl
    have e2 : z 13 = .pointer (some ⟨S.g, 2, none⟩) := hz 2 _ (hall 2 (by decide)) rfl
    have e3 : z 14 = .map (some S.mp) := hz 3 _ (hall 3 (by decide)) rfl
    have e4 : z 15 = .agg (hsC x.h) := hz 4 _ (hall 4 (by decide)) rfl
    have e5 : z 16 = .int .i64 x.n := hz 5 _ (hall 5 (by decide)) rfl
    have e6 : z 17 = .agg x.c := hz 6 _ (hall 6 (by decide)) rfl
    have e7 : z 18 = ptr p.b := hz 7 _ (hall 7 (by decide)) rfl
    have e8 : z 7 = ptr p.b := hz 8 _ (hall 8 (by decide)) rfl
    clear hall hz hI 
    obtain rfl := ha.out
    clear ha
    clear apx
    have E7 := Lib.hid e8
    have HX := Lib.hid hx.out
    clear e0 e1 e2 e3 e4 e5 e6 e7 e8 hx
    rw [E7.out]
    have hP := (Hg.out.prt p (List.mem_of_find?_eq_some HQ.out)).us
    have hc := (HX.out.cell (World.block_lt_of_cell? _ _ hP)).trans hP
    clear hP
    rw [Hus.out] at hc
    have hDr := HD.out _ (KW.out.trans (HX.out.mono KW.out.size))
    go_wp2_with (go_at_call 47; refine hDr.mono ?_; rintro e w9 ⟨rfl, hq⟩)
    go_ret
    exact ⟨rfl, hq⟩
  · rintro ll aa wx i ⟨hI, z, ha, hz⟩ hi hu hw
    obtain rfl := ha.out
    have hsz := Lib.hid hI.out.1
    have hx := Lib.hid hI.out.2
    clear ha hI
    have hin : i < 9 := hi
    obtain rfl | rfl | rfl | rfl | rfl | rfl | rfl | rfl | rfl : i = 0 ∨ i = 1 ∨ i = 2 ∨ i = 3 ∨ i = 4 ∨ i = 5 ∨ i = 6 ∨ i = 7 ∨ i = 8 := by omega
    · refine wpOp_plain rfl rfl ?_
      go_simp
      exact ⟨⟨by simp [hsz.out], hx.out⟩, upd z 11 (ptr S.g), (by unfold Hid; simp [upd]), hz.next apx hsz.out 0 (by decide) _ (fun _ h => Option.some.inj h)⟩
    · have e0 : z 11 = ptr S.g := hz 0 _ (hw 0 (by kernel_rfl)) rfl
      refine wpOp_plain rfl rfl ?_
      go_simp
      exact ⟨⟨by simp [hsz.out], hx.out⟩, upd z 12 (.pointer (some ⟨S.g, 0, none⟩)), (by unfold Hid; simp [upd, e0]), hz.next apx hsz.out 1 (by decide) _ (fun _ h => Option.some.inj h)⟩
    · have e1 : z 12 = .pointer (some ⟨S.g, 0, none⟩) := hz 1 _ (hw 1 (by kernel_rfl)) rfl
      refine wpOp_plain rfl rfl ?_
      go_simp
      exact ⟨⟨by simp [hsz.out], hx.out⟩, upd z 13 (.pointer (some ⟨S.g, 2, none⟩)), (by unfold Hid; simp [upd, e1]), hz.next apx hsz.out 2 (by decide) _ (fun _ h => Option.some.inj h)⟩
    · have e2 : z 13 = .pointer (some ⟨S.g, 2, none⟩) := hz 2 _ (hw 2 (by kernel_rfl)) rfl
      have cl : wx.cell? ⟨S.g, 2, none⟩ = some (.map (some S.mp)) := (hx.out.cell (p := ⟨S.g, 2, none⟩) (World.block_lt_of_cell? _ _ HG2.out)).trans HG2.out
      refine wpOp_plain rfl rfl ?_
      go_simp
      exact ⟨⟨by simp [hsz.out], hx.out⟩, upd z 14 (.map (some S.mp)), (by unfold Hid; simp [upd, e2]), hz.next apx hsz.out 3 (by decide) _ (fun _ h => Option.some.inj h)⟩
    · have cl := loadHs_eq x.len (hs_boxH (at_below H4.out hx.out))
      refine wpOp_plain rfl rfl ?_
      go_simp
      exact ⟨⟨by simp [hsz.out], hx.out⟩, upd z 15 (.agg (hsC x.h)), (by unfold Hid; simp [upd]), hz.next apx hsz.out 4 (by decide) _ (fun _ h => Option.some.inj h)⟩
    · refine wpOp_plain rfl rfl ?_
      go_simp
      exact ⟨⟨by simp [hsz.out], hx.out⟩, upd z 16 (.int .i64 x.n), (by unfold Hid; simp [upd]), hz.next apx hsz.out 5 (by decide) _ (fun _ h => Option.some.inj h)⟩
    · have e4 : z 15 = .agg (hsC x.h) := hz 4 _ (hw 4 (by kernel_rfl)) rfl
      have e5 : z 16 = .int .i64 x.n := hz 5 _ (hw 5 (by kernel_rfl)) rfl
      refine wpOp_plain rfl rfl (wp_buildV 95 #[(0, .tmp 15), (1, .tmp 16)] rfl x.c (by simp only [List.map_toArray, List.map_cons, List.map_nil]; show Tryd.prog.built _ [(0, z 15), (1, z 16)] = _; rw [e4, e5]; exact built_name x) ?_)
      go_simp
      exact ⟨⟨by simp [hsz.out], hx.out⟩, upd z 17 (.agg x.c), (by unfold Hid; simp [upd, e4, e5]), hz.next apx hsz.out 6 (by decide) _ (fun _ h => Option.some.inj h)⟩
    · have e3 : z 14 = .map (some S.mp) := hz 3 _ (hw 3 (by kernel_rfl)) rfl
      have e6 : z 17 = .agg x.c := hz 6 _ (hw 6 (by kernel_rfl)) rfl
      have lk := (Hg.out.below hx.out).lookP x
      rw [HQ.out] at lk
      simp only [Option.map_some, Option.getD_some] at lk
      refine wpOp_plain rfl rfl ?_
      go_simp
      exact ⟨⟨by simp [hsz.out], hx.out⟩, upd z 18 (ptr p.b), (by unfold Hid; simp [upd, e3, e6]), hz.next apx hsz.out 7 (by decide) _ (fun _ h => Option.some.inj h)⟩
    · have e7 : z 18 = ptr p.b := hz 7 _ (hw 7 (by kernel_rfl)) rfl
      refine wpOp_plain rfl rfl ?_
      go_simp
      exact ⟨⟨by simp [hsz.out], hx.out⟩, upd z 7 (ptr p.b), (by unfold Hid; simp [upd, e7]), hz.next apx hsz.out 8 (by decide) _ (fun _ h => Option.some.inj h)⟩
  · exact ⟨⟨rfl, (Below.refl _ _).drew⟩, fun xx => (#[ptr S.g, .agg (hsC x.h), .int .i64 x.n, undef, .pointer (some ⟨q4, 0, none⟩), undef, .int .i64 0, undef, ptr S.g, .bool true, .bool false, undef, undef, undef, undef, undef, undef, undef, undef, undef, undef, undef, undef, undef, undef, undef, undef, undef, undef, undef, undef] : Array Value).getD xx undef, (by rfl), Holding.start⟩
end Go.Proofs.YtnjeppmpnaemlaaDoor.Grf
/- DERIVED. PLAIN MATHEMATICS: a part that no other one names goes. -/
set_option maxRecDepth 100000
namespace Go.Proofs.YtnjeppmpnaemlaaDoor.Grf
open Go.RowKit Str Go.Maps
theorem verts_app : ∀ (l1 l2 : List PD) (v : Vx), v ∈ verts (l1 ++ l2) ↔ (∃ q ∈ l1, v ∈ own q) ∨ v ∈ verts l2
  | [], l2, v => by simp
  | q :: t, l2, v => by
    show v ∈ own q ++ verts (t ++ l2) ↔ _
    rw [List.mem_append, verts_app t l2 v]
    constructor
    · rintro (h | ⟨r, hr, hv⟩ | h)
      · exact .inl ⟨q, List.mem_cons_self, h⟩
      · exact .inl ⟨r, List.mem_cons_of_mem _ hr, hv⟩
      · exact .inr h
    · rintro (⟨r, hr, hv⟩ | h)
      · rcases List.mem_cons.1 hr with rfl | hr
        · exact .inl hv
        · exact .inr (.inl ⟨r, hr, hv⟩)
      · exact .inr (.inr h)
theorem verts_drop (l1 l2 : List PD) (p : PD) (v : Vx) : v ∈ verts (l1 ++ p :: l2) ↔ v ∈ own p ∨ v ∈ verts (l1 ++ l2) := by
  rw [verts_app, verts_app]
  show _ ∨ v ∈ own p ++ verts l2 ↔ _
  rw [List.mem_append]
  constructor
  · rintro (h | h | h)
    · exact .inr (.inl h)
    · exact .inl h
    · exact .inr (.inr h)
  · rintro (h | h | h)
    · exact .inr (.inl h)
    · exact .inl h
    · exact .inr (.inr h)
/-- does no part of these name one of p's lines? -/
def Free (p : PD) (l : List PD) : Prop := ∀ q ∈ l, q.up ∉ own p ∧ q.down ∉ own p ∧ ∀ v ∈ q.gone, v ∉ own p
theorem le_drop (p : PD) (l2 : List PD) : ∀ (l1 : List PD), Free p l1 → ∀ a b : Vx, a ∉ own p → b ∉ own p → (le (l1 ++ p :: l2) a b ↔ le (l1 ++ l2) a b)
  | [], _, a, b, ha, hb => by
    show le (p :: l2) a b ↔ _
    rw [le, if_neg ha, if_neg hb]
    exact Iff.rfl
  | q :: t, hf, a, b, ha, hb => by
    have hq := hf q List.mem_cons_self
    have ht : Free p t := fun r hr => hf r (List.mem_cons_of_mem _ hr)
    show le (q :: (t ++ p :: l2)) a b ↔ le (q :: (t ++ l2)) a b
    rw [le, le]
    by_cases h1 : a ∈ own q
    · rw [if_pos h1, if_pos h1]
      by_cases h2 : b ∈ own q
      · rw [if_pos h2, if_pos h2]
      · rw [if_neg h2, if_neg h2]
        exact le_drop p l2 t ht _ _ hq.2.1 hb
    · rw [if_neg h1, if_neg h1]
      by_cases h2 : b ∈ own q
      · rw [if_pos h2, if_pos h2]
        exact le_drop p l2 t ht _ _ ha hq.1
      · rw [if_neg h2, if_neg h2]
        exact le_drop p l2 t ht _ _ ha hb
theorem adm_drop (p : PD) (l2 : List PD) : ∀ (l1 : List PD), Free p l1 → Adm (l1 ++ p :: l2) → Adm (l1 ++ l2)
  | [], _, h => by
    cases h with
    | cons h f l ne => exact h
  | q :: t, hf, h => by
    have hq := hf q List.mem_cons_self
    have ht : Free p t := fun r hr => hf r (List.mem_cons_of_mem _ hr)
    have h' : Adm (q :: (t ++ p :: l2)) := h
    cases h' with
    | cons h f l ne =>
      have inn : ∀ {v : Vx}, v ∈ verts (t ++ p :: l2) → v ∉ own p → v ∈ verts (t ++ l2) := fun {v} hv hn => ((verts_drop t l2 p v).1 hv).resolve_left hn
      refine .cons (adm_drop p l2 t ht h) ⟨fun r hr => f.name r ?_, fun v hv hin => f.apart v hv ((verts_drop t l2 p v).2 (.inr hin)), f.nodup, inn f.upIn hq.1, inn f.downIn hq.2.1, fun v hv => ⟨inn (f.goneIn v hv).1 (hq.2.2 v hv), (f.goneIn v hv).2⟩, f.goneNd, f.first0, f.upNe, f.downNe⟩ ((le_drop p l2 t ht _ _ hq.1 hq.2.1).1 l) ne
      rcases List.mem_append.1 hr with hr | hr
      · exact List.mem_append.2 (.inl hr)
      · exact List.mem_append.2 (.inr (List.mem_cons_of_mem _ hr))
end Go.Proofs.YtnjeppmpnaemlaaDoor.Grf
/- DERIVED. A graph in memory from which a part went. -/
set_option maxRecDepth 100000
namespace Go.Proofs.YtnjeppmpnaemlaaDoor.Grf
open Go.RowKit Str Go.Maps
theorem find_drop (p : PA) (l2 : List PA) : ∀ (l1 : List PA) (v : Vx), v ∉ own p.d → find (l1 ++ p :: l2) v = find (l1 ++ l2) v
  | [], v, h => by show find (p :: l2) v = _; rw [find, if_neg h]; rfl
  | q :: t, v, h => by
    show find (q :: (t ++ p :: l2)) v = find (q :: (t ++ l2)) v
    rw [find, find, find_drop p l2 t v h]
theorem find_not : ∀ (l : List PA) (v : Vx), v ∉ verts (ds l) → find l v = none
  | [], v, _ => rfl
  | q :: t, v, h => by
    have h' : v ∉ own q.d ++ verts (ds t) := h
    rw [List.mem_append, not_or] at h'
    rw [find, if_neg h'.1, find_not t v h'.2]
theorem apart_drop (p : PD) (l2 : List PD) : ∀ (l1 : List PD), Adm (l1 ++ p :: l2) → ∀ v, v ∈ own p → v ∉ verts (l1 ++ l2)
  | [], h, v, hv => by
    cases h with
    | cons h f l ne => exact f.apart v hv
  | q :: t, h, v, hv => by
    have h' : Adm (q :: (t ++ p :: l2)) := h
    cases h' with
    | cons h f l ne =>
      show v ∉ own q ++ verts (t ++ l2)
      rw [List.mem_append, not_or]
      exact ⟨fun h1 => f.apart v h1 ((verts_drop t l2 p v).2 (.inl hv)), apart_drop p l2 t h v hv⟩
theorem name_drop (p : PD) (l2 : List PD) : ∀ (l1 : List PD), Adm (l1 ++ p :: l2) → ∀ q ∈ l1 ++ l2, q.nm ≠ p.nm
  | [], h, q, hq => by
    cases h with
    | cons h f l ne => exact f.name q hq
  | r :: t, h, q, hq => by
    have h' : Adm (r :: (t ++ p :: l2)) := h
    cases h' with
    | cons h f l ne =>
      rcases List.mem_cons.1 hq with rfl | hq
      · exact fun e => f.name p (by simp) e.symm
      · exact name_drop p l2 t h q hq
/-- the graph without p. -/
def dropS (S : GS) (p : PA) (l : List PA) : GS := { S with ps := l, nv := S.nv - p.d.lines.length }
theorem ds_app (l1 l2 : List PA) : ds (l1 ++ l2) = ds l1 ++ ds l2 := by simp [ds]
variable {S : GS} {p : PA} {l1 l2 : List PA}
theorem adm_split (hS : S.ps = l1 ++ p :: l2) (hok : GOk S) : Adm (ds l1 ++ p.d :: ds l2) := by
  have := hok.adm
  rw [hS, ds_app] at this
  exact this
theorem lineB_drop (hS : S.ps = l1 ++ p :: l2) (hok : GOk S) (v : Vx) : lineB (dropS S p (l1 ++ l2)) v = if v ∈ own p.d then none else lineB S v := by
  have ha := adm_split hS hok
  by_cases h : v ∈ own p.d
  · rw [if_pos h]
    have h1 := apart_drop p.d (ds l2) (ds l1) ha v h
    rw [← ds_app] at h1
    unfold lineB dropS
    simp only
    rw [find_not _ v h1]
    have hr : v ≠ root := fun e => h1 (e ▸ root_in _)
    have hf : v ≠ fin := fun e => h1 (e ▸ fin_in _)
    simp only
    rw [if_neg hr, if_neg hf]
  · rw [if_neg h]
    unfold lineB dropS
    simp only
    rw [hS, find_drop p l2 l1 v h]
theorem nm_drop (hS : S.ps = l1 ++ p :: l2) (hok : GOk S) : (fun x => ((l1 ++ l2).find? fun q => decide (q.d.nm = x)).map fun q => ptr q.b) = upd1 (fun x => (S.ps.find? fun q => decide (q.d.nm = x)).map fun q => ptr q.b) p.d.nm none := by
  have hn := name_drop p.d (ds l2) (ds l1) (adm_split hS hok)
  funext x
  by_cases e : x = p.d.nm
  · subst e
    rw [upd1_same]
    have : (l1 ++ l2).find? (fun q => decide (q.d.nm = p.d.nm)) = none := by
      rw [List.find?_eq_none]
      intro q hq
      have := hn q.d (by rw [← ds_app]; exact List.mem_map.2 ⟨q, hq, rfl⟩)
      simpa using this
    rw [this]; rfl
  · rw [upd1_ne e, hS]
    congr 1
    rw [List.find?_append, List.find?_append, List.find?_cons_of_neg (by simpa using fun h => e h.symm)]
theorem gok_drop (hS : S.ps = l1 ++ p :: l2) (hok : GOk S) (hf : Free p.d (ds l1)) : GOk (dropS S p (l1 ++ l2)) where
  adm := by
    show Adm (ds (l1 ++ l2))
    rw [ds_app]
    exact adm_drop p.d (ds l2) (ds l1) hf (adm_split hS hok)
  falls := by
    have h := hok.falls
    rw [hS] at h
    have hs : (l1 ++ l2).Sublist (l1 ++ p :: l2) := (List.Sublist.refl l1).append (List.sublist_cons_self p l2)
    exact ⟨h.1.sublist hs, fun q hq => h.2 q (hs.subset hq)⟩
  top := fun q hq => hok.top q (by
    rw [hS]
    exact ((List.Sublist.refl l1).append (List.sublist_cons_self p l2)).subset hq)
theorem gm_drop {w1 w2 : World} {us : Nat → Int} {gn : Vx → Int} (hS : S.ps = l1 ++ p :: l2) (hok : GOk S) (hf : Free p.d (ds (l1 ++ l2))) (h : GM w1 S us gn) (hc : Chg [S.mp, S.mv] w1 w2)
    (hP : MapF 95 w2 S.mp (S.ps.length - 1) (upd1 (fun x => (S.ps.find? fun q => decide (q.d.nm = x)).map fun q => ptr q.b) p.d.nm none))
    (hV : MapF 27 w2 S.mv (S.nv - p.d.lines.length) (fun v => if v ∈ own p.d then none else (lineB S v).map ptr)) : GM w2 (dropS S p (l1 ++ l2)) us gn := by
  have hC := h.core (hc.mono (T := [S.g, S.mp, S.mv]) (fun b hb => .inl (List.mem_cons_of_mem _ hb)))
  have sub : ∀ {q : PA}, q ∈ l1 ++ l2 → q ∈ S.ps := fun {q} hq => by rw [hS]; exact ((List.Sublist.refl l1).append (List.sublist_cons_self p l2)).subset hq
  have hl := lineB_drop hS hok
  exact {
    gr := hc.at h.gr (by simp only [List.mem_cons, List.mem_nil_iff, or_false, not_or]; exact ⟨h.mapP.ne h.gr, h.mapV.ne h.gr⟩)
    mapP := by
      have e : (l1 ++ l2).length = S.ps.length - 1 := by rw [hS]; simp
      show MapF _ w2 S.mp (l1 ++ l2).length _
      rw [e]
      exact (nm_drop hS hok) ▸ hP
    mapV := by
      show MapF _ w2 S.mv (S.nv - p.d.lines.length) (fun v => (lineB (dropS S p (l1 ++ l2)) v).map ptr)
      have e : (fun v => (lineB (dropS S p (l1 ++ l2)) v).map ptr) = (fun v => if v ∈ own p.d then none else (lineB S v).map ptr) := by
        funext v
        rw [hl v]
        split <;> rfl
      rw [e]; exact hV
    frm := hC.frm
    frc := hC.frc
    lr := hC.lr
    lf := hC.lf
    prt := fun q hq => hC.prt q (sub hq)
    lsl := fun q hq => hC.lsl q (sub hq)
    ln := fun q hq => hC.ln q (sub hq)
    chn := fun q hq => by
      obtain ⟨u, dn, h1, h2, h3⟩ := hC.chn q (sub hq)
      have hq2 := hf q.d (List.mem_map.2 ⟨q, hq, rfl⟩)
      exact ⟨u, dn, by rw [hl, if_neg hq2.1]; exact h1, by rw [hl, if_neg hq2.2.1]; exact h2, h3⟩
    lns := fun q hq => hC.lns q (sub hq)
    gns := fun q hq => hC.gns q (sub hq) }
end Go.Proofs.YtnjeppmpnaemlaaDoor.Grf
