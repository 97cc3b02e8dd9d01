/- DERIVED. Texts of ours, merged: XGrfBef. -/
import Derived.Test.YtnjeppmpnaemlaaDoorMrk5
import Derived.Test.YtnjeppmpnaemlaaDoorMrk3
/- DERIVED. Graph.Before. Written by mkbef.py. -/
set_option maxRecDepth 100000
namespace Go.Proofs.YtnjeppmpnaemlaaDoor.Grf
open Go.RowKit Str Go.Maps
attribute [local go_sem ↓ high] loadAtVx
noncomputable def befB (S : GS) (a b : Vx) : Bool := @decide (le (ds S.ps) a b ∧ a ≠ b) (Classical.propDecidable _)
theorem befB_iff (S : GS) (a b : Vx) : befB S a b = true ↔ (le (ds S.ps) a b ∧ a ≠ b) := by
  unfold befB
  exact @decide_eq_true_iff _ (Classical.propDecidable _)
/-- what Before answers. -/
noncomputable def BefB (S : GS) (a b : Vx) : Bool := (lineB S a).isSome && (lineB S b).isSome && befB S a b
theorem before_b (S : GS) (us : Nat → Int) (gn : Vx → Int) (hok : GOk S) (hsz : ∀ p ∈ S.ps, p.d.lines.length ≤ 100000) (a b : Vx) (la lb : Nat) (ha : lineB S a = some la) (hb : lineB S b = some lb) (w : World) (h : GM w S us gn) :
    Calls Tryd.prog 42 #[ptr la, ptr lb] w fun e w' => e = .returned (.bool (befB S a b)) ∧ Below w.heap.size w w' := by
  refine (before_any S us gn hok hsz a b la lb ha hb w h).mono ?_
  rintro e w' ⟨⟨r, rfl, hr⟩, m, rfl⟩
  refine ⟨?_, rfl, rfl, rfl, Nat.le_refl _, fun _ _ => rfl⟩
  have : r = befB S a b := by rw [Bool.eq_iff_iff, hr, befB_iff]
  rw [this]
set_option maxHeartbeats 8000000 in
theorem Before_any (S : GS) (us : Nat → Int) (gn : Vx → Int) (hok : GOk S) (hsz : ∀ p ∈ S.ps, p.d.lines.length ≤ 100000) (a b : Vx) (w : World) (h : GM w S us gn) :
    Calls Tryd.prog 18 #[ptr S.g, .agg a.c, .agg b.c] w fun e w' => e = .returned (.bool (BefB S a b)) ∧ Below w.heap.size w w' := by
  have h2 := two_new w (.cells a.c 27) (.cells b.c 27)
  have k2 : Below w.heap.size w ((w.alloc (.cells a.c 27)).alloc (.cells b.c 27)) := ((Below.refl _ _).alloc (Nat.le_refl _) _).alloc (by rw [World.size_alloc]; omega) _
  obtain ⟨W, hW⟩ : ∃ W, W = (w.alloc (.cells a.c 27)).alloc (.cells b.c 27) := ⟨_, rfl⟩
  rw [← hW] at h2 k2
  have HW := Lib.hid hW.symm
  have K2 := Lib.hid k2
  have Hg : Hid (GM W S us gn) := h.below k2
  have HOk := Lib.hid hok
  have HSz := Lib.hid hsz
  obtain ⟨q4, hq4⟩ : ∃ q4, q4 = w.heap.size := ⟨_, rfl⟩
  rw [← hq4] at h2
  have Hq4 := Lib.hid hq4
  have H4 := Lib.hid h2.1
  have H5 := Lib.hid h2.2
  have HG3 : Hid (W.cell? ⟨S.g, 3, none⟩ = some (.map (some S.mv))) := Hg.out.g3
  clear h2 k2 hW h hok hsz hq4
  cases hxa : lineB S a with
  | none =>
    have HR : Hid (BefB S a b = false) := by show _ = _; unfold BefB; rw [hxa]; rfl
    have HHa : Hid ((lineB S a).isSome = false) := by show _ = _; rw [hxa]; rfl
    rw [HR.out]
    clear hxa
    go_enter Tryd.func18, Tryd.ntmps18
    go_upto_region 1 with (fail)
    rw [HW.out, ← Hq4.out]
    have apx : apartB [7, 8, 9, 10, 11, 12, 13, 14, 15, 16, 17, 18, 19, 20, 21, 22, 23, 24, 25, 26, 27, 28, 29, 6] = true := by decide
    refine wp_region_any (by kernel_rfl) ?_
    change wpAny _ _ _ _ _ _ _ (World.drew _)
    refine wpAny_inv (fun ll aa wx => Hid (ll.size = 24 ∧ Below W.heap.size W wx) ∧ ∃ (z : Nat → Value), Hid (aa = ⟨#[ptr S.g, .agg a.c, .agg b.c, undef, .pointer (some ⟨q4, 0, none⟩), .pointer (some ⟨q4 + 1, 0, none⟩), z 6, z 7, z 8, z 9, z 10, z 11, z 12, z 13, z 14, z 15, z 16, z 17, z 18, z 19, z 20, z 21, z 22, z 23, z 24, z 25, z 26, z 27, z 28, z 29], []⟩) ∧ Holding [7, 8, 9, 10, 11, 12, 13, 14, 15, 16, 17, 18, 19, 20, 21, 22, 23, 24, 25, 26, 27, 28, 29, 6] [some (ptr S.g), some (.agg a.c), some (.bool false), some (.bool false), none, none, none, some (.bool false), some (.bool false), none, none, none, none, none, none, none, none, none, none, none, none, none, some (.bool false), some (.bool false)] ll z) ?_ (by kernel_rfl) ?_ ?_ _ _ _ _ (unlisted_none _) ?_
    · rintro ll aa wx ⟨hI, _⟩
      exact hI.out.1
    · rintro ll aa wx ⟨hI, z, ha, hz⟩ hall
      have hx := Lib.hid hI.out.2
      have e0 : z 7 = ptr S.g := hz 0 _ (hall 0 (by decide)) rfl
      have e1 : z 8 = .agg a.c := hz 1 _ (hall 1 (by decide)) rfl
      have e2 : z 9 = .bool false := hz 2 _ (hall 2 (by decide)) rfl
      have e3 : z 10 = .bool false := hz 3 _ (hall 3 (by decide)) rfl
      have e7 : z 14 = .bool false := hz 7 _ (hall 7 (by decide)) rfl
      have e8 : z 15 = .bool false := hz 8 _ (hall 8 (by decide)) rfl
      have e22 : z 29 = .bool false := hz 22 _ (hall 22 (by decide)) rfl
      have e23 : z 6 = .bool false := hz 23 _ (hall 23 (by decide)) rfl
      clear hall hz hI 
      obtain rfl := ha.out
      clear ha
      clear apx
      have E6 := Lib.hid e23
      have HX := Lib.hid hx.out
      clear e0 e1 e2 e3 e7 e8 e22 e23 hx
      rw [E6.out]
      go_wp2
      go_ret
      exact ⟨rfl, K2.out.trans (HX.out.mono K2.out.size)⟩
    · rintro ll aa wx i ⟨hI, z, ha, hz⟩ hi hu hw
      obtain rfl := ha.out
      have hsz := Lib.hid hI.out.1
      have hx := Lib.hid hI.out.2
      clear ha hI
      have hin : i < 24 := hi
      obtain rfl | rfl | rfl | rfl | rfl | rfl | rfl | rfl | rfl | rfl | rfl | rfl | rfl | rfl | rfl | rfl | rfl | rfl | rfl | rfl | rfl | rfl | rfl | rfl : i = 0 ∨ i = 1 ∨ i = 2 ∨ i = 3 ∨ i = 4 ∨ i = 5 ∨ i = 6 ∨ i = 7 ∨ i = 8 ∨ i = 9 ∨ i = 10 ∨ i = 11 ∨ i = 12 ∨ i = 13 ∨ i = 14 ∨ i = 15 ∨ i = 16 ∨ i = 17 ∨ i = 18 ∨ i = 19 ∨ i = 20 ∨ i = 21 ∨ i = 22 ∨ i = 23 := by omega
      · refine wpOp_plain rfl rfl ?_
        go_simp
        exact ⟨⟨by simp [hsz.out], hx.out⟩, upd z 7 (ptr S.g), (by unfold Hid; simp [upd]), hz.next apx hsz.out 0 (by decide) _ (fun _ h => Option.some.inj h)⟩
      · have cl := (hx.out.block _ (Array.getElem?_eq_some_iff.1 H4.out).1).trans H4.out
        refine wpOp_plain rfl rfl (wp_load_row 27 (.tmp 4) rfl (q4) rfl 27 a.c (0, 0) _ cl Tryd.underlying27 rfl (infoVxA a) ?_)
        go_simp
        exact ⟨⟨by simp [hsz.out], hx.out⟩, upd z 8 (.agg a.c), (by unfold Hid; simp [upd]), hz.next apx hsz.out 1 (by decide) _ (fun _ h => Option.some.inj h)⟩
      · have e0 : z 7 = ptr S.g := hz 0 _ (hw 0 (by kernel_rfl)) rfl
        have e1 : z 8 = .agg a.c := hz 1 _ (hw 1 (by kernel_rfl)) rfl
        have hh := has_any S us gn a wx (Hg.out.below hx.out)
        rw [HHa.out] at hh
        refine wpOp_plain rfl rfl ?_
        go_simp
        go_at_call 25
        refine hh.mono ?_
        rintro e w8 ⟨rfl, low⟩
        exact ⟨⟨by simp [hsz.out], hx.out.trans (low.mono hx.out.size)⟩, upd z 9 (.bool false), (by unfold Hid; simp [upd, e0, e1]), hz.next apx hsz.out 2 (by decide) _ (fun _ h => Option.some.inj h)⟩
      · have e2 : z 9 = .bool false := hz 2 _ (hw 2 (by kernel_rfl)) rfl
        refine wpOp_plain rfl rfl ?_
        go_simp
        exact ⟨⟨by simp [hsz.out], hx.out⟩, upd z 10 (.bool false), (by unfold Hid; simp [upd, e2]), hz.next apx hsz.out 3 (by decide) _ (fun _ h => Option.some.inj h)⟩
      · have e3 : z 10 = .bool false := hz 3 _ (hw 3 (by kernel_rfl)) rfl
        refine wpOp_skip rfl (by simp [Region.wanted, yielded, e3]) ?_
        go_simp
        exact ⟨⟨by simp [hsz.out], hx.out⟩, upd z 11 (undef), (by unfold Hid; simp [upd, e3]), hz.next apx hsz.out 4 (by decide) _ (fun _ h => by cases h)⟩
      · have e3 : z 10 = .bool false := hz 3 _ (hw 3 (by kernel_rfl)) rfl
        refine wpOp_skip rfl (by simp [Region.wanted, yielded, e3]) ?_
        go_simp
        exact ⟨⟨by simp [hsz.out], hx.out⟩, upd z 12 (undef), (by unfold Hid; simp [upd, e3]), hz.next apx hsz.out 5 (by decide) _ (fun _ h => by cases h)⟩
      · have e3 : z 10 = .bool false := hz 3 _ (hw 3 (by kernel_rfl)) rfl
        refine wpOp_skip rfl (by simp [Region.wanted, yielded, e3]) ?_
        go_simp
        exact ⟨⟨by simp [hsz.out], hx.out⟩, upd z 13 (undef), (by unfold Hid; simp [upd, e3]), hz.next apx hsz.out 6 (by decide) _ (fun _ h => by cases h)⟩
      · have e3 : z 10 = .bool false := hz 3 _ (hw 3 (by kernel_rfl)) rfl
        refine wpOp_plain rfl rfl ?_
        go_simp
        exact ⟨⟨by simp [hsz.out], hx.out⟩, upd z 14 (.bool false), (by unfold Hid; simp [upd, e3]), hz.next apx hsz.out 7 (by decide) _ (fun _ h => Option.some.inj h)⟩
      · have e7 : z 14 = .bool false := hz 7 _ (hw 7 (by kernel_rfl)) rfl
        refine wpOp_plain rfl rfl ?_
        go_simp
        exact ⟨⟨by simp [hsz.out], hx.out⟩, upd z 15 (.bool false), (by unfold Hid; simp [upd, e7]), hz.next apx hsz.out 8 (by decide) _ (fun _ h => Option.some.inj h)⟩
      · have e8 : z 15 = .bool false := hz 8 _ (hw 8 (by kernel_rfl)) rfl
        refine wpOp_skip rfl (by simp [Region.wanted, yielded, e8]) ?_
        go_simp
        exact ⟨⟨by simp [hsz.out], hx.out⟩, upd z 16 (undef), (by unfold Hid; simp [upd, e8]), hz.next apx hsz.out 9 (by decide) _ (fun _ h => by cases h)⟩
      · have e8 : z 15 = .bool false := hz 8 _ (hw 8 (by kernel_rfl)) rfl
        refine wpOp_skip rfl (by simp [Region.wanted, yielded, e8]) ?_
        go_simp
        exact ⟨⟨by simp [hsz.out], hx.out⟩, upd z 17 (undef), (by unfold Hid; simp [upd, e8]), hz.next apx hsz.out 10 (by decide) _ (fun _ h => by cases h)⟩
      · have e8 : z 15 = .bool false := hz 8 _ (hw 8 (by kernel_rfl)) rfl
        refine wpOp_skip rfl (by simp [Region.wanted, yielded, e8]) ?_
        go_simp
        exact ⟨⟨by simp [hsz.out], hx.out⟩, upd z 18 (undef), (by unfold Hid; simp [upd, e8]), hz.next apx hsz.out 11 (by decide) _ (fun _ h => by cases h)⟩
      · have e8 : z 15 = .bool false := hz 8 _ (hw 8 (by kernel_rfl)) rfl
        refine wpOp_skip rfl (by simp [Region.wanted, yielded, e8]) ?_
        go_simp
        exact ⟨⟨by simp [hsz.out], hx.out⟩, upd z 19 (undef), (by unfold Hid; simp [upd, e8]), hz.next apx hsz.out 12 (by decide) _ (fun _ h => by cases h)⟩
      · have e8 : z 15 = .bool false := hz 8 _ (hw 8 (by kernel_rfl)) rfl
        refine wpOp_skip rfl (by simp [Region.wanted, yielded, e8]) ?_
        go_simp
        exact ⟨⟨by simp [hsz.out], hx.out⟩, upd z 20 (undef), (by unfold Hid; simp [upd, e8]), hz.next apx hsz.out 13 (by decide) _ (fun _ h => by cases h)⟩
      · have e8 : z 15 = .bool false := hz 8 _ (hw 8 (by kernel_rfl)) rfl
        refine wpOp_skip rfl (by simp [Region.wanted, yielded, e8]) ?_
        go_simp
        exact ⟨⟨by simp [hsz.out], hx.out⟩, upd z 21 (undef), (by unfold Hid; simp [upd, e8]), hz.next apx hsz.out 14 (by decide) _ (fun _ h => by cases h)⟩
      · have e8 : z 15 = .bool false := hz 8 _ (hw 8 (by kernel_rfl)) rfl
        refine wpOp_skip rfl (by simp [Region.wanted, yielded, e8]) ?_
        go_simp
        exact ⟨⟨by simp [hsz.out], hx.out⟩, upd z 22 (undef), (by unfold Hid; simp [upd, e8]), hz.next apx hsz.out 15 (by decide) _ (fun _ h => by cases h)⟩
      · have e8 : z 15 = .bool false := hz 8 _ (hw 8 (by kernel_rfl)) rfl
        refine wpOp_skip rfl (by simp [Region.wanted, yielded, e8]) ?_
        go_simp
        exact ⟨⟨by simp [hsz.out], hx.out⟩, upd z 23 (undef), (by unfold Hid; simp [upd, e8]), hz.next apx hsz.out 16 (by decide) _ (fun _ h => by cases h)⟩
      · have e8 : z 15 = .bool false := hz 8 _ (hw 8 (by kernel_rfl)) rfl
        refine wpOp_skip rfl (by simp [Region.wanted, yielded, e8]) ?_
        go_simp
        exact ⟨⟨by simp [hsz.out], hx.out⟩, upd z 24 (undef), (by unfold Hid; simp [upd, e8]), hz.next apx hsz.out 17 (by decide) _ (fun _ h => by cases h)⟩
      · have e8 : z 15 = .bool false := hz 8 _ (hw 8 (by kernel_rfl)) rfl
        refine wpOp_skip rfl (by simp [Region.wanted, yielded, e8]) ?_
        go_simp
        exact ⟨⟨by simp [hsz.out], hx.out⟩, upd z 25 (undef), (by unfold Hid; simp [upd, e8]), hz.next apx hsz.out 18 (by decide) _ (fun _ h => by cases h)⟩
      · have e8 : z 15 = .bool false := hz 8 _ (hw 8 (by kernel_rfl)) rfl
        refine wpOp_skip rfl (by simp [Region.wanted, yielded, e8]) ?_
        go_simp
        exact ⟨⟨by simp [hsz.out], hx.out⟩, upd z 26 (undef), (by unfold Hid; simp [upd, e8]), hz.next apx hsz.out 19 (by decide) _ (fun _ h => by cases h)⟩
      · have e8 : z 15 = .bool false := hz 8 _ (hw 8 (by kernel_rfl)) rfl
        refine wpOp_skip rfl (by simp [Region.wanted, yielded, e8]) ?_
        go_simp
        exact ⟨⟨by simp [hsz.out], hx.out⟩, upd z 27 (undef), (by unfold Hid; simp [upd, e8]), hz.next apx hsz.out 20 (by decide) _ (fun _ h => by cases h)⟩
      · have e8 : z 15 = .bool false := hz 8 _ (hw 8 (by kernel_rfl)) rfl
        refine wpOp_skip rfl (by simp [Region.wanted, yielded, e8]) ?_
        go_simp
        exact ⟨⟨by simp [hsz.out], hx.out⟩, upd z 28 (undef), (by unfold Hid; simp [upd, e8]), hz.next apx hsz.out 21 (by decide) _ (fun _ h => by cases h)⟩
      · have e8 : z 15 = .bool false := hz 8 _ (hw 8 (by kernel_rfl)) rfl
        refine wpOp_plain rfl rfl ?_
        go_simp
        exact ⟨⟨by simp [hsz.out], hx.out⟩, upd z 29 (.bool false), (by unfold Hid; simp [upd, e8]), hz.next apx hsz.out 22 (by decide) _ (fun _ h => Option.some.inj h)⟩
      · have e22 : z 29 = .bool false := hz 22 _ (hw 22 (by kernel_rfl)) rfl
        refine wpOp_plain rfl rfl ?_
        go_simp
        exact ⟨⟨by simp [hsz.out], hx.out⟩, upd z 6 (.bool false), (by unfold Hid; simp [upd, e22]), hz.next apx hsz.out 23 (by decide) _ (fun _ h => Option.some.inj h)⟩
    · exact ⟨⟨rfl, (Below.refl _ _).drew⟩, fun xx => (#[ptr S.g, .agg a.c, .agg b.c, undef, .pointer (some ⟨q4, 0, none⟩), .pointer (some ⟨q4 + 1, 0, none⟩), .bool false, undef, undef, undef, undef, undef, undef, undef, undef, undef, undef, undef, undef, undef, undef, undef, undef, undef, undef, undef, undef, undef, undef, undef] : Array Value).getD xx undef, (by rfl), Holding.start⟩
  | some la =>
    have HHa : Hid ((lineB S a).isSome = true) := by show _ = _; rw [hxa]; rfl
    have HLa := Lib.hid hxa
    cases hxb : lineB S b with
    | none =>
      have HR : Hid (BefB S a b = false) := by show _ = _; unfold BefB; rw [hxb]; simp
      have HHb : Hid ((lineB S b).isSome = false) := by show _ = _; rw [hxb]; rfl
      rw [HR.out]
      clear hxa hxb
      go_enter Tryd.func18, Tryd.ntmps18
      go_upto_region 1 with (fail)
      rw [HW.out, ← Hq4.out]
      have apx : apartB [7, 8, 9, 10, 11, 12, 13, 14, 15, 16, 17, 18, 19, 20, 21, 22, 23, 24, 25, 26, 27, 28, 29, 6] = true := by decide
      refine wp_region_any (by kernel_rfl) ?_
      change wpAny _ _ _ _ _ _ _ (World.drew _)
      refine wpAny_inv (fun ll aa wx => Hid (ll.size = 24 ∧ Below W.heap.size W wx) ∧ ∃ (z : Nat → Value), Hid (aa = ⟨#[ptr S.g, .agg a.c, .agg b.c, undef, .pointer (some ⟨q4, 0, none⟩), .pointer (some ⟨q4 + 1, 0, none⟩), z 6, z 7, z 8, z 9, z 10, z 11, z 12, z 13, z 14, z 15, z 16, z 17, z 18, z 19, z 20, z 21, z 22, z 23, z 24, z 25, z 26, z 27, z 28, z 29], []⟩) ∧ Holding [7, 8, 9, 10, 11, 12, 13, 14, 15, 16, 17, 18, 19, 20, 21, 22, 23, 24, 25, 26, 27, 28, 29, 6] [some (ptr S.g), some (.agg a.c), some (.bool true), some (.bool true), some (ptr S.g), some (.agg b.c), some (.bool false), some (.bool false), some (.bool false), none, none, none, none, none, none, none, none, none, none, none, none, none, some (.bool false), some (.bool false)] ll z) ?_ (by kernel_rfl) ?_ ?_ _ _ _ _ (unlisted_none _) ?_
      · rintro ll aa wx ⟨hI, _⟩
        exact hI.out.1
      · rintro ll aa wx ⟨hI, z, ha, hz⟩ hall
        have hx := Lib.hid hI.out.2
        have e0 : z 7 = ptr S.g := hz 0 _ (hall 0 (by decide)) rfl
        have e1 : z 8 = .agg a.c := hz 1 _ (hall 1 (by decide)) rfl
        have e2 : z 9 = .bool true := hz 2 _ (hall 2 (by decide)) rfl
        have e3 : z 10 = .bool true := hz 3 _ (hall 3 (by decide)) rfl
        have e4 : z 11 = ptr S.g := hz 4 _ (hall 4 (by decide)) rfl
        have e5 : z 12 = .agg b.c := hz 5 _ (hall 5 (by decide)) rfl
        have e6 : z 13 = .bool false := hz 6 _ (hall 6 (by decide)) rfl
        have e7 : z 14 = .bool false := hz 7 _ (hall 7 (by decide)) rfl
        have e8 : z 15 = .bool false := hz 8 _ (hall 8 (by decide)) rfl
        have e22 : z 29 = .bool false := hz 22 _ (hall 22 (by decide)) rfl
        have e23 : z 6 = .bool false := hz 23 _ (hall 23 (by decide)) rfl
        clear hall hz hI 
        obtain rfl := ha.out
        clear ha
        clear apx
        have E6 := Lib.hid e23
        have HX := Lib.hid hx.out
        clear e0 e1 e2 e3 e4 e5 e6 e7 e8 e22 e23 hx
        rw [E6.out]
        go_wp2
        go_ret
        exact ⟨rfl, K2.out.trans (HX.out.mono K2.out.size)⟩
      · rintro ll aa wx i ⟨hI, z, ha, hz⟩ hi hu hw
        obtain rfl := ha.out
        have hsz := Lib.hid hI.out.1
        have hx := Lib.hid hI.out.2
        clear ha hI
        have hin : i < 24 := hi
        obtain rfl | rfl | rfl | rfl | rfl | rfl | rfl | rfl | rfl | rfl | rfl | rfl | rfl | rfl | rfl | rfl | rfl | rfl | rfl | rfl | rfl | rfl | rfl | rfl : i = 0 ∨ i = 1 ∨ i = 2 ∨ i = 3 ∨ i = 4 ∨ i = 5 ∨ i = 6 ∨ i = 7 ∨ i = 8 ∨ i = 9 ∨ i = 10 ∨ i = 11 ∨ i = 12 ∨ i = 13 ∨ i = 14 ∨ i = 15 ∨ i = 16 ∨ i = 17 ∨ i = 18 ∨ i = 19 ∨ i = 20 ∨ i = 21 ∨ i = 22 ∨ i = 23 := by omega
        · refine wpOp_plain rfl rfl ?_
          go_simp
          exact ⟨⟨by simp [hsz.out], hx.out⟩, upd z 7 (ptr S.g), (by unfold Hid; simp [upd]), hz.next apx hsz.out 0 (by decide) _ (fun _ h => Option.some.inj h)⟩
        · have cl := (hx.out.block _ (Array.getElem?_eq_some_iff.1 H4.out).1).trans H4.out
          refine wpOp_plain rfl rfl (wp_load_row 27 (.tmp 4) rfl (q4) rfl 27 a.c (0, 0) _ cl Tryd.underlying27 rfl (infoVxA a) ?_)
          go_simp
          exact ⟨⟨by simp [hsz.out], hx.out⟩, upd z 8 (.agg a.c), (by unfold Hid; simp [upd]), hz.next apx hsz.out 1 (by decide) _ (fun _ h => Option.some.inj h)⟩
        · have e0 : z 7 = ptr S.g := hz 0 _ (hw 0 (by kernel_rfl)) rfl
          have e1 : z 8 = .agg a.c := hz 1 _ (hw 1 (by kernel_rfl)) rfl
          have hh := has_any S us gn a wx (Hg.out.below hx.out)
          rw [HHa.out] at hh
          refine wpOp_plain rfl rfl ?_
          go_simp
          go_at_call 25
          refine hh.mono ?_
          rintro e w8 ⟨rfl, low⟩
          exact ⟨⟨by simp [hsz.out], hx.out.trans (low.mono hx.out.size)⟩, upd z 9 (.bool true), (by unfold Hid; simp [upd, e0, e1]), hz.next apx hsz.out 2 (by decide) _ (fun _ h => Option.some.inj h)⟩
        · have e2 : z 9 = .bool true := hz 2 _ (hw 2 (by kernel_rfl)) rfl
          refine wpOp_plain rfl rfl ?_
          go_simp
          exact ⟨⟨by simp [hsz.out], hx.out⟩, upd z 10 (.bool true), (by unfold Hid; simp [upd, e2]), hz.next apx hsz.out 3 (by decide) _ (fun _ h => Option.some.inj h)⟩
        · have e3 : z 10 = .bool true := hz 3 _ (hw 3 (by kernel_rfl)) rfl
          refine wpOp_want rfl (by simp [Region.wanted, yielded, e3]) ?_
          go_simp
          exact ⟨⟨by simp [hsz.out], hx.out⟩, upd z 11 (ptr S.g), (by unfold Hid; simp [upd, e3]), hz.next apx hsz.out 4 (by decide) _ (fun _ h => Option.some.inj h)⟩
        · have e3 : z 10 = .bool true := hz 3 _ (hw 3 (by kernel_rfl)) rfl
          have cl := (hx.out.block _ (Array.getElem?_eq_some_iff.1 H5.out).1).trans H5.out
          refine wpOp_want rfl (by simp [Region.wanted, yielded, e3]) (wp_load_row 27 (.tmp 5) rfl ((q4 + 1)) rfl 27 b.c (0, 0) _ cl Tryd.underlying27 rfl (infoVxA b) ?_)
          go_simp
          exact ⟨⟨by simp [hsz.out], hx.out⟩, upd z 12 (.agg b.c), (by unfold Hid; simp [upd, e3]), hz.next apx hsz.out 5 (by decide) _ (fun _ h => Option.some.inj h)⟩
        · have e3 : z 10 = .bool true := hz 3 _ (hw 3 (by kernel_rfl)) rfl
          have e4 : z 11 = ptr S.g := hz 4 _ (hw 4 (by kernel_rfl)) rfl
          have e5 : z 12 = .agg b.c := hz 5 _ (hw 5 (by kernel_rfl)) rfl
          have hh := has_any S us gn b wx (Hg.out.below hx.out)
          rw [HHb.out] at hh
          refine wpOp_want rfl (by simp [Region.wanted, yielded, e3]) ?_
          go_simp
          go_at_call 25
          refine hh.mono ?_
          rintro e w8 ⟨rfl, low⟩
          exact ⟨⟨by simp [hsz.out], hx.out.trans (low.mono hx.out.size)⟩, upd z 13 (.bool false), (by unfold Hid; simp [upd, e3, e4, e5]), hz.next apx hsz.out 6 (by decide) _ (fun _ h => Option.some.inj h)⟩
        · have e3 : z 10 = .bool true := hz 3 _ (hw 3 (by kernel_rfl)) rfl
          have e6 : z 13 = .bool false := hz 6 _ (hw 6 (by kernel_rfl)) rfl
          refine wpOp_plain rfl rfl ?_
          go_simp
          exact ⟨⟨by simp [hsz.out], hx.out⟩, upd z 14 (.bool false), (by unfold Hid; simp [upd, e3, e6]), hz.next apx hsz.out 7 (by decide) _ (fun _ h => Option.some.inj h)⟩
        · have e7 : z 14 = .bool false := hz 7 _ (hw 7 (by kernel_rfl)) rfl
          refine wpOp_plain rfl rfl ?_
          go_simp
          exact ⟨⟨by simp [hsz.out], hx.out⟩, upd z 15 (.bool false), (by unfold Hid; simp [upd, e7]), hz.next apx hsz.out 8 (by decide) _ (fun _ h => Option.some.inj h)⟩
        · have e8 : z 15 = .bool false := hz 8 _ (hw 8 (by kernel_rfl)) rfl
          refine wpOp_skip rfl (by simp [Region.wanted, yielded, e8]) ?_
          go_simp
          exact ⟨⟨by simp [hsz.out], hx.out⟩, upd z 16 (undef), (by unfold Hid; simp [upd, e8]), hz.next apx hsz.out 9 (by decide) _ (fun _ h => by cases h)⟩
        · have e8 : z 15 = .bool false := hz 8 _ (hw 8 (by kernel_rfl)) rfl
          refine wpOp_skip rfl (by simp [Region.wanted, yielded, e8]) ?_
          go_simp
          exact ⟨⟨by simp [hsz.out], hx.out⟩, upd z 17 (undef), (by unfold Hid; simp [upd, e8]), hz.next apx hsz.out 10 (by decide) _ (fun _ h => by cases h)⟩
        · have e8 : z 15 = .bool false := hz 8 _ (hw 8 (by kernel_rfl)) rfl
          refine wpOp_skip rfl (by simp [Region.wanted, yielded, e8]) ?_
          go_simp
          exact ⟨⟨by simp [hsz.out], hx.out⟩, upd z 18 (undef), (by unfold Hid; simp [upd, e8]), hz.next apx hsz.out 11 (by decide) _ (fun _ h => by cases h)⟩
        · have e8 : z 15 = .bool false := hz 8 _ (hw 8 (by kernel_rfl)) rfl
          refine wpOp_skip rfl (by simp [Region.wanted, yielded, e8]) ?_
          go_simp
          exact ⟨⟨by simp [hsz.out], hx.out⟩, upd z 19 (undef), (by unfold Hid; simp [upd, e8]), hz.next apx hsz.out 12 (by decide) _ (fun _ h => by cases h)⟩
        · have e8 : z 15 = .bool false := hz 8 _ (hw 8 (by kernel_rfl)) rfl
          refine wpOp_skip rfl (by simp [Region.wanted, yielded, e8]) ?_
          go_simp
          exact ⟨⟨by simp [hsz.out], hx.out⟩, upd z 20 (undef), (by unfold Hid; simp [upd, e8]), hz.next apx hsz.out 13 (by decide) _ (fun _ h => by cases h)⟩
        · have e8 : z 15 = .bool false := hz 8 _ (hw 8 (by kernel_rfl)) rfl
          refine wpOp_skip rfl (by simp [Region.wanted, yielded, e8]) ?_
          go_simp
          exact ⟨⟨by simp [hsz.out], hx.out⟩, upd z 21 (undef), (by unfold Hid; simp [upd, e8]), hz.next apx hsz.out 14 (by decide) _ (fun _ h => by cases h)⟩
        · have e8 : z 15 = .bool false := hz 8 _ (hw 8 (by kernel_rfl)) rfl
          refine wpOp_skip rfl (by simp [Region.wanted, yielded, e8]) ?_
          go_simp
          exact ⟨⟨by simp [hsz.out], hx.out⟩, upd z 22 (undef), (by unfold Hid; simp [upd, e8]), hz.next apx hsz.out 15 (by decide) _ (fun _ h => by cases h)⟩
        · have e8 : z 15 = .bool false := hz 8 _ (hw 8 (by kernel_rfl)) rfl
          refine wpOp_skip rfl (by simp [Region.wanted, yielded, e8]) ?_
          go_simp
          exact ⟨⟨by simp [hsz.out], hx.out⟩, upd z 23 (undef), (by unfold Hid; simp [upd, e8]), hz.next apx hsz.out 16 (by decide) _ (fun _ h => by cases h)⟩
        · have e8 : z 15 = .bool false := hz 8 _ (hw 8 (by kernel_rfl)) rfl
          refine wpOp_skip rfl (by simp [Region.wanted, yielded, e8]) ?_
          go_simp
          exact ⟨⟨by simp [hsz.out], hx.out⟩, upd z 24 (undef), (by unfold Hid; simp [upd, e8]), hz.next apx hsz.out 17 (by decide) _ (fun _ h => by cases h)⟩
        · have e8 : z 15 = .bool false := hz 8 _ (hw 8 (by kernel_rfl)) rfl
          refine wpOp_skip rfl (by simp [Region.wanted, yielded, e8]) ?_
          go_simp
          exact ⟨⟨by simp [hsz.out], hx.out⟩, upd z 25 (undef), (by unfold Hid; simp [upd, e8]), hz.next apx hsz.out 18 (by decide) _ (fun _ h => by cases h)⟩
        · have e8 : z 15 = .bool false := hz 8 _ (hw 8 (by kernel_rfl)) rfl
          refine wpOp_skip rfl (by simp [Region.wanted, yielded, e8]) ?_
          go_simp
          exact ⟨⟨by simp [hsz.out], hx.out⟩, upd z 26 (undef), (by unfold Hid; simp [upd, e8]), hz.next apx hsz.out 19 (by decide) _ (fun _ h => by cases h)⟩
        · have e8 : z 15 = .bool false := hz 8 _ (hw 8 (by kernel_rfl)) rfl
          refine wpOp_skip rfl (by simp [Region.wanted, yielded, e8]) ?_
          go_simp
          exact ⟨⟨by simp [hsz.out], hx.out⟩, upd z 27 (undef), (by unfold Hid; simp [upd, e8]), hz.next apx hsz.out 20 (by decide) _ (fun _ h => by cases h)⟩
        · have e8 : z 15 = .bool false := hz 8 _ (hw 8 (by kernel_rfl)) rfl
          refine wpOp_skip rfl (by simp [Region.wanted, yielded, e8]) ?_
          go_simp
          exact ⟨⟨by simp [hsz.out], hx.out⟩, upd z 28 (undef), (by unfold Hid; simp [upd, e8]), hz.next apx hsz.out 21 (by decide) _ (fun _ h => by cases h)⟩
        · have e8 : z 15 = .bool false := hz 8 _ (hw 8 (by kernel_rfl)) rfl
          refine wpOp_plain rfl rfl ?_
          go_simp
          exact ⟨⟨by simp [hsz.out], hx.out⟩, upd z 29 (.bool false), (by unfold Hid; simp [upd, e8]), hz.next apx hsz.out 22 (by decide) _ (fun _ h => Option.some.inj h)⟩
        · have e22 : z 29 = .bool false := hz 22 _ (hw 22 (by kernel_rfl)) rfl
          refine wpOp_plain rfl rfl ?_
          go_simp
          exact ⟨⟨by simp [hsz.out], hx.out⟩, upd z 6 (.bool false), (by unfold Hid; simp [upd, e22]), hz.next apx hsz.out 23 (by decide) _ (fun _ h => Option.some.inj h)⟩
      · exact ⟨⟨rfl, (Below.refl _ _).drew⟩, fun xx => (#[ptr S.g, .agg a.c, .agg b.c, undef, .pointer (some ⟨q4, 0, none⟩), .pointer (some ⟨q4 + 1, 0, none⟩), .bool false, undef, undef, undef, undef, undef, undef, undef, undef, undef, undef, undef, undef, undef, undef, undef, undef, undef, undef, undef, undef, undef, undef, undef] : Array Value).getD xx undef, (by rfl), Holding.start⟩
    | some lb =>
      have HR : Hid (BefB S a b = befB S a b) := by show _ = _; unfold BefB; rw [hxa, hxb]; simp
      have HHb : Hid ((lineB S b).isSome = true) := by show _ = _; rw [hxb]; rfl
      have HLb := Lib.hid hxb
      have HBf : Hid (∀ wx, Below W.heap.size W wx → Calls Tryd.prog 42 #[ptr la, ptr lb] wx fun e w' => e = .returned (.bool (befB S a b)) ∧ Below wx.heap.size wx w') := fun wx hx => before_b S us gn HOk.out HSz.out a b la lb hxa hxb wx (Hg.out.below hx)
      rw [HR.out]
      generalize befB S a b = r at *
      clear hxa hxb
      go_enter Tryd.func18, Tryd.ntmps18
      go_upto_region 1 with (fail)
      rw [HW.out, ← Hq4.out]
      have apx : apartB [7, 8, 9, 10, 11, 12, 13, 14, 15, 16, 17, 18, 19, 20, 21, 22, 23, 24, 25, 26, 27, 28, 29, 6] = true := by decide
      refine wp_region_any (by kernel_rfl) ?_
      change wpAny _ _ _ _ _ _ _ (World.drew _)
      refine wpAny_inv (fun ll aa wx => Hid (ll.size = 24 ∧ Below W.heap.size W wx) ∧ ∃ (z : Nat → Value), Hid (aa = ⟨#[ptr S.g, .agg a.c, .agg b.c, undef, .pointer (some ⟨q4, 0, none⟩), .pointer (some ⟨q4 + 1, 0, none⟩), z 6, z 7, z 8, z 9, z 10, z 11, z 12, z 13, z 14, z 15, z 16, z 17, z 18, z 19, z 20, z 21, z 22, z 23, z 24, z 25, z 26, z 27, z 28, z 29], []⟩) ∧ Holding [7, 8, 9, 10, 11, 12, 13, 14, 15, 16, 17, 18, 19, 20, 21, 22, 23, 24, 25, 26, 27, 28, 29, 6] [some (ptr S.g), some (.agg a.c), some (.bool true), some (.bool true), some (ptr S.g), some (.agg b.c), some (.bool true), some (.bool true), some (.bool true), some (ptr S.g), some (.pointer (some ⟨S.g, 0, none⟩)), some (.pointer (some ⟨S.g, 3, none⟩)), some (.map (some S.mv)), some (.agg a.c), some (ptr la), some (ptr S.g), some (.pointer (some ⟨S.g, 0, none⟩)), some (.pointer (some ⟨S.g, 3, none⟩)), some (.map (some S.mv)), some (.agg b.c), some (ptr lb), some (.bool r), some (.bool r), some (.bool r)] ll z) ?_ (by kernel_rfl) ?_ ?_ _ _ _ _ (unlisted_none _) ?_
      · rintro ll aa wx ⟨hI, _⟩
        exact hI.out.1
      · rintro ll aa wx ⟨hI, z, ha, hz⟩ hall
        have hx := Lib.hid hI.out.2
        have e0 : z 7 = ptr S.g := hz 0 _ (hall 0 (by decide)) rfl
        have e1 : z 8 = .agg a.c := hz 1 _ (hall 1 (by decide)) rfl
        have e2 : z 9 = .bool true := hz 2 _ (hall 2 (by decide)) rfl
        have e3 : z 10 = .bool true := hz 3 _ (hall 3 (by decide)) rfl
        have e4 : z 11 = ptr S.g := hz 4 _ (hall 4 (by decide)) rfl
        have e5 : z 12 = .agg b.c := hz 5 _ (hall 5 (by decide)) rfl
        have e6 : z 13 = .bool true := hz 6 _ (hall 6 (by decide)) rfl
        have e7 : z 14 = .bool true := hz 7 _ (hall 7 (by decide)) rfl
        have e8 : z 15 = .bool true := hz 8 _ (hall 8 (by decide)) rfl
        have e9 : z 16 = ptr S.g := hz 9 _ (hall 9 (by decide)) rfl
        have e10 : z 17 = .pointer (some ⟨S.g, 0, none⟩) := hz 10 _ (hall 10 (by decide)) rfl
        have e11 : z 18 = .pointer (some ⟨S.g, 3, none⟩) := hz 11 _ (hall 11 (by decide)) rfl
        have e12 : z 19 = .map (some S.mv) := hz 12 _ (hall 12 (by decide)) rfl
        have e13 : z 20 = .agg a.c := hz 13 _ (hall 13 (by decide)) rfl
        have e14 : z 21 = ptr la := hz 14 _ (hall 14 (by decide)) rfl
        have e15 : z 22 = ptr S.g := hz 15 _ (hall 15 (by decide)) rfl
        have e16 : z 23 = .pointer (some ⟨S.g, 0, none⟩) := hz 16 _ (hall 16 (by decide)) rfl
        have e17 : z 24 = .pointer (some ⟨S.g, 3, none⟩) := hz 17 _ (hall 17 (by decide)) rfl
        have e18 : z 25 = .map (some S.mv) := hz 18 _ (hall 18 (by decide)) rfl
        have e19 : z 26 = .agg b.c := hz 19 _ (hall 19 (by decide)) rfl
        have e20 : z 27 = ptr lb := hz 20 _ (hall 20 (by decide)) rfl
        have e21 : z 28 = .bool r := hz 21 _ (hall 21 (by decide)) rfl
        have e22 : z 29 = .bool r := hz 22 _ (hall 22 (by decide)) rfl
        have e23 : z 6 = .bool r := hz 23 _ (hall 23 (by decide)) rfl
        clear hall hz hI 
        obtain rfl := ha.out
        clear ha
        clear apx
        have E6 := Lib.hid e23
        have HX := Lib.hid hx.out
        clear e0 e1 e2 e3 e4 e5 e6 e7 e8 e9 e10 e11 e12 e13 e14 e15 e16 e17 e18 e19 e20 e21 e22 e23 hx
        rw [E6.out]
        go_wp2
        go_ret
        exact ⟨rfl, K2.out.trans (HX.out.mono K2.out.size)⟩
      · rintro ll aa wx i ⟨hI, z, ha, hz⟩ hi hu hw
        obtain rfl := ha.out
        have hsz := Lib.hid hI.out.1
        have hx := Lib.hid hI.out.2
        clear ha hI
        have hin : i < 24 := hi
        obtain rfl | rfl | rfl | rfl | rfl | rfl | rfl | rfl | rfl | rfl | rfl | rfl | rfl | rfl | rfl | rfl | rfl | rfl | rfl | rfl | rfl | rfl | rfl | rfl : i = 0 ∨ i = 1 ∨ i = 2 ∨ i = 3 ∨ i = 4 ∨ i = 5 ∨ i = 6 ∨ i = 7 ∨ i = 8 ∨ i = 9 ∨ i = 10 ∨ i = 11 ∨ i = 12 ∨ i = 13 ∨ i = 14 ∨ i = 15 ∨ i = 16 ∨ i = 17 ∨ i = 18 ∨ i = 19 ∨ i = 20 ∨ i = 21 ∨ i = 22 ∨ i = 23 := by omega
        · refine wpOp_plain rfl rfl ?_
          go_simp
          exact ⟨⟨by simp [hsz.out], hx.out⟩, upd z 7 (ptr S.g), (by unfold Hid; simp [upd]), hz.next apx hsz.out 0 (by decide) _ (fun _ h => Option.some.inj h)⟩
        · have cl := (hx.out.block _ (Array.getElem?_eq_some_iff.1 H4.out).1).trans H4.out
          refine wpOp_plain rfl rfl (wp_load_row 27 (.tmp 4) rfl (q4) rfl 27 a.c (0, 0) _ cl Tryd.underlying27 rfl (infoVxA a) ?_)
          go_simp
          exact ⟨⟨by simp [hsz.out], hx.out⟩, upd z 8 (.agg a.c), (by unfold Hid; simp [upd]), hz.next apx hsz.out 1 (by decide) _ (fun _ h => Option.some.inj h)⟩
        · have e0 : z 7 = ptr S.g := hz 0 _ (hw 0 (by kernel_rfl)) rfl
          have e1 : z 8 = .agg a.c := hz 1 _ (hw 1 (by kernel_rfl)) rfl
          have hh := has_any S us gn a wx (Hg.out.below hx.out)
          rw [HHa.out] at hh
          refine wpOp_plain rfl rfl ?_
          go_simp
          go_at_call 25
          refine hh.mono ?_
          rintro e w8 ⟨rfl, low⟩
          exact ⟨⟨by simp [hsz.out], hx.out.trans (low.mono hx.out.size)⟩, upd z 9 (.bool true), (by unfold Hid; simp [upd, e0, e1]), hz.next apx hsz.out 2 (by decide) _ (fun _ h => Option.some.inj h)⟩
        · have e2 : z 9 = .bool true := hz 2 _ (hw 2 (by kernel_rfl)) rfl
          refine wpOp_plain rfl rfl ?_
          go_simp
          exact ⟨⟨by simp [hsz.out], hx.out⟩, upd z 10 (.bool true), (by unfold Hid; simp [upd, e2]), hz.next apx hsz.out 3 (by decide) _ (fun _ h => Option.some.inj h)⟩
        · have e3 : z 10 = .bool true := hz 3 _ (hw 3 (by kernel_rfl)) rfl
          refine wpOp_want rfl (by simp [Region.wanted, yielded, e3]) ?_
          go_simp
          exact ⟨⟨by simp [hsz.out], hx.out⟩, upd z 11 (ptr S.g), (by unfold Hid; simp [upd, e3]), hz.next apx hsz.out 4 (by decide) _ (fun _ h => Option.some.inj h)⟩
        · have e3 : z 10 = .bool true := hz 3 _ (hw 3 (by kernel_rfl)) rfl
          have cl := (hx.out.block _ (Array.getElem?_eq_some_iff.1 H5.out).1).trans H5.out
          refine wpOp_want rfl (by simp [Region.wanted, yielded, e3]) (wp_load_row 27 (.tmp 5) rfl ((q4 + 1)) rfl 27 b.c (0, 0) _ cl Tryd.underlying27 rfl (infoVxA b) ?_)
          go_simp
          exact ⟨⟨by simp [hsz.out], hx.out⟩, upd z 12 (.agg b.c), (by unfold Hid; simp [upd, e3]), hz.next apx hsz.out 5 (by decide) _ (fun _ h => Option.some.inj h)⟩
        · have e3 : z 10 = .bool true := hz 3 _ (hw 3 (by kernel_rfl)) rfl
          have e4 : z 11 = ptr S.g := hz 4 _ (hw 4 (by kernel_rfl)) rfl
          have e5 : z 12 = .agg b.c := hz 5 _ (hw 5 (by kernel_rfl)) rfl
          have hh := has_any S us gn b wx (Hg.out.below hx.out)
          rw [HHb.out] at hh
          refine wpOp_want rfl (by simp [Region.wanted, yielded, e3]) ?_
          go_simp
          go_at_call 25
          refine hh.mono ?_
          rintro e w8 ⟨rfl, low⟩
          exact ⟨⟨by simp [hsz.out], hx.out.trans (low.mono hx.out.size)⟩, upd z 13 (.bool true), (by unfold Hid; simp [upd, e3, e4, e5]), hz.next apx hsz.out 6 (by decide) _ (fun _ h => Option.some.inj h)⟩
        · have e3 : z 10 = .bool true := hz 3 _ (hw 3 (by kernel_rfl)) rfl
          have e6 : z 13 = .bool true := hz 6 _ (hw 6 (by kernel_rfl)) rfl
          refine wpOp_plain rfl rfl ?_
          go_simp
          exact ⟨⟨by simp [hsz.out], hx.out⟩, upd z 14 (.bool true), (by unfold Hid; simp [upd, e3, e6]), hz.next apx hsz.out 7 (by decide) _ (fun _ h => Option.some.inj h)⟩
        · have e7 : z 14 = .bool true := hz 7 _ (hw 7 (by kernel_rfl)) rfl
          refine wpOp_plain rfl rfl ?_
          go_simp
          exact ⟨⟨by simp [hsz.out], hx.out⟩, upd z 15 (.bool true), (by unfold Hid; simp [upd, e7]), hz.next apx hsz.out 8 (by decide) _ (fun _ h => Option.some.inj h)⟩
        · have e8 : z 15 = .bool true := hz 8 _ (hw 8 (by kernel_rfl)) rfl
          refine wpOp_want rfl (by simp [Region.wanted, yielded, e8]) ?_
          go_simp
          exact ⟨⟨by simp [hsz.out], hx.out⟩, upd z 16 (ptr S.g), (by unfold Hid; simp [upd, e8]), hz.next apx hsz.out 9 (by decide) _ (fun _ h => Option.some.inj h)⟩
        · have e8 : z 15 = .bool true := hz 8 _ (hw 8 (by kernel_rfl)) rfl
          have e9 : z 16 = ptr S.g := hz 9 _ (hw 9 (by kernel_rfl)) rfl
          refine wpOp_want rfl (by simp [Region.wanted, yielded, e8]) ?_
          go_simp
          exact ⟨⟨by simp [hsz.out], hx.out⟩, upd z 17 (.pointer (some ⟨S.g, 0, none⟩)), (by unfold Hid; simp [upd, e8, e9]), hz.next apx hsz.out 10 (by decide) _ (fun _ h => Option.some.inj h)⟩
        · have e8 : z 15 = .bool true := hz 8 _ (hw 8 (by kernel_rfl)) rfl
          have e10 : z 17 = .pointer (some ⟨S.g, 0, none⟩) := hz 10 _ (hw 10 (by kernel_rfl)) rfl
          refine wpOp_want rfl (by simp [Region.wanted, yielded, e8]) ?_
          go_simp
          exact ⟨⟨by simp [hsz.out], hx.out⟩, upd z 18 (.pointer (some ⟨S.g, 3, none⟩)), (by unfold Hid; simp [upd, e8, e10]), hz.next apx hsz.out 11 (by decide) _ (fun _ h => Option.some.inj h)⟩
        · have e8 : z 15 = .bool true := hz 8 _ (hw 8 (by kernel_rfl)) rfl
          have e11 : z 18 = .pointer (some ⟨S.g, 3, none⟩) := hz 11 _ (hw 11 (by kernel_rfl)) rfl
          have cl : wx.cell? ⟨S.g, 3, none⟩ = some (.map (some S.mv)) := (hx.out.cell (p := ⟨S.g, 3, none⟩) (World.block_lt_of_cell? _ _ HG3.out)).trans HG3.out
          refine wpOp_want rfl (by simp [Region.wanted, yielded, e8]) ?_
          go_simp
          exact ⟨⟨by simp [hsz.out], hx.out⟩, upd z 19 (.map (some S.mv)), (by unfold Hid; simp [upd, e8, e11]), hz.next apx hsz.out 12 (by decide) _ (fun _ h => Option.some.inj h)⟩
        · have e8 : z 15 = .bool true := hz 8 _ (hw 8 (by kernel_rfl)) rfl
          have cl := (hx.out.block _ (Array.getElem?_eq_some_iff.1 H4.out).1).trans H4.out
          refine wpOp_want rfl (by simp [Region.wanted, yielded, e8]) (wp_load_row 27 (.tmp 4) rfl (q4) rfl 27 a.c (0, 0) _ cl Tryd.underlying27 rfl (infoVxA a) ?_)
          go_simp
          exact ⟨⟨by simp [hsz.out], hx.out⟩, upd z 20 (.agg a.c), (by unfold Hid; simp [upd, e8]), hz.next apx hsz.out 13 (by decide) _ (fun _ h => Option.some.inj h)⟩
        · have e8 : z 15 = .bool true := hz 8 _ (hw 8 (by kernel_rfl)) rfl
          have e12 : z 19 = .map (some S.mv) := hz 12 _ (hw 12 (by kernel_rfl)) rfl
          have e13 : z 20 = .agg a.c := hz 13 _ (hw 13 (by kernel_rfl)) rfl
          have lk := (Hg.out.below hx.out).look a
          rw [HLa.out] at lk
          simp only [Option.map_some, Option.getD_some] at lk
          refine wpOp_want rfl (by simp [Region.wanted, yielded, e8]) ?_
          go_simp
          exact ⟨⟨by simp [hsz.out], hx.out⟩, upd z 21 (ptr la), (by unfold Hid; simp [upd, e8, e12, e13]), hz.next apx hsz.out 14 (by decide) _ (fun _ h => Option.some.inj h)⟩
        · have e8 : z 15 = .bool true := hz 8 _ (hw 8 (by kernel_rfl)) rfl
          refine wpOp_want rfl (by simp [Region.wanted, yielded, e8]) ?_
          go_simp
          exact ⟨⟨by simp [hsz.out], hx.out⟩, upd z 22 (ptr S.g), (by unfold Hid; simp [upd, e8]), hz.next apx hsz.out 15 (by decide) _ (fun _ h => Option.some.inj h)⟩
        · have e8 : z 15 = .bool true := hz 8 _ (hw 8 (by kernel_rfl)) rfl
          have e15 : z 22 = ptr S.g := hz 15 _ (hw 15 (by kernel_rfl)) rfl
          refine wpOp_want rfl (by simp [Region.wanted, yielded, e8]) ?_
          go_simp
          exact ⟨⟨by simp [hsz.out], hx.out⟩, upd z 23 (.pointer (some ⟨S.g, 0, none⟩)), (by unfold Hid; simp [upd, e8, e15]), hz.next apx hsz.out 16 (by decide) _ (fun _ h => Option.some.inj h)⟩
        · have e8 : z 15 = .bool true := hz 8 _ (hw 8 (by kernel_rfl)) rfl
          have e16 : z 23 = .pointer (some ⟨S.g, 0, none⟩) := hz 16 _ (hw 16 (by kernel_rfl)) rfl
          refine wpOp_want rfl (by simp [Region.wanted, yielded, e8]) ?_
          go_simp
          exact ⟨⟨by simp [hsz.out], hx.out⟩, upd z 24 (.pointer (some ⟨S.g, 3, none⟩)), (by unfold Hid; simp [upd, e8, e16]), hz.next apx hsz.out 17 (by decide) _ (fun _ h => Option.some.inj h)⟩
        · have e8 : z 15 = .bool true := hz 8 _ (hw 8 (by kernel_rfl)) rfl
          have e17 : z 24 = .pointer (some ⟨S.g, 3, none⟩) := hz 17 _ (hw 17 (by kernel_rfl)) rfl
          have cl : wx.cell? ⟨S.g, 3, none⟩ = some (.map (some S.mv)) := (hx.out.cell (p := ⟨S.g, 3, none⟩) (World.block_lt_of_cell? _ _ HG3.out)).trans HG3.out
          refine wpOp_want rfl (by simp [Region.wanted, yielded, e8]) ?_
          go_simp
          exact ⟨⟨by simp [hsz.out], hx.out⟩, upd z 25 (.map (some S.mv)), (by unfold Hid; simp [upd, e8, e17]), hz.next apx hsz.out 18 (by decide) _ (fun _ h => Option.some.inj h)⟩
        · have e8 : z 15 = .bool true := hz 8 _ (hw 8 (by kernel_rfl)) rfl
          have cl := (hx.out.block _ (Array.getElem?_eq_some_iff.1 H5.out).1).trans H5.out
          refine wpOp_want rfl (by simp [Region.wanted, yielded, e8]) (wp_load_row 27 (.tmp 5) rfl ((q4 + 1)) rfl 27 b.c (0, 0) _ cl Tryd.underlying27 rfl (infoVxA b) ?_)
          go_simp
          exact ⟨⟨by simp [hsz.out], hx.out⟩, upd z 26 (.agg b.c), (by unfold Hid; simp [upd, e8]), hz.next apx hsz.out 19 (by decide) _ (fun _ h => Option.some.inj h)⟩
        · have e8 : z 15 = .bool true := hz 8 _ (hw 8 (by kernel_rfl)) rfl
          have e18 : z 25 = .map (some S.mv) := hz 18 _ (hw 18 (by kernel_rfl)) rfl
          have e19 : z 26 = .agg b.c := hz 19 _ (hw 19 (by kernel_rfl)) rfl
          have lk := (Hg.out.below hx.out).look b
          rw [HLb.out] at lk
          simp only [Option.map_some, Option.getD_some] at lk
          refine wpOp_want rfl (by simp [Region.wanted, yielded, e8]) ?_
          go_simp
          exact ⟨⟨by simp [hsz.out], hx.out⟩, upd z 27 (ptr lb), (by unfold Hid; simp [upd, e8, e18, e19]), hz.next apx hsz.out 20 (by decide) _ (fun _ h => Option.some.inj h)⟩
        · have e8 : z 15 = .bool true := hz 8 _ (hw 8 (by kernel_rfl)) rfl
          have e14 : z 21 = ptr la := hz 14 _ (hw 14 (by kernel_rfl)) rfl
          have e20 : z 27 = ptr lb := hz 20 _ (hw 20 (by kernel_rfl)) rfl
          refine wpOp_want rfl (by simp [Region.wanted, yielded, e8]) ?_
          go_simp
          go_at_call 42
          refine (HBf.out wx hx.out).mono ?_
          rintro e w8 ⟨rfl, low⟩
          exact ⟨⟨by simp [hsz.out], hx.out.trans (low.mono hx.out.size)⟩, upd z 28 (.bool r), (by unfold Hid; simp [upd, e8, e14, e20]), hz.next apx hsz.out 21 (by decide) _ (fun _ h => Option.some.inj h)⟩
        · have e8 : z 15 = .bool true := hz 8 _ (hw 8 (by kernel_rfl)) rfl
          have e21 : z 28 = .bool r := hz 21 _ (hw 21 (by kernel_rfl)) rfl
          refine wpOp_plain rfl rfl ?_
          go_simp
          exact ⟨⟨by simp [hsz.out], hx.out⟩, upd z 29 (.bool r), (by unfold Hid; simp [upd, e8, e21]), hz.next apx hsz.out 22 (by decide) _ (fun _ h => Option.some.inj h)⟩
        · have e22 : z 29 = .bool r := hz 22 _ (hw 22 (by kernel_rfl)) rfl
          refine wpOp_plain rfl rfl ?_
          go_simp
          exact ⟨⟨by simp [hsz.out], hx.out⟩, upd z 6 (.bool r), (by unfold Hid; simp [upd, e22]), hz.next apx hsz.out 23 (by decide) _ (fun _ h => Option.some.inj h)⟩
      · exact ⟨⟨rfl, (Below.refl _ _).drew⟩, fun xx => (#[ptr S.g, .agg a.c, .agg b.c, undef, .pointer (some ⟨q4, 0, none⟩), .pointer (some ⟨q4 + 1, 0, none⟩), .bool false, undef, undef, undef, undef, undef, undef, undef, undef, undef, undef, undef, undef, undef, undef, undef, undef, undef, undef, undef, undef, undef, undef, undef] : Array Value).getD xx undef, (by rfl), Holding.start⟩
end Go.Proofs.YtnjeppmpnaemlaaDoor.Grf
