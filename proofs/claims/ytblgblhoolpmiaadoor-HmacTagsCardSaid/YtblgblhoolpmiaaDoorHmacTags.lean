/- DERIVED. The walk of the law HmacTags. Written by mktags.py. -/
import Derived.Test.YtblgblhoolpmiaaDoorRef2Sum
import Derived.Test.YtblgblhoolpmiaaDoorHmacKeep
import Derived.Test.YtblgblhoolpmiaaDoorHmacWorks
import Derived.Test.YtblgblhoolpmiaaDoorStr
import Derived.Test.YtblgblhoolpmiaaDoorRegionCall
import Derived.Test.YtblgblhoolpmiaaDoorRegionFix
import Derived.Test.YtblgblhoolpmiaaDoorSlUntil
namespace Go.Proofs.YtblgblhoolpmiaaDoor.lawTags
open Go.RowKit
set_option maxRecDepth 100000 in
set_option maxHeartbeats 2000000 in
theorem walk_same (K : List Int) (A A2 : Option Addr) (c n n1 c2 m : Nat) (w : World) (hn : K.length = n1) (hn6 : n1 ≤ 600) (hb : InB K) (hb2 : InB K) (hB : Byt w A c K) (hB2 : Byt w A2 c2 K) (hL : Laid w)
    (h1 : ∀ W : World, Calls Tryd.prog 19 #[.slice A n c] W fun e w' => e = .returned (.slice A n1 c) ∧ W = w') (h2 : ∀ W : World, Calls Tryd.prog 19 #[.slice A2 m c2] W fun e w' => e = .returned (.slice A2 n1 c2) ∧ W = w') :
    Calls Tryd.prog 6 #[.slice A n c, .slice A2 m c2] w fun e' w' => e' = .returned (.bool true) ∧ Below w.heap.size w w' := by
  obtain ⟨S, hS⟩ : ∃ S, S = hmacL K K := ⟨_, rfl⟩
  have hS32 : S.length = 32 := by rw [hS]; exact hmacL_length _ _
  have Hn := Lib.hid hn
  have Hm := Lib.hid hn
  have Hb := Lib.hid hb
  have Hb2 := Lib.hid hb2
  have HB := Lib.hid hB
  have HB2 := Lib.hid hB2
  have HL := Lib.hid hL
  have Hsz := Lib.hid hL.sz
  have HS := Lib.hid hS
  have HS32 := Lib.hid hS32
  have H1 := Lib.hid h1
  have H2 := Lib.hid h2
  clear hn hb hb2 hB hB2 hL hS hS32 h1 h2
  go_enter Tryd.func6, Tryd.ntmps6
  go_upto_region 2 with (first
    | (go_at_call 19; refine (H1.out w).mono ?_; rintro e w' ⟨rfl, rfl⟩; clear H1)
    | (go_at_call 19; refine (H2.out w).mono ?_; rintro e w' ⟨rfl, rfl⟩))
  have apx : apartB [9, 10, 11, 12, 13, 14, 15, 16, 17, 18, 19, 20, 21, 22, 23, 24, 25, 26, 27, 28, 29, 4] = true := by decide
  refine wp_region_any (by kernel_rfl) ?_
  change wpAny _ _ _ _ _ _ _ (World.drew _)
  refine wpAny_inv (fun ll aa wx => Hid (ll.size = 22 ∧ Below w.heap.size w wx) ∧ ∃ (z : Nat → Value), Hid (aa = ⟨#[.slice A n1 c, .slice A2 n1 c2, undef, undef, z 4, .slice A n c, .slice A n1 c, .slice A2 m c2, .slice A2 n1 c2, z 9, z 10, z 11, z 12, z 13, z 14, z 15, z 16, z 17, z 18, z 19, z 20, z 21, z 22, z 23, z 24, z 25, z 26, z 27, z 28, z 29], []⟩) ∧ Holding [9, 10, 11, 12, 13, 14, 15, 16, 17, 18, 19, 20, 21, 22, 23, 24, 25, 26, 27, 28, 29, 4] [some (.slice A n1 c), some (.slice A2 n1 c2), some (.agg (u8s S)), some (.slice A n1 c), some (.slice A2 n1 c2), some (.agg (u8s S)), some (.bool true), some (.bool true), some (.slice A n1 c), some (.slice A2 n1 c2), some (.bool true), some (.slice A n1 c), some (.string (strOfNums K)), some (.slice A2 n1 c2), some (.string (strOfNums K)), some (.bool true), some (.bool true), some (.bool true), some (.bool true), some (.bool true), some (.bool true), some (.bool true)] ll z) ?_ (by kernel_rfl) ?_ ?_ _ _ _ _ (unlisted_none _) ?_
  · rintro ll aa wx ⟨hI, _⟩
    exact hI.out.1
  · rintro ll aa wx ⟨hI, z, ha, hz⟩ hall
    have hx := Lib.hid hI.out.2
    have e0 : z 9 = .slice A n1 c := hz 0 _ (hall 0 (by decide)) rfl
    have e1 : z 10 = .slice A2 n1 c2 := hz 1 _ (hall 1 (by decide)) rfl
    have e2 : z 11 = .agg (u8s S) := hz 2 _ (hall 2 (by decide)) rfl
    have e3 : z 12 = .slice A n1 c := hz 3 _ (hall 3 (by decide)) rfl
    have e4 : z 13 = .slice A2 n1 c2 := hz 4 _ (hall 4 (by decide)) rfl
    have e5 : z 14 = .agg (u8s S) := hz 5 _ (hall 5 (by decide)) rfl
    have e6 : z 15 = .bool true := hz 6 _ (hall 6 (by decide)) rfl
    have e7 : z 16 = .bool true := hz 7 _ (hall 7 (by decide)) rfl
    have e8 : z 17 = .slice A n1 c := hz 8 _ (hall 8 (by decide)) rfl
    have e9 : z 18 = .slice A2 n1 c2 := hz 9 _ (hall 9 (by decide)) rfl
    have e10 : z 19 = .bool true := hz 10 _ (hall 10 (by decide)) rfl
    have e11 : z 20 = .slice A n1 c := hz 11 _ (hall 11 (by decide)) rfl
    have e12 : z 21 = .string (strOfNums K) := hz 12 _ (hall 12 (by decide)) rfl
    have e13 : z 22 = .slice A2 n1 c2 := hz 13 _ (hall 13 (by decide)) rfl
    have e14 : z 23 = .string (strOfNums K) := hz 14 _ (hall 14 (by decide)) rfl
    have e15 : z 24 = .bool true := hz 15 _ (hall 15 (by decide)) rfl
    have e16 : z 25 = .bool true := hz 16 _ (hall 16 (by decide)) rfl
    have e17 : z 26 = .bool true := hz 17 _ (hall 17 (by decide)) rfl
    have e18 : z 27 = .bool true := hz 18 _ (hall 18 (by decide)) rfl
    have e19 : z 28 = .bool true := hz 19 _ (hall 19 (by decide)) rfl
    have e20 : z 29 = .bool true := hz 20 _ (hall 20 (by decide)) rfl
    have e21 : z 4 = .bool true := hz 21 _ (hall 21 (by decide)) rfl
    clear hall hz hI 
    obtain rfl := ha.out
    clear ha
    clear apx
    have E := Lib.hid e21
    have HX := Lib.hid hx.out
    clear e0 e1 e2 e3 e4 e5 e6 e7 e8 e9 e10 e11 e12 e13 e14 e15 e16 e17 e18 e19 e20 hx e21
    rw [E.out]
    go_wp2
    go_ret
    exact ⟨rfl, HX.out⟩
  · rintro ll aa wx i ⟨hI, z, ha, hz⟩ hi hu hw
    obtain rfl := ha.out
    have hsz := Lib.hid hI.out.1
    have hx := Lib.hid hI.out.2
    clear ha hI
    have hin : i < 22 := hi
    obtain rfl | rfl | rfl | rfl | rfl | rfl | rfl | rfl | rfl | rfl | rfl | rfl | rfl | rfl | rfl | rfl | rfl | rfl | rfl | rfl | rfl | rfl : i = 0 ∨ i = 1 ∨ i = 2 ∨ i = 3 ∨ i = 4 ∨ i = 5 ∨ i = 6 ∨ i = 7 ∨ i = 8 ∨ i = 9 ∨ i = 10 ∨ i = 11 ∨ i = 12 ∨ i = 13 ∨ i = 14 ∨ i = 15 ∨ i = 16 ∨ i = 17 ∨ i = 18 ∨ i = 19 ∨ i = 20 ∨ i = 21 := by omega
    · refine wpOp_plain rfl rfl ?_
      go_simp
      exact ⟨⟨by simp [hsz.out], hx.out⟩, upd z 9 (.slice A n1 c), (by unfold Hid; simp [upd]), hz.next apx hsz.out 0 (by decide) _ (fun _ h => Option.some.inj h)⟩
    · refine wpOp_plain rfl rfl ?_
      go_simp
      exact ⟨⟨by simp [hsz.out], hx.out⟩, upd z 10 (.slice A2 n1 c2), (by unfold Hid; simp [upd]), hz.next apx hsz.out 1 (by decide) _ (fun _ h => Option.some.inj h)⟩
    · have e0 : z 9 = .slice A n1 c := hz 0 _ (hw 0 (by kernel_rfl)) rfl
      have e1 : z 10 = .slice A2 n1 c2 := hz 1 _ (hw 1 (by kernel_rfl)) rfl
      refine wpOp_plain rfl rfl ?_
      go_simp
      go_at_call 20
      refine (hmac_any K K A A2 c n1 c2 n1 wx Hn.out Hm.out Hb.out Hb2.out (HB.out.below hx.out (Nat.le_refl _)) (HB2.out.below hx.out (Nat.le_refl _)) (HL.out.below hx.out Hsz.out) (by omega) (by omega)).mono ?_
      rintro e' w' ⟨rfl, low⟩
      rw [← HS.out]
      exact ⟨⟨by simp [hsz.out], hx.out.trans (low.mono hx.out.size)⟩, upd z 11 (.agg (u8s S)), (by unfold Hid; simp [upd, e0, e1]), hz.next apx hsz.out 2 (by decide) _ (fun _ h => Option.some.inj h)⟩
    · refine wpOp_plain rfl rfl ?_
      go_simp
      exact ⟨⟨by simp [hsz.out], hx.out⟩, upd z 12 (.slice A n1 c), (by unfold Hid; simp [upd]), hz.next apx hsz.out 3 (by decide) _ (fun _ h => Option.some.inj h)⟩
    · refine wpOp_plain rfl rfl ?_
      go_simp
      exact ⟨⟨by simp [hsz.out], hx.out⟩, upd z 13 (.slice A2 n1 c2), (by unfold Hid; simp [upd]), hz.next apx hsz.out 4 (by decide) _ (fun _ h => Option.some.inj h)⟩
    · have e3 : z 12 = .slice A n1 c := hz 3 _ (hw 3 (by kernel_rfl)) rfl
      have e4 : z 13 = .slice A2 n1 c2 := hz 4 _ (hw 4 (by kernel_rfl)) rfl
      refine wpOp_plain rfl rfl ?_
      go_simp
      go_at_call 21
      refine (rhmac_any K K A A2 c n1 c2 n1 wx Hn.out Hm.out Hb.out Hb2.out (HB.out.below hx.out (Nat.le_refl _)) (HB2.out.below hx.out (Nat.le_refl _)) (by omega) (by omega)).mono ?_
      rintro e' w' ⟨rfl, low⟩
      rw [← HS.out]
      exact ⟨⟨by simp [hsz.out], hx.out.trans (low.mono hx.out.size)⟩, upd z 14 (.agg (u8s S)), (by unfold Hid; simp [upd, e3, e4]), hz.next apx hsz.out 5 (by decide) _ (fun _ h => Option.some.inj h)⟩
    · have e2 : z 11 = .agg (u8s S) := hz 2 _ (hw 2 (by kernel_rfl)) rfl
      have e5 : z 14 = .agg (u8s S) := hz 5 _ (hw 5 (by kernel_rfl)) rfl
      have eq := eql35_same S HS32.out wx
      have eq2 := equal35_same S HS32.out wx
      refine wpOp_plain rfl rfl ?_
      go_simp
      exact ⟨⟨by simp [hsz.out], hx.out⟩, upd z 15 (.bool true), (by unfold Hid; simp [upd, e2, e5]), hz.next apx hsz.out 6 (by decide) _ (fun _ h => Option.some.inj h)⟩
    · have e6 : z 15 = .bool true := hz 6 _ (hw 6 (by kernel_rfl)) rfl
      refine wpOp_plain rfl rfl ?_
      go_simp
      exact ⟨⟨by simp [hsz.out], hx.out⟩, upd z 16 (.bool true), (by unfold Hid; simp [upd, e6]), hz.next apx hsz.out 7 (by decide) _ (fun _ h => Option.some.inj h)⟩
    · have e7 : z 16 = .bool true := hz 7 _ (hw 7 (by kernel_rfl)) rfl
      refine wpOp_want rfl (by simp [Region.wanted, yielded, e7]) ?_
      go_simp
      exact ⟨⟨by simp [hsz.out], hx.out⟩, upd z 17 (.slice A n1 c), (by unfold Hid; simp [upd, e7]), hz.next apx hsz.out 8 (by decide) _ (fun _ h => Option.some.inj h)⟩
    · have e7 : z 16 = .bool true := hz 7 _ (hw 7 (by kernel_rfl)) rfl
      refine wpOp_want rfl (by simp [Region.wanted, yielded, e7]) ?_
      go_simp
      exact ⟨⟨by simp [hsz.out], hx.out⟩, upd z 18 (.slice A2 n1 c2), (by unfold Hid; simp [upd, e7]), hz.next apx hsz.out 9 (by decide) _ (fun _ h => Option.some.inj h)⟩
    · have e7 : z 16 = .bool true := hz 7 _ (hw 7 (by kernel_rfl)) rfl
      have e8 : z 17 = .slice A n1 c := hz 8 _ (hw 8 (by kernel_rfl)) rfl
      have e9 : z 18 = .slice A2 n1 c2 := hz 9 _ (hw 9 (by kernel_rfl)) rfl
      refine wpOp_want rfl (by simp [Region.wanted, yielded, e7]) ?_
      go_simp
      go_at_call 22
      refine (equal_yes' K A A2 c c2 n1 wx Hn.out Hb.out (HB.out.below hx.out (Nat.le_refl _)) (HB2.out.below hx.out (Nat.le_refl _)) (by omega)).mono ?_
      rintro e' w' ⟨rfl, st⟩
      exact ⟨⟨by simp [hsz.out], hx.out.trans (st.low.mono hx.out.size)⟩, upd z 19 (.bool true), (by unfold Hid; simp [upd, e7, e8, e9]), hz.next apx hsz.out 10 (by decide) _ (fun _ h => Option.some.inj h)⟩
    · have e7 : z 16 = .bool true := hz 7 _ (hw 7 (by kernel_rfl)) rfl
      refine wpOp_want rfl (by simp [Region.wanted, yielded, e7]) ?_
      go_simp
      exact ⟨⟨by simp [hsz.out], hx.out⟩, upd z 20 (.slice A n1 c), (by unfold Hid; simp [upd, e7]), hz.next apx hsz.out 11 (by decide) _ (fun _ h => Option.some.inj h)⟩
    · have e7 : z 16 = .bool true := hz 7 _ (hw 7 (by kernel_rfl)) rfl
      have e11 : z 20 = .slice A n1 c := hz 11 _ (hw 11 (by kernel_rfl)) rfl
      have cv := Str.conv_any (HB.out.below hx.out (Nat.le_refl _)) Hn.out
      refine wpOp_want rfl (by simp [Region.wanted, yielded, e7]) ?_
      go_simp
      exact ⟨⟨by simp [hsz.out], hx.out⟩, upd z 21 (.string (strOfNums K)), (by unfold Hid; simp [upd, e7, e11]), hz.next apx hsz.out 12 (by decide) _ (fun _ h => Option.some.inj h)⟩
    · have e7 : z 16 = .bool true := hz 7 _ (hw 7 (by kernel_rfl)) rfl
      refine wpOp_want rfl (by simp [Region.wanted, yielded, e7]) ?_
      go_simp
      exact ⟨⟨by simp [hsz.out], hx.out⟩, upd z 22 (.slice A2 n1 c2), (by unfold Hid; simp [upd, e7]), hz.next apx hsz.out 13 (by decide) _ (fun _ h => Option.some.inj h)⟩
    · have e7 : z 16 = .bool true := hz 7 _ (hw 7 (by kernel_rfl)) rfl
      have e13 : z 22 = .slice A2 n1 c2 := hz 13 _ (hw 13 (by kernel_rfl)) rfl
      have cv := Str.conv_any (HB2.out.below hx.out (Nat.le_refl _)) Hm.out
      refine wpOp_want rfl (by simp [Region.wanted, yielded, e7]) ?_
      go_simp
      exact ⟨⟨by simp [hsz.out], hx.out⟩, upd z 23 (.string (strOfNums K)), (by unfold Hid; simp [upd, e7, e13]), hz.next apx hsz.out 14 (by decide) _ (fun _ h => Option.some.inj h)⟩
    · have e7 : z 16 = .bool true := hz 7 _ (hw 7 (by kernel_rfl)) rfl
      have e12 : z 21 = .string (strOfNums K) := hz 12 _ (hw 12 (by kernel_rfl)) rfl
      have e14 : z 23 = .string (strOfNums K) := hz 14 _ (hw 14 (by kernel_rfl)) rfl
      refine wpOp_want rfl (by simp [Region.wanted, yielded, e7]) ?_
      go_simp
      exact ⟨⟨by simp [hsz.out], hx.out⟩, upd z 24 (.bool true), (by unfold Hid; simp [upd, e7, e12, e14]), hz.next apx hsz.out 15 (by decide) _ (fun _ h => Option.some.inj h)⟩
    · have e7 : z 16 = .bool true := hz 7 _ (hw 7 (by kernel_rfl)) rfl
      have e10 : z 19 = .bool true := hz 10 _ (hw 10 (by kernel_rfl)) rfl
      have e15 : z 24 = .bool true := hz 15 _ (hw 15 (by kernel_rfl)) rfl
      refine wpOp_want rfl (by simp [Region.wanted, yielded, e7]) ?_
      go_simp
      exact ⟨⟨by simp [hsz.out], hx.out⟩, upd z 25 (.bool true), (by unfold Hid; simp [upd, e7, e10, e15]), hz.next apx hsz.out 16 (by decide) _ (fun _ h => Option.some.inj h)⟩
    · have e7 : z 16 = .bool true := hz 7 _ (hw 7 (by kernel_rfl)) rfl
      have e16 : z 25 = .bool true := hz 16 _ (hw 16 (by kernel_rfl)) rfl
      refine wpOp_plain rfl rfl ?_
      go_simp
      exact ⟨⟨by simp [hsz.out], hx.out⟩, upd z 26 (.bool true), (by unfold Hid; simp [upd, e7, e16]), hz.next apx hsz.out 17 (by decide) _ (fun _ h => Option.some.inj h)⟩
    · have e17 : z 26 = .bool true := hz 17 _ (hw 17 (by kernel_rfl)) rfl
      refine wpOp_plain rfl rfl ?_
      go_simp
      exact ⟨⟨by simp [hsz.out], hx.out⟩, upd z 27 (.bool true), (by unfold Hid; simp [upd, e17]), hz.next apx hsz.out 18 (by decide) _ (fun _ h => Option.some.inj h)⟩
    · have e18 : z 27 = .bool true := hz 18 _ (hw 18 (by kernel_rfl)) rfl
      refine wpOp_want rfl (by simp [Region.wanted, yielded, e18]) ?_
      go_simp
      go_at_call 23
      refine (works_any wx (HL.out.below hx.out Hsz.out)).mono ?_
      rintro e' w' ⟨rfl, low⟩
      exact ⟨⟨by simp [hsz.out], hx.out.trans (low.mono hx.out.size)⟩, upd z 28 (.bool true), (by unfold Hid; simp [upd, e18]), hz.next apx hsz.out 19 (by decide) _ (fun _ h => Option.some.inj h)⟩
    · have e18 : z 27 = .bool true := hz 18 _ (hw 18 (by kernel_rfl)) rfl
      have e19 : z 28 = .bool true := hz 19 _ (hw 19 (by kernel_rfl)) rfl
      refine wpOp_plain rfl rfl ?_
      go_simp
      exact ⟨⟨by simp [hsz.out], hx.out⟩, upd z 29 (.bool true), (by unfold Hid; simp [upd, e18, e19]), hz.next apx hsz.out 20 (by decide) _ (fun _ h => Option.some.inj h)⟩
    · have e20 : z 29 = .bool true := hz 20 _ (hw 20 (by kernel_rfl)) rfl
      refine wpOp_plain rfl rfl ?_
      go_simp
      exact ⟨⟨by simp [hsz.out], hx.out⟩, upd z 4 (.bool true), (by unfold Hid; simp [upd, e20]), hz.next apx hsz.out 21 (by decide) _ (fun _ h => Option.some.inj h)⟩
  · exact ⟨⟨rfl, (Below.refl _ _).drew⟩, fun xx => (#[.slice A n1 c, .slice A2 n1 c2, undef, undef, .bool false, .slice A n c, .slice A n1 c, .slice A2 m c2, .slice A2 n1 c2, undef, undef, undef, undef, undef, undef, undef, undef, undef, undef, undef, undef, undef, undef, undef, undef, undef, undef, undef, undef, undef] : Array Value).getD xx undef, rfl, Holding.start⟩
set_option maxRecDepth 100000 in
set_option maxHeartbeats 2000000 in
theorem walk_not (K T : List Int) (A A2 : Option Addr) (c n n1 c2 m m1 : Nat) (w : World) (hn : K.length = n1) (hm : T.length = m1) (hn6 : n1 ≤ 600) (hm6 : m1 ≤ 600) (hb : InB K) (hb2 : InB T) (hB : Byt w A c K) (hB2 : Byt w A2 c2 T) (hL : Laid w) (hne : K ≠ T)
    (h1 : ∀ W : World, Calls Tryd.prog 19 #[.slice A n c] W fun e w' => e = .returned (.slice A n1 c) ∧ W = w') (h2 : ∀ W : World, Calls Tryd.prog 19 #[.slice A2 m c2] W fun e w' => e = .returned (.slice A2 m1 c2) ∧ W = w') :
    Calls Tryd.prog 6 #[.slice A n c, .slice A2 m c2] w fun e' w' => e' = .returned (.bool true) ∧ Below w.heap.size w w' := by
  obtain ⟨S, hS⟩ : ∃ S, S = hmacL K T := ⟨_, rfl⟩
  have hS32 : S.length = 32 := by rw [hS]; exact hmacL_length _ _
  have Hn := Lib.hid hn
  have Hm := Lib.hid hm
  have Hb := Lib.hid hb
  have Hb2 := Lib.hid hb2
  have HB := Lib.hid hB
  have HB2 := Lib.hid hB2
  have HL := Lib.hid hL
  have Hsz := Lib.hid hL.sz
  have HS := Lib.hid hS
  have HS32 := Lib.hid hS32
  have H1 := Lib.hid h1
  have H2 := Lib.hid h2
  have HNE := Lib.hid hne
  have HSN := Lib.hid (beq_eq_false_iff_ne.2 (Str.str_ne hb hb2 hne))
  clear hn hm hb hb2 hB hB2 hL hS hS32 h1 h2
  go_enter Tryd.func6, Tryd.ntmps6
  go_upto_region 2 with (first
    | (go_at_call 19; refine (H1.out w).mono ?_; rintro e w' ⟨rfl, rfl⟩; clear H1)
    | (go_at_call 19; refine (H2.out w).mono ?_; rintro e w' ⟨rfl, rfl⟩))
  have apx : apartB [9, 10, 11, 12, 13, 14, 15, 16, 17, 18, 19, 20, 21, 22, 23, 24, 25, 26, 27, 28, 29, 4] = true := by decide
  refine wp_region_any (by kernel_rfl) ?_
  change wpAny _ _ _ _ _ _ _ (World.drew _)
  refine wpAny_inv (fun ll aa wx => Hid (ll.size = 22 ∧ Below w.heap.size w wx) ∧ ∃ (z : Nat → Value), Hid (aa = ⟨#[.slice A n1 c, .slice A2 m1 c2, undef, undef, z 4, .slice A n c, .slice A n1 c, .slice A2 m c2, .slice A2 m1 c2, z 9, z 10, z 11, z 12, z 13, z 14, z 15, z 16, z 17, z 18, z 19, z 20, z 21, z 22, z 23, z 24, z 25, z 26, z 27, z 28, z 29], []⟩) ∧ Holding [9, 10, 11, 12, 13, 14, 15, 16, 17, 18, 19, 20, 21, 22, 23, 24, 25, 26, 27, 28, 29, 4] [some (.slice A n1 c), some (.slice A2 m1 c2), some (.agg (u8s S)), some (.slice A n1 c), some (.slice A2 m1 c2), some (.agg (u8s S)), some (.bool true), some (.bool true), some (.slice A n1 c), some (.slice A2 m1 c2), some (.bool false), some (.slice A n1 c), some (.string (strOfNums K)), some (.slice A2 m1 c2), some (.string (strOfNums T)), some (.bool false), some (.bool true), some (.bool true), some (.bool true), some (.bool true), some (.bool true), some (.bool true)] ll z) ?_ (by kernel_rfl) ?_ ?_ _ _ _ _ (unlisted_none _) ?_
  · rintro ll aa wx ⟨hI, _⟩
    exact hI.out.1
  · rintro ll aa wx ⟨hI, z, ha, hz⟩ hall
    have hx := Lib.hid hI.out.2
    have e0 : z 9 = .slice A n1 c := hz 0 _ (hall 0 (by decide)) rfl
    have e1 : z 10 = .slice A2 m1 c2 := hz 1 _ (hall 1 (by decide)) rfl
    have e2 : z 11 = .agg (u8s S) := hz 2 _ (hall 2 (by decide)) rfl
    have e3 : z 12 = .slice A n1 c := hz 3 _ (hall 3 (by decide)) rfl
    have e4 : z 13 = .slice A2 m1 c2 := hz 4 _ (hall 4 (by decide)) rfl
    have e5 : z 14 = .agg (u8s S) := hz 5 _ (hall 5 (by decide)) rfl
    have e6 : z 15 = .bool true := hz 6 _ (hall 6 (by decide)) rfl
    have e7 : z 16 = .bool true := hz 7 _ (hall 7 (by decide)) rfl
    have e8 : z 17 = .slice A n1 c := hz 8 _ (hall 8 (by decide)) rfl
    have e9 : z 18 = .slice A2 m1 c2 := hz 9 _ (hall 9 (by decide)) rfl
    have e10 : z 19 = .bool false := hz 10 _ (hall 10 (by decide)) rfl
    have e11 : z 20 = .slice A n1 c := hz 11 _ (hall 11 (by decide)) rfl
    have e12 : z 21 = .string (strOfNums K) := hz 12 _ (hall 12 (by decide)) rfl
    have e13 : z 22 = .slice A2 m1 c2 := hz 13 _ (hall 13 (by decide)) rfl
    have e14 : z 23 = .string (strOfNums T) := hz 14 _ (hall 14 (by decide)) rfl
    have e15 : z 24 = .bool false := hz 15 _ (hall 15 (by decide)) rfl
    have e16 : z 25 = .bool true := hz 16 _ (hall 16 (by decide)) rfl
    have e17 : z 26 = .bool true := hz 17 _ (hall 17 (by decide)) rfl
    have e18 : z 27 = .bool true := hz 18 _ (hall 18 (by decide)) rfl
    have e19 : z 28 = .bool true := hz 19 _ (hall 19 (by decide)) rfl
    have e20 : z 29 = .bool true := hz 20 _ (hall 20 (by decide)) rfl
    have e21 : z 4 = .bool true := hz 21 _ (hall 21 (by decide)) rfl
    clear hall hz hI 
    obtain rfl := ha.out
    clear ha
    clear apx
    have E := Lib.hid e21
    have HX := Lib.hid hx.out
    clear e0 e1 e2 e3 e4 e5 e6 e7 e8 e9 e10 e11 e12 e13 e14 e15 e16 e17 e18 e19 e20 hx e21
    rw [E.out]
    go_wp2
    go_ret
    exact ⟨rfl, HX.out⟩
  · rintro ll aa wx i ⟨hI, z, ha, hz⟩ hi hu hw
    obtain rfl := ha.out
    have hsz := Lib.hid hI.out.1
    have hx := Lib.hid hI.out.2
    clear ha hI
    have hin : i < 22 := hi
    obtain rfl | rfl | rfl | rfl | rfl | rfl | rfl | rfl | rfl | rfl | rfl | rfl | rfl | rfl | rfl | rfl | rfl | rfl | rfl | rfl | rfl | rfl : i = 0 ∨ i = 1 ∨ i = 2 ∨ i = 3 ∨ i = 4 ∨ i = 5 ∨ i = 6 ∨ i = 7 ∨ i = 8 ∨ i = 9 ∨ i = 10 ∨ i = 11 ∨ i = 12 ∨ i = 13 ∨ i = 14 ∨ i = 15 ∨ i = 16 ∨ i = 17 ∨ i = 18 ∨ i = 19 ∨ i = 20 ∨ i = 21 := by omega
    · refine wpOp_plain rfl rfl ?_
      go_simp
      exact ⟨⟨by simp [hsz.out], hx.out⟩, upd z 9 (.slice A n1 c), (by unfold Hid; simp [upd]), hz.next apx hsz.out 0 (by decide) _ (fun _ h => Option.some.inj h)⟩
    · refine wpOp_plain rfl rfl ?_
      go_simp
      exact ⟨⟨by simp [hsz.out], hx.out⟩, upd z 10 (.slice A2 m1 c2), (by unfold Hid; simp [upd]), hz.next apx hsz.out 1 (by decide) _ (fun _ h => Option.some.inj h)⟩
    · have e0 : z 9 = .slice A n1 c := hz 0 _ (hw 0 (by kernel_rfl)) rfl
      have e1 : z 10 = .slice A2 m1 c2 := hz 1 _ (hw 1 (by kernel_rfl)) rfl
      refine wpOp_plain rfl rfl ?_
      go_simp
      go_at_call 20
      refine (hmac_any K T A A2 c n1 c2 m1 wx Hn.out Hm.out Hb.out Hb2.out (HB.out.below hx.out (Nat.le_refl _)) (HB2.out.below hx.out (Nat.le_refl _)) (HL.out.below hx.out Hsz.out) (by omega) (by omega)).mono ?_
      rintro e' w' ⟨rfl, low⟩
      rw [← HS.out]
      exact ⟨⟨by simp [hsz.out], hx.out.trans (low.mono hx.out.size)⟩, upd z 11 (.agg (u8s S)), (by unfold Hid; simp [upd, e0, e1]), hz.next apx hsz.out 2 (by decide) _ (fun _ h => Option.some.inj h)⟩
    · refine wpOp_plain rfl rfl ?_
      go_simp
      exact ⟨⟨by simp [hsz.out], hx.out⟩, upd z 12 (.slice A n1 c), (by unfold Hid; simp [upd]), hz.next apx hsz.out 3 (by decide) _ (fun _ h => Option.some.inj h)⟩
    · refine wpOp_plain rfl rfl ?_
      go_simp
      exact ⟨⟨by simp [hsz.out], hx.out⟩, upd z 13 (.slice A2 m1 c2), (by unfold Hid; simp [upd]), hz.next apx hsz.out 4 (by decide) _ (fun _ h => Option.some.inj h)⟩
    · have e3 : z 12 = .slice A n1 c := hz 3 _ (hw 3 (by kernel_rfl)) rfl
      have e4 : z 13 = .slice A2 m1 c2 := hz 4 _ (hw 4 (by kernel_rfl)) rfl
      refine wpOp_plain rfl rfl ?_
      go_simp
      go_at_call 21
      refine (rhmac_any K T A A2 c n1 c2 m1 wx Hn.out Hm.out Hb.out Hb2.out (HB.out.below hx.out (Nat.le_refl _)) (HB2.out.below hx.out (Nat.le_refl _)) (by omega) (by omega)).mono ?_
      rintro e' w' ⟨rfl, low⟩
      rw [← HS.out]
      exact ⟨⟨by simp [hsz.out], hx.out.trans (low.mono hx.out.size)⟩, upd z 14 (.agg (u8s S)), (by unfold Hid; simp [upd, e3, e4]), hz.next apx hsz.out 5 (by decide) _ (fun _ h => Option.some.inj h)⟩
    · have e2 : z 11 = .agg (u8s S) := hz 2 _ (hw 2 (by kernel_rfl)) rfl
      have e5 : z 14 = .agg (u8s S) := hz 5 _ (hw 5 (by kernel_rfl)) rfl
      have eq := eql35_same S HS32.out wx
      have eq2 := equal35_same S HS32.out wx
      refine wpOp_plain rfl rfl ?_
      go_simp
      exact ⟨⟨by simp [hsz.out], hx.out⟩, upd z 15 (.bool true), (by unfold Hid; simp [upd, e2, e5]), hz.next apx hsz.out 6 (by decide) _ (fun _ h => Option.some.inj h)⟩
    · have e6 : z 15 = .bool true := hz 6 _ (hw 6 (by kernel_rfl)) rfl
      refine wpOp_plain rfl rfl ?_
      go_simp
      exact ⟨⟨by simp [hsz.out], hx.out⟩, upd z 16 (.bool true), (by unfold Hid; simp [upd, e6]), hz.next apx hsz.out 7 (by decide) _ (fun _ h => Option.some.inj h)⟩
    · have e7 : z 16 = .bool true := hz 7 _ (hw 7 (by kernel_rfl)) rfl
      refine wpOp_want rfl (by simp [Region.wanted, yielded, e7]) ?_
      go_simp
      exact ⟨⟨by simp [hsz.out], hx.out⟩, upd z 17 (.slice A n1 c), (by unfold Hid; simp [upd, e7]), hz.next apx hsz.out 8 (by decide) _ (fun _ h => Option.some.inj h)⟩
    · have e7 : z 16 = .bool true := hz 7 _ (hw 7 (by kernel_rfl)) rfl
      refine wpOp_want rfl (by simp [Region.wanted, yielded, e7]) ?_
      go_simp
      exact ⟨⟨by simp [hsz.out], hx.out⟩, upd z 18 (.slice A2 m1 c2), (by unfold Hid; simp [upd, e7]), hz.next apx hsz.out 9 (by decide) _ (fun _ h => Option.some.inj h)⟩
    · have e7 : z 16 = .bool true := hz 7 _ (hw 7 (by kernel_rfl)) rfl
      have e8 : z 17 = .slice A n1 c := hz 8 _ (hw 8 (by kernel_rfl)) rfl
      have e9 : z 18 = .slice A2 m1 c2 := hz 9 _ (hw 9 (by kernel_rfl)) rfl
      refine wpOp_want rfl (by simp [Region.wanted, yielded, e7]) ?_
      go_simp
      go_at_call 22
      refine (equal_no' K T A A2 c c2 n1 m1 wx Hn.out Hm.out Hb.out Hb2.out (HB.out.below hx.out (Nat.le_refl _)) (HB2.out.below hx.out (Nat.le_refl _)) (by omega) HNE.out).mono ?_
      rintro e' w' ⟨rfl, st⟩
      exact ⟨⟨by simp [hsz.out], hx.out.trans (st.low.mono hx.out.size)⟩, upd z 19 (.bool false), (by unfold Hid; simp [upd, e7, e8, e9]), hz.next apx hsz.out 10 (by decide) _ (fun _ h => Option.some.inj h)⟩
    · have e7 : z 16 = .bool true := hz 7 _ (hw 7 (by kernel_rfl)) rfl
      refine wpOp_want rfl (by simp [Region.wanted, yielded, e7]) ?_
      go_simp
      exact ⟨⟨by simp [hsz.out], hx.out⟩, upd z 20 (.slice A n1 c), (by unfold Hid; simp [upd, e7]), hz.next apx hsz.out 11 (by decide) _ (fun _ h => Option.some.inj h)⟩
    · have e7 : z 16 = .bool true := hz 7 _ (hw 7 (by kernel_rfl)) rfl
      have e11 : z 20 = .slice A n1 c := hz 11 _ (hw 11 (by kernel_rfl)) rfl
      have cv := Str.conv_any (HB.out.below hx.out (Nat.le_refl _)) Hn.out
      refine wpOp_want rfl (by simp [Region.wanted, yielded, e7]) ?_
      go_simp
      exact ⟨⟨by simp [hsz.out], hx.out⟩, upd z 21 (.string (strOfNums K)), (by unfold Hid; simp [upd, e7, e11]), hz.next apx hsz.out 12 (by decide) _ (fun _ h => Option.some.inj h)⟩
    · have e7 : z 16 = .bool true := hz 7 _ (hw 7 (by kernel_rfl)) rfl
      refine wpOp_want rfl (by simp [Region.wanted, yielded, e7]) ?_
      go_simp
      exact ⟨⟨by simp [hsz.out], hx.out⟩, upd z 22 (.slice A2 m1 c2), (by unfold Hid; simp [upd, e7]), hz.next apx hsz.out 13 (by decide) _ (fun _ h => Option.some.inj h)⟩
    · have e7 : z 16 = .bool true := hz 7 _ (hw 7 (by kernel_rfl)) rfl
      have e13 : z 22 = .slice A2 m1 c2 := hz 13 _ (hw 13 (by kernel_rfl)) rfl
      have cv := Str.conv_any (HB2.out.below hx.out (Nat.le_refl _)) Hm.out
      refine wpOp_want rfl (by simp [Region.wanted, yielded, e7]) ?_
      go_simp
      exact ⟨⟨by simp [hsz.out], hx.out⟩, upd z 23 (.string (strOfNums T)), (by unfold Hid; simp [upd, e7, e13]), hz.next apx hsz.out 14 (by decide) _ (fun _ h => Option.some.inj h)⟩
    · have e7 : z 16 = .bool true := hz 7 _ (hw 7 (by kernel_rfl)) rfl
      have e12 : z 21 = .string (strOfNums K) := hz 12 _ (hw 12 (by kernel_rfl)) rfl
      have e14 : z 23 = .string (strOfNums T) := hz 14 _ (hw 14 (by kernel_rfl)) rfl
      have hq := HSN.out
      refine wpOp_want rfl (by simp [Region.wanted, yielded, e7]) ?_
      go_simp
      exact ⟨⟨by simp [hsz.out], hx.out⟩, upd z 24 (.bool false), (by unfold Hid; simp [upd, e7, e12, e14]), hz.next apx hsz.out 15 (by decide) _ (fun _ h => Option.some.inj h)⟩
    · have e7 : z 16 = .bool true := hz 7 _ (hw 7 (by kernel_rfl)) rfl
      have e10 : z 19 = .bool false := hz 10 _ (hw 10 (by kernel_rfl)) rfl
      have e15 : z 24 = .bool false := hz 15 _ (hw 15 (by kernel_rfl)) rfl
      refine wpOp_want rfl (by simp [Region.wanted, yielded, e7]) ?_
      go_simp
      exact ⟨⟨by simp [hsz.out], hx.out⟩, upd z 25 (.bool true), (by unfold Hid; simp [upd, e7, e10, e15]), hz.next apx hsz.out 16 (by decide) _ (fun _ h => Option.some.inj h)⟩
    · have e7 : z 16 = .bool true := hz 7 _ (hw 7 (by kernel_rfl)) rfl
      have e16 : z 25 = .bool true := hz 16 _ (hw 16 (by kernel_rfl)) rfl
      refine wpOp_plain rfl rfl ?_
      go_simp
      exact ⟨⟨by simp [hsz.out], hx.out⟩, upd z 26 (.bool true), (by unfold Hid; simp [upd, e7, e16]), hz.next apx hsz.out 17 (by decide) _ (fun _ h => Option.some.inj h)⟩
    · have e17 : z 26 = .bool true := hz 17 _ (hw 17 (by kernel_rfl)) rfl
      refine wpOp_plain rfl rfl ?_
      go_simp
      exact ⟨⟨by simp [hsz.out], hx.out⟩, upd z 27 (.bool true), (by unfold Hid; simp [upd, e17]), hz.next apx hsz.out 18 (by decide) _ (fun _ h => Option.some.inj h)⟩
    · have e18 : z 27 = .bool true := hz 18 _ (hw 18 (by kernel_rfl)) rfl
      refine wpOp_want rfl (by simp [Region.wanted, yielded, e18]) ?_
      go_simp
      go_at_call 23
      refine (works_any wx (HL.out.below hx.out Hsz.out)).mono ?_
      rintro e' w' ⟨rfl, low⟩
      exact ⟨⟨by simp [hsz.out], hx.out.trans (low.mono hx.out.size)⟩, upd z 28 (.bool true), (by unfold Hid; simp [upd, e18]), hz.next apx hsz.out 19 (by decide) _ (fun _ h => Option.some.inj h)⟩
    · have e18 : z 27 = .bool true := hz 18 _ (hw 18 (by kernel_rfl)) rfl
      have e19 : z 28 = .bool true := hz 19 _ (hw 19 (by kernel_rfl)) rfl
      refine wpOp_plain rfl rfl ?_
      go_simp
      exact ⟨⟨by simp [hsz.out], hx.out⟩, upd z 29 (.bool true), (by unfold Hid; simp [upd, e18, e19]), hz.next apx hsz.out 20 (by decide) _ (fun _ h => Option.some.inj h)⟩
    · have e20 : z 29 = .bool true := hz 20 _ (hw 20 (by kernel_rfl)) rfl
      refine wpOp_plain rfl rfl ?_
      go_simp
      exact ⟨⟨by simp [hsz.out], hx.out⟩, upd z 4 (.bool true), (by unfold Hid; simp [upd, e20]), hz.next apx hsz.out 21 (by decide) _ (fun _ h => Option.some.inj h)⟩
  · exact ⟨⟨rfl, (Below.refl _ _).drew⟩, fun xx => (#[.slice A n1 c, .slice A2 m1 c2, undef, undef, .bool false, .slice A n c, .slice A n1 c, .slice A2 m c2, .slice A2 m1 c2, undef, undef, undef, undef, undef, undef, undef, undef, undef, undef, undef, undef, undef, undef, undef, undef, undef, undef, undef, undef, undef] : Array Value).getD xx undef, rfl, Holding.start⟩
end Go.Proofs.YtblgblhoolpmiaaDoor.lawTags
