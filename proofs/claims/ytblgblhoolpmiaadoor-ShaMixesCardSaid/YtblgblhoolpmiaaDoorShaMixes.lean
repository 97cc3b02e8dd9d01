/- DERIVED. The walk of the law ShaMixes. Written by mkmixes.py. -/
import Derived.Test.YtblgblhoolpmiaaDoorRef1MixAll
import Derived.Test.YtblgblhoolpmiaaDoorShaAwake
import Derived.Test.YtblgblhoolpmiaaDoorArrEq
import Derived.Test.YtblgblhoolpmiaaDoorStr
import Derived.Test.YtblgblhoolpmiaaDoorSlUntil
namespace Go.Proofs.YtblgblhoolpmiaaDoor.lawMixes
open Go.RowKit
theorem nums32 (l : List Int) : Arr.nums .u32 l = u32s l := rfl
theorem eqW (l : List Int) (hl : l.length = 8) (w : World) : (binOp .eql 24 (.agg (u32s l)) (.agg (u32s l))).run Tryd.prog w = .ok (.bool true) w := by
  have h := Arr.eql_arr (E := 22) (k := .u32) Tryd.underlying22 (by kernel_rfl) (fun _ => by kernel_rfl) Tryd.underlying24 (by kernel_rfl) l l hl hl w
  rw [nums32] at h
  rw [h]; simp
theorem eqW2 (l : List Int) (hl : l.length = 8) (w : World) : (Op.equalIn 10000 24 (.agg (u32s l)) (.agg (u32s l))).run Tryd.prog w = .ok true w := by
  have h := eqW l hl w
  rw [run_eql_struct] at h
  cases hq : (Op.equalIn 10000 24 (.agg (u32s l)) (.agg (u32s l))).run Tryd.prog w <;> rw [hq] at h <;> simp_all
set_option maxRecDepth 100000 in
set_option maxHeartbeats 2000000 in
theorem walk (s : W8) (bl PB : List Int) (n : Int) (w : World) (hbl : bl.length = 64) (hb : InB bl) (hL : Laid w)
    (h1 : ∀ W : World, Below w.heap.size w W → Calls Tryd.prog 12 #[.int .i64 n] W fun e w' => ∃ v, e = .returned v ∧ SlB PB v w' ∧ Below W.heap.size W w')
    (h2 : ∀ W : World, Below w.heap.size w W → Calls Tryd.prog 13 #[.int .i64 n] W fun e w' => ∃ v, e = .returned v ∧ SlB PB v w' ∧ Below W.heap.size W w') :
    Calls Tryd.prog 3 #[.agg (u32s s.list), .agg (u8s bl), .int .i64 n] w fun e' w' => e' = .returned (.bool true) ∧ Below w.heap.size w w' := by
  obtain ⟨i8, hi8, hz80, hz81, hz82⟩ := partsK info8k
  have gi := Lib.hid hi8
  have gz0 := Lib.hid hz80
  have gz1 := Lib.hid hz81
  have gz2 := Lib.hid hz82
  obtain ⟨S, hS⟩ : ∃ S, S = s.list := ⟨_, rfl⟩
  have hS8 : S.length = 8 := by rw [hS]; rfl
  obtain ⟨R, hR⟩ : ∃ R, R = (mixK KW s bl).list := ⟨_, rfl⟩
  have hR8 : R.length = 8 := by rw [hR]; rfl
  have hm1 : ∀ wx : World, Laid wx → Calls Tryd.prog 10 #[.agg (u32s S), .agg (u8s bl)] wx fun e w' => e = .returned (.agg (u32s R)) ∧ Below wx.heap.size wx w' := by
    intro wx hlx; rw [hS, hR]; exact mix_any s bl hbl hb wx hlx
  have hm2 : ∀ (wx : World) (g c : Nat), RowK .u8 wx g bl → Calls Tryd.prog 11 #[.agg (u32s S), .slice (some ⟨g, 0, none⟩) 64 c] wx fun e w' => e = .returned (.agg (u32s R)) ∧ Below wx.heap.size wx w' := by
    intro wx g c hr; rw [hS, hR]; exact rMix_any s bl hb g 0 c wx hr.1 (fun j hj => by rw [Nat.zero_add]; exact hr.2 j (by rw [hbl]; exact hj))
  rw [← hS]
  have Hsz := Lib.hid hL.sz
  have HL := Lib.hid hL
  have HS8 := Lib.hid hS8
  have HR8 := Lib.hid hR8
  have Hbl := Lib.hid hbl
  have HM1 := Lib.hid hm1
  have HM2 := Lib.hid hm2
  have H1 := Lib.hid h1
  have H2 := Lib.hid h2
  have HSi : Hid ((Tryd.prog.info? 24).map (·.size) = some (u32s S).size) := by show _ = _; rw [u32s_size, hS8]; exact info24
  have HBi : Hid ((Tryd.prog.info? 25).map (·.size) = some (u8s bl).size) := by show _ = _; rw [u8s_size, hbl]; exact info25
  have k2 := two_new w (.cells (u32s S) 24) (.cells (u8s bl) 25)
  have l2 : Below w.heap.size w ((w.alloc (.cells (u32s S) 24)).alloc (.cells (u8s bl) 25)) := ((Below.refl _ _).alloc (Nat.le_refl _) _).alloc (by simp) _
  have s2 : ((w.alloc (.cells (u32s S) 24)).alloc (.cells (u8s bl) 25)).heap.size = w.heap.size + 2 := by simp
  obtain ⟨W2, hW2⟩ : ∃ W2, W2 = ((w.alloc (.cells (u32s S) 24)).alloc (.cells (u8s bl) 25)) := ⟨_, rfl⟩
  rw [← hW2] at k2 l2 s2
  have HW2 := Lib.hid hW2
  have K2 := Lib.hid k2
  have L2 := Lib.hid l2
  have Sz2 := Lib.hid s2
  clear hi8 hz80 hz81 hz82 hS hS8 hR hR8 hm1 hm2 hbl hb hL h1 h2 k2 l2 s2 hW2
  go_enter Tryd.func3, Tryd.ntmps3
  go_upto_region 1 with fail
  rw [← HW2.out]
  go_wp2_with (refine wpList_make_own _ rfl _ _ 26 rfl W2.heap.size 5 i8 (.int .u8 0) 1 Tryd.underlying26 gi.out gz0.out gz1.out .i64 .i64 64 64 rfl rfl rfl (by rw [gz2.out]; decide) (by unfold maxLen; decide) (Nat.le_refl _) ?_; intro w3 hown3 hgrow3; have Own3 := Lib.hid hown3; have Low3 := Lib.hid ((Below.refl W2.heap.size W2).grown hgrow3 (Nat.le_refl _) (fun k hk => by cases hk)); clear hown3 hgrow3)
  go_loopw [7, 8] (fun v i wr => ∃ j : Nat, j ≤ 64 ∧ i = .int .i64 j ∧ Hid (wr.ownsRow W2.heap.size 5 1 v j (valsK .u8 (bl.take j)) ∧ Below W2.heap.size W2 wr)) (fun _ i _ => 64 - (intOf i).toNat)
  case atStart => exact ⟨0, by omega, rfl, Own3.out, Low3.out⟩
  case round =>
    obtain ⟨j, hj, rfl, hr⟩ := hrel
    clear Own3 Low3
    by_cases hlt : j < 64
    · have hltI : (j : Int) < 64 := by omega
      obtain ⟨x, hx⟩ : ∃ x, x = bl.getD j 0 := ⟨_, rfl⟩
      have cell : wr.cell? ⟨w.heap.size + 1, j, none⟩ = some (.int .u8 x) := by rw [hx]; exact row8_cell ((hr.out.2.block _ (by rw [Sz2.out]; omega)).trans K2.out.2) j (by rw [Hbl.out]; exact hlt)
      have hmore : bl.take j ++ [x] = bl.take (j + 1) := by rw [hx]; exact take_getD (by rw [Hbl.out]; exact hlt)
      have Hmore := Lib.hid hmore
      clear hx hmore
      go_wp2_with (at_builtin; refine wpList_append_mine rfl (.tmp 14) (.tmp 18) 26 rfl W2.heap.size 5 i8 (.int .u8 0) 1 Tryd.underlying26 gi.out gz0.out gz1.out gz2.out rfl (by decide) _ j (bl.take j) x rfl hr.out.1 rfl (by omega) hr.out.2.size ?_; intro v' w' hgr; have Hgr := Lib.hid hgr; clear hgr)
      go_roundw
      case rel => exact ⟨j + 1, by omega, by go_num, by rw [← Hmore.out]; exact ⟨Hgr.out.own, Hgr.out.low _ _ hr.out.2 (Nat.le_refl _)⟩⟩
      case measure => simp [intOf]; omega
    · have hge : ¬ (j : Int) < 64 := by omega
      have e64 : j = 64 := by omega
      have own := hr.out.1
      rw [e64, List.take_of_length_le (Nat.le_of_eq Hbl.out)] at own
      obtain ⟨g9, c9, rfl, _, hg9, hrow⟩ := own_rowK own Hbl.out (by decide)
      have Hrow := Lib.hid hrow
      have Lw9 := Lib.hid (L2.out.trans (hr.out.2.mono L2.out.size))
      have RN := Lib.hid ((hr.out.2.block _ (by rw [Sz2.out]; omega)).trans K2.out.1)
      have RB := Lib.hid ((hr.out.2.block _ (by rw [Sz2.out]; omega)).trans K2.out.2)
      clear own hrow hr K2 L2 e64 hj hlt
      obtain ⟨w9, hw9⟩ : ∃ w9, w9 = wr := ⟨_, rfl⟩
      subst hw9
      go_upto_region 6 with fail
      have apx : apartB [20, 21, 22, 23, 24, 25, 26, 27, 28, 29, 30, 31, 32, 33, 34, 35, 36, 37, 38, 39, 40, 41, 42, 43, 6] = true := by decide
      refine wp_region_any (by kernel_rfl) ?_
      change wpAny _ _ _ _ _ _ _ (World.drew _)
      refine wpAny_inv (fun ll aa wx => Hid (ll.size = 25 ∧ Below w9.heap.size w9 wx) ∧ ∃ (z : Nat → Value), Hid (aa = ⟨#[.agg (u32s S), .agg (u8s bl), .int .i64 n, .pointer (some ⟨w.heap.size, 0, none⟩), .pointer (some ⟨w.heap.size + 1, 0, none⟩), undef, z 6, .slice (some ⟨g9, 0, none⟩) 64 c9, .int .i64 (j : Nat), .slice (some ⟨W2.heap.size, 0, none⟩) 0 64, .int .i64 (j : Nat), .bool false, u12, u13, u14, u15, u16, u17, u18, u19, z 20, z 21, z 22, z 23, z 24, z 25, z 26, z 27, z 28, z 29, z 30, z 31, z 32, z 33, z 34, z 35, z 36, z 37, z 38, z 39, z 40, z 41, z 42, z 43], []⟩) ∧ Holding [20, 21, 22, 23, 24, 25, 26, 27, 28, 29, 30, 31, 32, 33, 34, 35, 36, 37, 38, 39, 40, 41, 42, 43, 6] [some (.agg (u32s S0.list)), some (.agg (u32s S0.list)), some (.bool true), some (.bool true), some (.agg (u32s S)), some (.agg (u8s bl)), some (.agg (u32s R)), some (.agg (u32s S)), some (.slice (some ⟨g9, 0, none⟩) 64 c9), some (.agg (u32s R)), some (.bool true), some (.bool true), some (.bool true), some (.int .i64 n), none, some (.string (strOfNums PB)), some (.int .i64 n), none, some (.string (strOfNums PB)), some (.bool true), some (.bool true), some (.bool true), some (.bool true), some (.bool true), some (.bool true)] ll z ∧ Whn ll 14 (SlB PB) (z 34) wx ∧ Whn ll 17 (SlB PB) (z 37) wx) ?_ (by kernel_rfl) ?_ ?_ _ _ _ _ (unlisted_none _) ?_
      · rintro ll aa wx ⟨hI, _⟩
        exact hI.out.1
      · rintro ll aa wx ⟨hI, z, ha, hz, hp14, hp17⟩ hall
        have hx := Lib.hid hI.out.2
        have e0 : z 20 = .agg (u32s S0.list) := hz 0 _ (hall 0 (by decide)) rfl
        have e1 : z 21 = .agg (u32s S0.list) := hz 1 _ (hall 1 (by decide)) rfl
        have e2 : z 22 = .bool true := hz 2 _ (hall 2 (by decide)) rfl
        have e3 : z 23 = .bool true := hz 3 _ (hall 3 (by decide)) rfl
        have e4 : z 24 = .agg (u32s S) := hz 4 _ (hall 4 (by decide)) rfl
        have e5 : z 25 = .agg (u8s bl) := hz 5 _ (hall 5 (by decide)) rfl
        have e6 : z 26 = .agg (u32s R) := hz 6 _ (hall 6 (by decide)) rfl
        have e7 : z 27 = .agg (u32s S) := hz 7 _ (hall 7 (by decide)) rfl
        have e8 : z 28 = .slice (some ⟨g9, 0, none⟩) 64 c9 := hz 8 _ (hall 8 (by decide)) rfl
        have e9 : z 29 = .agg (u32s R) := hz 9 _ (hall 9 (by decide)) rfl
        have e10 : z 30 = .bool true := hz 10 _ (hall 10 (by decide)) rfl
        have e11 : z 31 = .bool true := hz 11 _ (hall 11 (by decide)) rfl
        have e12 : z 32 = .bool true := hz 12 _ (hall 12 (by decide)) rfl
        have e13 : z 33 = .int .i64 n := hz 13 _ (hall 13 (by decide)) rfl
        have e15 : z 35 = .string (strOfNums PB) := hz 15 _ (hall 15 (by decide)) rfl
        have e16 : z 36 = .int .i64 n := hz 16 _ (hall 16 (by decide)) rfl
        have e18 : z 38 = .string (strOfNums PB) := hz 18 _ (hall 18 (by decide)) rfl
        have e19 : z 39 = .bool true := hz 19 _ (hall 19 (by decide)) rfl
        have e20 : z 40 = .bool true := hz 20 _ (hall 20 (by decide)) rfl
        have e21 : z 41 = .bool true := hz 21 _ (hall 21 (by decide)) rfl
        have e22 : z 42 = .bool true := hz 22 _ (hall 22 (by decide)) rfl
        have e23 : z 43 = .bool true := hz 23 _ (hall 23 (by decide)) rfl
        have e24 : z 6 = .bool true := hz 24 _ (hall 24 (by decide)) rfl
        have p14 := hp14.get (hall 14 (by decide))
        have p17 := hp17.get (hall 17 (by decide))
        clear hall hz hI hp14 hp17
        obtain rfl := ha.out
        clear ha
        clear apx
        have E := Lib.hid e24
        have HX := Lib.hid hx.out
        clear e0 e1 e2 e3 e4 e5 e6 e7 e8 e9 e10 e11 e12 e13 e15 e16 e18 e19 e20 e21 e22 e23 hx e24
        rw [E.out]
        go_wp2
        go_ret
        exact ⟨rfl, Lw9.out.trans (HX.out.mono Lw9.out.size)⟩
      · rintro ll aa wx i ⟨hI, z, ha, hz, hp14, hp17⟩ hi hu hw
        obtain rfl := ha.out
        have hsz := Lib.hid hI.out.1
        have hx := Lib.hid hI.out.2
        clear ha hI
        have hin : i < 25 := hi
        obtain rfl | rfl | rfl | rfl | rfl | rfl | rfl | rfl | rfl | rfl | rfl | rfl | rfl | rfl | rfl | rfl | rfl | rfl | rfl | rfl | rfl | rfl | rfl | rfl | rfl : i = 0 ∨ i = 1 ∨ i = 2 ∨ i = 3 ∨ i = 4 ∨ i = 5 ∨ i = 6 ∨ i = 7 ∨ i = 8 ∨ i = 9 ∨ i = 10 ∨ i = 11 ∨ i = 12 ∨ i = 13 ∨ i = 14 ∨ i = 15 ∨ i = 16 ∨ i = 17 ∨ i = 18 ∨ i = 19 ∨ i = 20 ∨ i = 21 ∨ i = 22 ∨ i = 23 ∨ i = 24 := by omega
        · refine wpOp_plain rfl rfl ?_
          go_simp
          go_at_call 8
          refine (start_any wx (HL.out.below (Lw9.out.trans (hx.out.mono Lw9.out.size)) Hsz.out)).mono ?_
          rintro e' w' ⟨rfl, low⟩
          exact ⟨⟨by simp [hsz.out], hx.out.trans (low.mono hx.out.size)⟩, upd z 20 (.agg (u32s S0.list)), (by unfold Hid; simp [upd]), hz.next apx hsz.out 0 (by decide) _ (fun _ h => Option.some.inj h), (hp14.keep (by decide)).map (fun h => h.later low), (hp17.keep (by decide)).map (fun h => h.later low)⟩
        · refine wpOp_plain rfl rfl ?_
          go_simp
          go_at_call 9
          refine (rstart_any wx).mono ?_
          rintro e' w' ⟨rfl, low⟩
          exact ⟨⟨by simp [hsz.out], hx.out.trans (low.mono hx.out.size)⟩, upd z 21 (.agg (u32s S0.list)), (by unfold Hid; simp [upd]), hz.next apx hsz.out 1 (by decide) _ (fun _ h => Option.some.inj h), (hp14.keep (by decide)).map (fun h => h.later low), (hp17.keep (by decide)).map (fun h => h.later low)⟩
        · have e0 : z 20 = .agg (u32s S0.list) := hz 0 _ (hw 0 (by kernel_rfl)) rfl
          have e1 : z 21 = .agg (u32s S0.list) := hz 1 _ (hw 1 (by kernel_rfl)) rfl
          have eq := eqW S0.list rfl wx
          have eq2 := eqW2 S0.list rfl wx
          refine wpOp_plain rfl rfl ?_
          go_simp
          exact ⟨⟨by simp [hsz.out], hx.out⟩, upd z 22 (.bool true), (by unfold Hid; simp [upd, e0, e1]), hz.next apx hsz.out 2 (by decide) _ (fun _ h => Option.some.inj h), hp14.keep (by decide), hp17.keep (by decide)⟩
        · have e2 : z 22 = .bool true := hz 2 _ (hw 2 (by kernel_rfl)) rfl
          refine wpOp_plain rfl rfl ?_
          go_simp
          exact ⟨⟨by simp [hsz.out], hx.out⟩, upd z 23 (.bool true), (by unfold Hid; simp [upd, e2]), hz.next apx hsz.out 3 (by decide) _ (fun _ h => Option.some.inj h), hp14.keep (by decide), hp17.keep (by decide)⟩
        · have e3 : z 23 = .bool true := hz 3 _ (hw 3 (by kernel_rfl)) rfl
          have cl := (hx.out.block _ (Array.getElem?_eq_some_iff.1 RN.out).1).trans RN.out
          refine wpOp_want rfl (by simp [Region.wanted, yielded, e3]) (wp_load_row 24 (.tmp 3) rfl (w.heap.size) rfl 24 (u32s S) (0, 0) _ cl Tryd.underlying24 rfl HSi.out ?_)
          go_simp
          exact ⟨⟨by simp [hsz.out], hx.out⟩, upd z 24 (.agg (u32s S)), (by unfold Hid; simp [upd, e3]), hz.next apx hsz.out 4 (by decide) _ (fun _ h => Option.some.inj h), hp14.keep (by decide), hp17.keep (by decide)⟩
        · have e3 : z 23 = .bool true := hz 3 _ (hw 3 (by kernel_rfl)) rfl
          have cl := (hx.out.block _ (Array.getElem?_eq_some_iff.1 RB.out).1).trans RB.out
          refine wpOp_want rfl (by simp [Region.wanted, yielded, e3]) (wp_load_row 25 (.tmp 4) rfl ((w.heap.size + 1)) rfl 25 (u8s bl) (0, 0) _ cl Tryd.underlying25 rfl HBi.out ?_)
          go_simp
          exact ⟨⟨by simp [hsz.out], hx.out⟩, upd z 25 (.agg (u8s bl)), (by unfold Hid; simp [upd, e3]), hz.next apx hsz.out 5 (by decide) _ (fun _ h => Option.some.inj h), hp14.keep (by decide), hp17.keep (by decide)⟩
        · have e3 : z 23 = .bool true := hz 3 _ (hw 3 (by kernel_rfl)) rfl
          have e4 : z 24 = .agg (u32s S) := hz 4 _ (hw 4 (by kernel_rfl)) rfl
          have e5 : z 25 = .agg (u8s bl) := hz 5 _ (hw 5 (by kernel_rfl)) rfl
          refine wpOp_want rfl (by simp [Region.wanted, yielded, e3]) ?_
          go_simp
          go_at_call 10
          refine (HM1.out wx (HL.out.below (Lw9.out.trans (hx.out.mono Lw9.out.size)) Hsz.out)).mono ?_
          rintro e' w' ⟨rfl, low⟩
          exact ⟨⟨by simp [hsz.out], hx.out.trans (low.mono hx.out.size)⟩, upd z 26 (.agg (u32s R)), (by unfold Hid; simp [upd, e3, e4, e5]), hz.next apx hsz.out 6 (by decide) _ (fun _ h => Option.some.inj h), (hp14.keep (by decide)).map (fun h => h.later low), (hp17.keep (by decide)).map (fun h => h.later low)⟩
        · have e3 : z 23 = .bool true := hz 3 _ (hw 3 (by kernel_rfl)) rfl
          have cl := (hx.out.block _ (Array.getElem?_eq_some_iff.1 RN.out).1).trans RN.out
          refine wpOp_want rfl (by simp [Region.wanted, yielded, e3]) (wp_load_row 24 (.tmp 3) rfl (w.heap.size) rfl 24 (u32s S) (0, 0) _ cl Tryd.underlying24 rfl HSi.out ?_)
          go_simp
          exact ⟨⟨by simp [hsz.out], hx.out⟩, upd z 27 (.agg (u32s S)), (by unfold Hid; simp [upd, e3]), hz.next apx hsz.out 7 (by decide) _ (fun _ h => Option.some.inj h), hp14.keep (by decide), hp17.keep (by decide)⟩
        · have e3 : z 23 = .bool true := hz 3 _ (hw 3 (by kernel_rfl)) rfl
          refine wpOp_want rfl (by simp [Region.wanted, yielded, e3]) ?_
          go_simp
          exact ⟨⟨by simp [hsz.out], hx.out⟩, upd z 28 (.slice (some ⟨g9, 0, none⟩) 64 c9), (by unfold Hid; simp [upd, e3]), hz.next apx hsz.out 8 (by decide) _ (fun _ h => Option.some.inj h), hp14.keep (by decide), hp17.keep (by decide)⟩
        · have e3 : z 23 = .bool true := hz 3 _ (hw 3 (by kernel_rfl)) rfl
          have e7 : z 27 = .agg (u32s S) := hz 7 _ (hw 7 (by kernel_rfl)) rfl
          have e8 : z 28 = .slice (some ⟨g9, 0, none⟩) 64 c9 := hz 8 _ (hw 8 (by kernel_rfl)) rfl
          refine wpOp_want rfl (by simp [Region.wanted, yielded, e3]) ?_
          go_simp
          go_at_call 11
          refine (HM2.out wx g9 c9 (Hrow.out.later hx.out)).mono ?_
          rintro e' w' ⟨rfl, low⟩
          exact ⟨⟨by simp [hsz.out], hx.out.trans (low.mono hx.out.size)⟩, upd z 29 (.agg (u32s R)), (by unfold Hid; simp [upd, e3, e7, e8]), hz.next apx hsz.out 9 (by decide) _ (fun _ h => Option.some.inj h), (hp14.keep (by decide)).map (fun h => h.later low), (hp17.keep (by decide)).map (fun h => h.later low)⟩
        · have e3 : z 23 = .bool true := hz 3 _ (hw 3 (by kernel_rfl)) rfl
          have e6 : z 26 = .agg (u32s R) := hz 6 _ (hw 6 (by kernel_rfl)) rfl
          have e9 : z 29 = .agg (u32s R) := hz 9 _ (hw 9 (by kernel_rfl)) rfl
          have eq := eqW R HR8.out wx
          have eq2 := eqW2 R HR8.out wx
          refine wpOp_want rfl (by simp [Region.wanted, yielded, e3]) ?_
          go_simp
          exact ⟨⟨by simp [hsz.out], hx.out⟩, upd z 30 (.bool true), (by unfold Hid; simp [upd, e3, e6, e9]), hz.next apx hsz.out 10 (by decide) _ (fun _ h => Option.some.inj h), hp14.keep (by decide), hp17.keep (by decide)⟩
        · have e3 : z 23 = .bool true := hz 3 _ (hw 3 (by kernel_rfl)) rfl
          have e10 : z 30 = .bool true := hz 10 _ (hw 10 (by kernel_rfl)) rfl
          refine wpOp_plain rfl rfl ?_
          go_simp
          exact ⟨⟨by simp [hsz.out], hx.out⟩, upd z 31 (.bool true), (by unfold Hid; simp [upd, e3, e10]), hz.next apx hsz.out 11 (by decide) _ (fun _ h => Option.some.inj h), hp14.keep (by decide), hp17.keep (by decide)⟩
        · have e11 : z 31 = .bool true := hz 11 _ (hw 11 (by kernel_rfl)) rfl
          refine wpOp_plain rfl rfl ?_
          go_simp
          exact ⟨⟨by simp [hsz.out], hx.out⟩, upd z 32 (.bool true), (by unfold Hid; simp [upd, e11]), hz.next apx hsz.out 12 (by decide) _ (fun _ h => Option.some.inj h), hp14.keep (by decide), hp17.keep (by decide)⟩
        · have e12 : z 32 = .bool true := hz 12 _ (hw 12 (by kernel_rfl)) rfl
          refine wpOp_want rfl (by simp [Region.wanted, yielded, e12]) ?_
          go_simp
          exact ⟨⟨by simp [hsz.out], hx.out⟩, upd z 33 (.int .i64 n), (by unfold Hid; simp [upd, e12]), hz.next apx hsz.out 13 (by decide) _ (fun _ h => Option.some.inj h), hp14.keep (by decide), hp17.keep (by decide)⟩
        · have e12 : z 32 = .bool true := hz 12 _ (hw 12 (by kernel_rfl)) rfl
          have e13 : z 33 = .int .i64 n := hz 13 _ (hw 13 (by kernel_rfl)) rfl
          refine wpOp_want rfl (by simp [Region.wanted, yielded, e12]) ?_
          go_simp
          go_at_call 12
          refine (H1.out wx (Lw9.out.trans (hx.out.mono Lw9.out.size))).mono ?_
          rintro e' w' ⟨vr, rfl, sl, low⟩
          exact ⟨⟨by simp [hsz.out], hx.out.trans (low.mono hx.out.size)⟩, upd z 34 (vr), (by unfold Hid; simp [upd, e12, e13]), hz.next apx hsz.out 14 (by decide) _ (fun _ h => by cases h), Whn.done (sl), (hp17.keep (by decide)).map (fun h => h.later low)⟩
        · have e12 : z 32 = .bool true := hz 12 _ (hw 12 (by kernel_rfl)) rfl
          have p14 := hp14.get (hw 14 (by kernel_rfl))
          obtain ⟨A9, c8, e14, b9⟩ := p14
          have cv := Str.conv_any b9 rfl
          refine wpOp_want rfl (by simp [Region.wanted, yielded, e12]) ?_
          go_simp
          exact ⟨⟨by simp [hsz.out], hx.out⟩, upd z 35 (.string (strOfNums PB)), (by unfold Hid; simp [upd, e12, e14]), hz.next apx hsz.out 15 (by decide) _ (fun _ h => Option.some.inj h), hp14.keep (by decide), hp17.keep (by decide)⟩
        · have e12 : z 32 = .bool true := hz 12 _ (hw 12 (by kernel_rfl)) rfl
          refine wpOp_want rfl (by simp [Region.wanted, yielded, e12]) ?_
          go_simp
          exact ⟨⟨by simp [hsz.out], hx.out⟩, upd z 36 (.int .i64 n), (by unfold Hid; simp [upd, e12]), hz.next apx hsz.out 16 (by decide) _ (fun _ h => Option.some.inj h), hp14.keep (by decide), hp17.keep (by decide)⟩
        · have e12 : z 32 = .bool true := hz 12 _ (hw 12 (by kernel_rfl)) rfl
          have e16 : z 36 = .int .i64 n := hz 16 _ (hw 16 (by kernel_rfl)) rfl
          refine wpOp_want rfl (by simp [Region.wanted, yielded, e12]) ?_
          go_simp
          go_at_call 13
          refine (H2.out wx (Lw9.out.trans (hx.out.mono Lw9.out.size))).mono ?_
          rintro e' w' ⟨vr, rfl, sl, low⟩
          exact ⟨⟨by simp [hsz.out], hx.out.trans (low.mono hx.out.size)⟩, upd z 37 (vr), (by unfold Hid; simp [upd, e12, e16]), hz.next apx hsz.out 17 (by decide) _ (fun _ h => by cases h), (hp14.keep (by decide)).map (fun h => h.later low), Whn.done (sl)⟩
        · have e12 : z 32 = .bool true := hz 12 _ (hw 12 (by kernel_rfl)) rfl
          have p17 := hp17.get (hw 17 (by kernel_rfl))
          obtain ⟨A9, c8, e17, b9⟩ := p17
          have cv := Str.conv_any b9 rfl
          refine wpOp_want rfl (by simp [Region.wanted, yielded, e12]) ?_
          go_simp
          exact ⟨⟨by simp [hsz.out], hx.out⟩, upd z 38 (.string (strOfNums PB)), (by unfold Hid; simp [upd, e12, e17]), hz.next apx hsz.out 18 (by decide) _ (fun _ h => Option.some.inj h), hp14.keep (by decide), hp17.keep (by decide)⟩
        · have e12 : z 32 = .bool true := hz 12 _ (hw 12 (by kernel_rfl)) rfl
          have e15 : z 35 = .string (strOfNums PB) := hz 15 _ (hw 15 (by kernel_rfl)) rfl
          have e18 : z 38 = .string (strOfNums PB) := hz 18 _ (hw 18 (by kernel_rfl)) rfl
          refine wpOp_want rfl (by simp [Region.wanted, yielded, e12]) ?_
          go_simp
          exact ⟨⟨by simp [hsz.out], hx.out⟩, upd z 39 (.bool true), (by unfold Hid; simp [upd, e12, e15, e18]), hz.next apx hsz.out 19 (by decide) _ (fun _ h => Option.some.inj h), hp14.keep (by decide), hp17.keep (by decide)⟩
        · have e12 : z 32 = .bool true := hz 12 _ (hw 12 (by kernel_rfl)) rfl
          have e19 : z 39 = .bool true := hz 19 _ (hw 19 (by kernel_rfl)) rfl
          refine wpOp_plain rfl rfl ?_
          go_simp
          exact ⟨⟨by simp [hsz.out], hx.out⟩, upd z 40 (.bool true), (by unfold Hid; simp [upd, e12, e19]), hz.next apx hsz.out 20 (by decide) _ (fun _ h => Option.some.inj h), hp14.keep (by decide), hp17.keep (by decide)⟩
        · have e20 : z 40 = .bool true := hz 20 _ (hw 20 (by kernel_rfl)) rfl
          refine wpOp_plain rfl rfl ?_
          go_simp
          exact ⟨⟨by simp [hsz.out], hx.out⟩, upd z 41 (.bool true), (by unfold Hid; simp [upd, e20]), hz.next apx hsz.out 21 (by decide) _ (fun _ h => Option.some.inj h), hp14.keep (by decide), hp17.keep (by decide)⟩
        · have e21 : z 41 = .bool true := hz 21 _ (hw 21 (by kernel_rfl)) rfl
          refine wpOp_want rfl (by simp [Region.wanted, yielded, e21]) ?_
          go_simp
          go_at_call 14
          refine (awake_any wx (HL.out.below (Lw9.out.trans (hx.out.mono Lw9.out.size)) Hsz.out)).mono ?_
          rintro e' w' ⟨rfl, low⟩
          exact ⟨⟨by simp [hsz.out], hx.out.trans (low.mono hx.out.size)⟩, upd z 42 (.bool true), (by unfold Hid; simp [upd, e21]), hz.next apx hsz.out 22 (by decide) _ (fun _ h => Option.some.inj h), (hp14.keep (by decide)).map (fun h => h.later low), (hp17.keep (by decide)).map (fun h => h.later low)⟩
        · have e21 : z 41 = .bool true := hz 21 _ (hw 21 (by kernel_rfl)) rfl
          have e22 : z 42 = .bool true := hz 22 _ (hw 22 (by kernel_rfl)) rfl
          refine wpOp_plain rfl rfl ?_
          go_simp
          exact ⟨⟨by simp [hsz.out], hx.out⟩, upd z 43 (.bool true), (by unfold Hid; simp [upd, e21, e22]), hz.next apx hsz.out 23 (by decide) _ (fun _ h => Option.some.inj h), hp14.keep (by decide), hp17.keep (by decide)⟩
        · have e23 : z 43 = .bool true := hz 23 _ (hw 23 (by kernel_rfl)) rfl
          refine wpOp_plain rfl rfl ?_
          go_simp
          exact ⟨⟨by simp [hsz.out], hx.out⟩, upd z 6 (.bool true), (by unfold Hid; simp [upd, e23]), hz.next apx hsz.out 24 (by decide) _ (fun _ h => Option.some.inj h), hp14.keep (by decide), hp17.keep (by decide)⟩
      · exact ⟨⟨rfl, (Below.refl _ _).drew⟩, fun xx => (#[.agg (u32s S), .agg (u8s bl), .int .i64 n, .pointer (some ⟨w.heap.size, 0, none⟩), .pointer (some ⟨w.heap.size + 1, 0, none⟩), undef, .bool false, .slice (some ⟨g9, 0, none⟩) 64 c9, .int .i64 (j : Nat), .slice (some ⟨W2.heap.size, 0, none⟩) 0 64, .int .i64 (j : Nat), .bool false, u12, u13, u14, u15, u16, u17, u18, u19, undef, undef, undef, undef, undef, undef, undef, undef, undef, undef, undef, undef, undef, undef, undef, undef, undef, undef, undef, undef, undef, undef, undef, undef] : Array Value).getD xx undef, rfl, Holding.start, Whn.none (by decide), Whn.none (by decide)⟩
end Go.Proofs.YtblgblhoolpmiaaDoor.lawMixes
