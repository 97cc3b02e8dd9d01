/- DERIVED. The reference's Same of two tables. -/
import Derived.Test.YtmbcojpdigoojaaDoorRulRefA
import Derived.Test.YtmbcojpdigoojaaDoorRegionFix
import Derived.Test.YtmbcojpdigoojaaDoorSlUntil
import Derived.Deep.MidRow
namespace Go.Proofs.YtmbcojpdigoojaaDoor.Rul
open Go.RowKit Lab Pth
set_option maxRecDepth 100000 in
set_option maxHeartbeats 2000000 in
theorem rsame_yes (v : Int) (A B : Option Addr) (n c d : Nat) (rs : List Rl) (w : World) (hn : rs.length = n) (hR : Ruls w A c rs) (hU : Ruls w B d rs) (hn9 : n ≤ 1000) :
    Calls Tryd.prog 10 #[.agg (tabV v A n c), .agg (tabV v B n d)] w fun e w' => e = .returned (.bool true) ∧ Below w.heap.size w w' := by
  have Hn := Lib.hid hn
  have h2 := two_new w (.cells (tabV v A n c) 34) (.cells (tabV v B n d) 34)
  have k2 : Below w.heap.size w ((w.alloc (.cells (tabV v A n c) 34)).alloc (.cells (tabV v B n d) 34)) := ((Below.refl _ _).alloc (Nat.le_refl _) _).alloc (by rw [World.size_alloc]; omega) _
  obtain ⟨W2, hW2⟩ : ∃ W2, W2 = (w.alloc (.cells (tabV v A n c) 34)).alloc (.cells (tabV v B n d) 34) := ⟨_, rfl⟩
  rw [← hW2] at h2 k2
  have HW2 : Hid ((w.alloc (.cells (tabV v A n c) 34)).alloc (.cells (tabV v B n d) 34) = W2) := hW2.symm
  have c0 := cell_row h2.1 0
  have c1 := cell_row h2.1 1
  have d0 := cell_row h2.2 0
  have d1 := cell_row h2.2 1
  simp only [List.getElem?_toArray, List.getElem?_cons_zero, List.getElem?_cons_succ] at c0 c1 d0 d1
  have K2 := Lib.hid k2
  have HR := Lib.hid (hR.below k2 (Nat.le_refl _))
  have HU := Lib.hid (hU.below k2 (Nat.le_refl _))
  clear hn hR hU h2 k2 hW2
  go_enter Tryd.func10, Tryd.ntmps10
  go_upto_region 1 with fail
  rw [HW2.out]
  clear HW2
  go_wp2
  have C0 := Lib.hid c0
  have C1 := Lib.hid c1
  have D0 := Lib.hid d0
  have D1 := Lib.hid d1
  have h1 := Nat.lt_of_lt_of_le (Nat.lt_succ_self _) (Nat.le_refl (w.heap.size + 1))
  clear c0 c1 d0 d1
  go_loopw [5] (fun i wr => ∃ k : Nat, k ≤ n ∧ i = .int .i64 k ∧ Hid (Below W2.heap.size W2 wr)) (fun i _ => n - (intOf i).toNat)
  case atStart => exact ⟨0, by omega, rfl, Below.refl _ _⟩
  case round =>
    obtain ⟨k, hk, rfl, hlow⟩ := hrel
    have c1 := (hlow.out.cell (p := ⟨w.heap.size, 1, none⟩) (World.block_lt_of_cell? _ _ C1.out)).trans C1.out
    have d1 := (hlow.out.cell (p := ⟨w.heap.size + 1, 1, none⟩) (World.block_lt_of_cell? _ _ D1.out)).trans D1.out
    by_cases hlt : k < n
    · have hltI : (k : Int) < n := by omega
      obtain ⟨r, hr⟩ : ∃ r, rs[k]? = some r := ⟨_, List.getElem?_eq_getElem (by have := Hn.out; omega)⟩
      obtain ⟨b1, o1, hA, hb1, g1⟩ := HR.out.at hr
      obtain ⟨b2, o2, hB, hb2, g2⟩ := HU.out.at hr
      have R1 : Hid (wr.rangeAt b1 (o1 + k * 3) (rlc r).toList) := fun j u hu => (hlow.out.cell (p := ⟨b1, o1 + k * 3 + j, none⟩) hb1).trans (g1 j u hu)
      have R2 : Hid (wr.rangeAt b2 (o2 + k * 3) (rlc r).toList) := fun j u hu => (hlow.out.cell (p := ⟨b2, o2 + k * 3 + j, none⟩) hb2).trans (g2 j u hu)
      have B1 := Lib.hid (Nat.lt_of_lt_of_le hb1 hlow.out.size)
      have B2 := Lib.hid (Nat.lt_of_lt_of_le hb2 hlow.out.size)
      have hcap1 : n ≤ c := by have := HR.out.1; have := Hn.out; omega
      have hcap2 : n ≤ d := by have := HU.out.1; have := Hn.out; omega
      subst hA
      subst hB
      clear hr g1 g2 hb1 hb2
      go_upto_region 6 with fail
      have F1 := Lib.hid c1
      have F2 := Lib.hid d1
      have apx : apartB [27, 28, 29, 30, 31, 32, 33, 34, 35, 36, 37] = true := by decide
      refine wp_region_any (by kernel_rfl) ?_
      change wpAny _ _ _ _ _ _ _ (World.drew _)
      refine wpAny_inv (fun ll aa wx => Hid (ll.size = 11 ∧ Below wr.heap.size wr wx) ∧ ∃ (z : Nat → Value), Hid (aa = ⟨#[.agg (tabV v (some ⟨b1, o1, none⟩) n c), .agg (tabV v (some ⟨b2, o2, none⟩) n d), .pointer (some ⟨w.heap.size, 0, none⟩), .pointer (some ⟨w.heap.size + 1, 0, none⟩), u4, .int .i64 k, .pointer (some ⟨w.heap.size, 0, none⟩), .int .i64 v, .pointer (some ⟨w.heap.size + 1, 0, none⟩), .int .i64 v, .bool false, .bool false, .pointer (some ⟨w.heap.size, 1, none⟩), .slice (some ⟨b1, o1, none⟩) n c, .int .i64 n, .pointer (some ⟨w.heap.size + 1, 1, none⟩), .slice (some ⟨b2, o2, none⟩) n d, .int .i64 n, .bool false, .bool false, .int .i64 k, .pointer (some ⟨w.heap.size, 1, none⟩), .slice (some ⟨b1, o1, none⟩) n c, .int .i64 n, .bool true, u25, u26, z 27, z 28, z 29, z 30, z 31, z 32, z 33, z 34, z 35, z 36, z 37], []⟩) ∧ Holding [27, 28, 29, 30, 31, 32, 33, 34, 35, 36, 37] [some (.pointer (some ⟨w.heap.size, 1, none⟩)), some (.slice (some ⟨b1, o1, none⟩) n c), some (.int .i64 k), some (.pointer (some ⟨b1, o1 + k * 3, none⟩)), some (.agg (rlc r)), some (.pointer (some ⟨w.heap.size + 1, 1, none⟩)), some (.slice (some ⟨b2, o2, none⟩) n d), some (.int .i64 k), some (.pointer (some ⟨b2, o2 + k * 3, none⟩)), some (.agg (rlc r)), some (.bool false)] ll z) ?_ (by kernel_rfl) ?_ ?_ _ _ _ _ (unlisted_none _) ?_
      · rintro ll aa wx ⟨hI, _⟩
        exact hI.out.1
      · rintro ll aa wx ⟨hI, z, ha, hz⟩ hall
        have hx := Lib.hid hI.out.2
        have e0 : z 27 = .pointer (some ⟨w.heap.size, 1, none⟩) := hz 0 _ (hall 0 (by decide)) rfl
        have e1 : z 28 = .slice (some ⟨b1, o1, none⟩) n c := hz 1 _ (hall 1 (by decide)) rfl
        have e2 : z 29 = .int .i64 k := hz 2 _ (hall 2 (by decide)) rfl
        have e3 : z 30 = .pointer (some ⟨b1, o1 + k * 3, none⟩) := hz 3 _ (hall 3 (by decide)) rfl
        have e4 : z 31 = .agg (rlc r) := hz 4 _ (hall 4 (by decide)) rfl
        have e5 : z 32 = .pointer (some ⟨w.heap.size + 1, 1, none⟩) := hz 5 _ (hall 5 (by decide)) rfl
        have e6 : z 33 = .slice (some ⟨b2, o2, none⟩) n d := hz 6 _ (hall 6 (by decide)) rfl
        have e7 : z 34 = .int .i64 k := hz 7 _ (hall 7 (by decide)) rfl
        have e8 : z 35 = .pointer (some ⟨b2, o2 + k * 3, none⟩) := hz 8 _ (hall 8 (by decide)) rfl
        have e9 : z 36 = .agg (rlc r) := hz 9 _ (hall 9 (by decide)) rfl
        have e10 : z 37 = .bool false := hz 10 _ (hall 10 (by decide)) rfl
        clear hall hz hI 
        obtain rfl := ha.out
        clear ha
        clear apx
        have E := Lib.hid e10
        have HX := Lib.hid (hlow.out.trans (hx.out.mono hlow.out.size))
        clear e0 e1 e2 e3 e4 e5 e6 e7 e8 e9 e10 hx
        dsimp only
        rw [E.out]
        go_wp2
        go_roundw
        case rel => exact ⟨k + 1, by omega, by go_num, HX.out⟩
        case measure => simp [intOf]; omega
      · rintro ll aa wx i ⟨hI, z, ha, hz⟩ hi hu hw
        obtain rfl := ha.out
        have hsz := Lib.hid hI.out.1
        have hx := Lib.hid hI.out.2
        clear ha hI
        have hin : i < 11 := hi
        obtain rfl | rfl | rfl | rfl | rfl | rfl | rfl | rfl | rfl | rfl | rfl : i = 0 ∨ i = 1 ∨ i = 2 ∨ i = 3 ∨ i = 4 ∨ i = 5 ∨ i = 6 ∨ i = 7 ∨ i = 8 ∨ i = 9 ∨ i = 10 := by omega
        · refine wpOp_plain rfl rfl ?_
          go_simp
          exact ⟨⟨by simp [hsz.out], hx.out⟩, upd z 27 (.pointer (some ⟨w.heap.size, 1, none⟩)), (by unfold Hid; simp [upd]), hz.next apx hsz.out 0 (by decide) _ (fun _ h => Option.some.inj h)⟩
        · have e0 : z 27 = .pointer (some ⟨w.heap.size, 1, none⟩) := hz 0 _ (hw 0 (by kernel_rfl)) rfl
          have cl : wx.cell? ⟨w.heap.size, 1, none⟩ = some (.slice (some ⟨b1, o1, none⟩) n c) := (hx.out.cell (p := ⟨w.heap.size, 1, none⟩) (World.block_lt_of_cell? _ _ F1.out)).trans F1.out
          refine wpOp_plain rfl rfl ?_
          go_simp
          exact ⟨⟨by simp [hsz.out], hx.out⟩, upd z 28 (.slice (some ⟨b1, o1, none⟩) n c), (by unfold Hid; simp [upd, e0]), hz.next apx hsz.out 1 (by decide) _ (fun _ h => Option.some.inj h)⟩
        · refine wpOp_plain rfl rfl ?_
          go_simp
          exact ⟨⟨by simp [hsz.out], hx.out⟩, upd z 29 (.int .i64 k), (by unfold Hid; simp [upd]), hz.next apx hsz.out 2 (by decide) _ (fun _ h => Option.some.inj h)⟩
        · have e1 : z 28 = .slice (some ⟨b1, o1, none⟩) n c := hz 1 _ (hw 1 (by kernel_rfl)) rfl
          have e2 : z 29 = .int .i64 k := hz 2 _ (hw 2 (by kernel_rfl)) rfl
          refine wpOp_plain rfl rfl ?_
          go_simp
          exact ⟨⟨by simp [hsz.out], hx.out⟩, upd z 30 (.pointer (some ⟨b1, o1 + k * 3, none⟩)), (by unfold Hid; simp [upd, e1, e2]), hz.next apx hsz.out 3 (by decide) _ (fun _ h => Option.some.inj h)⟩
        · have e3 : z 30 = .pointer (some ⟨b1, o1 + k * 3, none⟩) := hz 3 _ (hw 3 (by kernel_rfl)) rfl
          have rg : wx.rangeAt b1 (o1 + k * 3) (rlc r).toList := fun j u hu => (hx.out.cell (p := ⟨b1, o1 + k * 3 + j, none⟩) B1.out).trans (R1.out j u hu)
          refine wpOp_plain rfl rfl (wp_load_mid 40 (.tmp 30) rfl b1 (o1 + k * 3) (e3) (rlc r).toList _ rg Tryd.underlying40 rfl infoR2 ?_)
          go_simp
          exact ⟨⟨by simp [hsz.out], hx.out⟩, upd z 31 (.agg (rlc r)), (by unfold Hid; simp [upd, e3]), hz.next apx hsz.out 4 (by decide) _ (fun _ h => Option.some.inj h)⟩
        · refine wpOp_plain rfl rfl ?_
          go_simp
          exact ⟨⟨by simp [hsz.out], hx.out⟩, upd z 32 (.pointer (some ⟨w.heap.size + 1, 1, none⟩)), (by unfold Hid; simp [upd]), hz.next apx hsz.out 5 (by decide) _ (fun _ h => Option.some.inj h)⟩
        · have e5 : z 32 = .pointer (some ⟨w.heap.size + 1, 1, none⟩) := hz 5 _ (hw 5 (by kernel_rfl)) rfl
          have cl : wx.cell? ⟨w.heap.size + 1, 1, none⟩ = some (.slice (some ⟨b2, o2, none⟩) n d) := (hx.out.cell (p := ⟨w.heap.size + 1, 1, none⟩) (World.block_lt_of_cell? _ _ F2.out)).trans F2.out
          refine wpOp_plain rfl rfl ?_
          go_simp
          exact ⟨⟨by simp [hsz.out], hx.out⟩, upd z 33 (.slice (some ⟨b2, o2, none⟩) n d), (by unfold Hid; simp [upd, e5]), hz.next apx hsz.out 6 (by decide) _ (fun _ h => Option.some.inj h)⟩
        · refine wpOp_plain rfl rfl ?_
          go_simp
          exact ⟨⟨by simp [hsz.out], hx.out⟩, upd z 34 (.int .i64 k), (by unfold Hid; simp [upd]), hz.next apx hsz.out 7 (by decide) _ (fun _ h => Option.some.inj h)⟩
        · have e6 : z 33 = .slice (some ⟨b2, o2, none⟩) n d := hz 6 _ (hw 6 (by kernel_rfl)) rfl
          have e7 : z 34 = .int .i64 k := hz 7 _ (hw 7 (by kernel_rfl)) rfl
          refine wpOp_plain rfl rfl ?_
          go_simp
          exact ⟨⟨by simp [hsz.out], hx.out⟩, upd z 35 (.pointer (some ⟨b2, o2 + k * 3, none⟩)), (by unfold Hid; simp [upd, e6, e7]), hz.next apx hsz.out 8 (by decide) _ (fun _ h => Option.some.inj h)⟩
        · have e8 : z 35 = .pointer (some ⟨b2, o2 + k * 3, none⟩) := hz 8 _ (hw 8 (by kernel_rfl)) rfl
          have rg : wx.rangeAt b2 (o2 + k * 3) (rlc r).toList := fun j u hu => (hx.out.cell (p := ⟨b2, o2 + k * 3 + j, none⟩) B2.out).trans (R2.out j u hu)
          refine wpOp_plain rfl rfl (wp_load_mid 40 (.tmp 35) rfl b2 (o2 + k * 3) (e8) (rlc r).toList _ rg Tryd.underlying40 rfl infoR2 ?_)
          go_simp
          exact ⟨⟨by simp [hsz.out], hx.out⟩, upd z 36 (.agg (rlc r)), (by unfold Hid; simp [upd, e8]), hz.next apx hsz.out 9 (by decide) _ (fun _ h => Option.some.inj h)⟩
        · have e4 : z 31 = .agg (rlc r) := hz 4 _ (hw 4 (by kernel_rfl)) rfl
          have e9 : z 36 = .agg (rlc r) := hz 9 _ (hw 9 (by kernel_rfl)) rfl
          refine wpOp_plain rfl rfl ?_
          go_simp
          exact ⟨⟨by simp [hsz.out], hx.out⟩, upd z 37 (.bool false), (by unfold Hid; simp [upd, e4, e9]), hz.next apx hsz.out 10 (by decide) _ (fun _ h => Option.some.inj h)⟩
      · exact ⟨⟨rfl, (Below.refl _ _).drew⟩, fun xx => (#[.agg (tabV v (some ⟨b1, o1, none⟩) n c), .agg (tabV v (some ⟨b2, o2, none⟩) n d), .pointer (some ⟨w.heap.size, 0, none⟩), .pointer (some ⟨w.heap.size + 1, 0, none⟩), u4, .int .i64 k, .pointer (some ⟨w.heap.size, 0, none⟩), .int .i64 v, .pointer (some ⟨w.heap.size + 1, 0, none⟩), .int .i64 v, .bool false, .bool false, .pointer (some ⟨w.heap.size, 1, none⟩), .slice (some ⟨b1, o1, none⟩) n c, .int .i64 n, .pointer (some ⟨w.heap.size + 1, 1, none⟩), .slice (some ⟨b2, o2, none⟩) n d, .int .i64 n, .bool false, .bool false, .int .i64 k, .pointer (some ⟨w.heap.size, 1, none⟩), .slice (some ⟨b1, o1, none⟩) n c, .int .i64 n, .bool true, u25, u26, u27, u28, u29, u30, u31, u32, u33, u34, u35, u36, u37] : Array Value).getD xx undef, (by rfl), Holding.start⟩
    · have hge : ¬ (k : Int) < n := by omega
      go_wp2
      go_ret
      exact ⟨rfl, K2.out.trans (hlow.out.mono K2.out.size)⟩
end Go.Proofs.YtmbcojpdigoojaaDoor.Rul
