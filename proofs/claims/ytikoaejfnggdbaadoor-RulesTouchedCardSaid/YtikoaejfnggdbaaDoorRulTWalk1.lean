/- DERIVED. The walk of RulesTouched, a path. Written by mktouchlaw.py. -/
import Derived.Test.YtikoaejfnggdbaaDoorRulTHead
namespace Go.Proofs.YtikoaejfnggdbaaDoor.Rul
open Go.RowKit Lab Pth
set_option maxRecDepth 100000 in
set_option maxHeartbeats 20000000 in
theorem touched_walk1 (v : Int) (A : Option Addr) (n c : Nat) (rs : List Rl) (q s : ByteArray) (w : World) (hn : rs.length = n) (hR : Ruls w A c rs) (hL : Laid w) (hq0 : ¬ q.data.toList = []) (hc : Pth.chk q = 0) :
    Calls Tryd.prog 5 #[.agg (tabV v A n c), .string q, .string s] w fun e w' => e = .returned (.bool true) ∧ Below w.heap.size w w' := by
  have Hn := Lib.hid hn
  have HR := Lib.hid hR
  have HL := Lib.hid hL
  have h1 := Go.heap_alloc_new w (.cells (tabV v A n c) 24)
  have k1 : Below w.heap.size w (w.alloc (.cells (tabV v A n c) 24)) := (Below.refl _ _).alloc (Nat.le_refl _) _
  obtain ⟨W1, hW1⟩ : ∃ W1, W1 = w.alloc (.cells (tabV v A n c) 24) := ⟨_, rfl⟩
  rw [← hW1] at h1 k1
  have HW1 : Hid (w.alloc (.cells (tabV v A n c) 24) = W1) := hW1.symm
  have H1 := Lib.hid h1
  have K1 := Lib.hid k1
  have HAw := Lib.hid (fun W (hb : Below w.heap.size w W) => awake_any W (hL.below hb (Nat.le_refl _)))
  clear hn hR hL h1 k1 hW1
  go_enter Tryd.func5, Tryd.ntmps5
  go_upto_region 1 with fail
  rw [HW1.out]
  obtain ⟨tb, htb⟩ : ∃ tb, tb = w.heap.size := ⟨_, rfl⟩
  rw [← htb] at H1 ⊢
  clear htb
  go_wp2_with (refine wpList_load_row rfl 24 (.tmp 3) rfl tb rfl 24 (tabV v A n c) (0, 0) _ H1.out Tryd.underlying24 rfl infoT ?_)
  refine (large_any v A n c rs s W1 Hn.out (HR.out.below K1.out (Nat.le_refl _))).mono ?_
  rintro e w2 ⟨⟨z, rfl, hz⟩, low2⟩
  have Low2 := Lib.hid (K1.out.trans (low2.mono K1.out.size))
  have H2 := Lib.hid ((low2.block _ (Array.getElem?_eq_some_iff.1 H1.out).1).trans H1.out)
  clear low2
  cases z with
  | true =>
    clear hz
    go_wp2_with (go_at_call 7; refine (HAw.out w2 Low2.out).mono ?_; rintro e w3 ⟨rfl, low3⟩; have Low3 := Lib.hid (Low2.out.trans (low3.mono Low2.out.size)); clear low3)
    go_ret
    exact ⟨rfl, Low3.out⟩
  | false =>
    have HS := Lib.hid (hz rfl)
    clear hz
    by_cases hq2 : 200 < q.size
    · have hq2I : (200 : Int) < q.size := by omega
      go_wp2_with (go_at_call 7; refine (HAw.out w2 Low2.out).mono ?_; rintro e w3 ⟨rfl, low3⟩; have Low3 := Lib.hid (Low2.out.trans (low3.mono Low2.out.size)); clear low3)
      go_ret
      exact ⟨rfl, Low3.out⟩
    · have hq2I : ¬ (200 : Int) < q.size := by omega
      have hql : (q.toList == []) = false := by rw [Lib.toList_data]; simpa using hq0
      have HP := Lib.hid (fun W (hb : Below w.heap.size w W) => Pth.check_any q W (HL.out.below hb (Nat.le_refl _)) (by omega))
      rw [hc] at HP
      go_upto_region 3 with (go_at_call 16; refine (HP.out w2 Low2.out).mono ?_; rintro e w3 ⟨rfl, low3⟩; have H3 := Lib.hid ((low3.block _ (Array.getElem?_eq_some_iff.1 H2.out).1).trans H2.out); have Low3 := Lib.hid (Low2.out.trans (low3.mono Low2.out.size)); clear low3)
      clear H2 Low2
      go_upto_region 5 with (first
        | (refine wpList_load_row rfl 24 (.tmp 3) rfl tb rfl 24 (tabV v A n c) (0, 0) _ H3.out Tryd.underlying24 rfl infoT ?_)
        | (go_at_call 17; refine (touched_any v A n c rs q w w3 Hn.out HR.out Low3.out (HL.out.below Low3.out (Nat.le_refl _)) (fun r hr => by have := HS.out.2.1 r hr; omega) (by omega) (by have := HS.out.1; have := Hn.out; omega)).mono ?_; rintro e w4 ⟨u, rfl, own, low4⟩; have hmax := OwnL.max own; obtain ⟨A2, c2, rfl, hlabs⟩ := OwnL.labs own; have Hlabs := Lib.hid hlabs; have Hmax := Lib.hid hmax; have Low4 := Lib.hid (Low3.out.trans (low4.mono Low3.out.size)); have H4 := Lib.hid ((low4.block _ (Array.getElem?_eq_some_iff.1 H3.out).1).trans H3.out); clear own low4 hlabs hmax)
        | (go_at_call 14; refine (over_any q s w4 (HL.out.below Low4.out (Nat.le_refl _)) (by omega) (by have := HS.out.2.2.1; omega)).mono ?_; rintro e w5 ⟨rfl, low5⟩; have Hlabs5 := Lib.hid (Labs.below Hlabs.out low5 (Nat.le_refl _)); have Low5 := Lib.hid (Low4.out.trans (low5.mono Low4.out.size)); have H5 := Lib.hid ((low5.block _ (Array.getElem?_eq_some_iff.1 H4.out).1).trans H4.out); clear low5))
      have HMl := Lib.hid (MineJ.last (q := q) (s := s) rs)
      have HKl := Lib.hid (fun x => @KnJ.last q x rs)
      have HFs := Lib.hid (fun W (hb : Below w.heap.size w W) => find_any v A n c rs s w W Hn.out HR.out hb (HL.out.below hb (Nat.le_refl _)) (fun r hr => by have := HS.out.2.1 r hr; omega) (by have := HS.out.2.2.1; omega) (by have := HS.out.1; have := Hn.out; omega))
      have HFq := Lib.hid (fun W (hb : Below w.heap.size w W) => find_any v A n c rs q w W Hn.out HR.out hb (HL.out.below hb (Nat.le_refl _)) (fun r hr => by have := HS.out.2.1 r hr; omega) (by omega) (by have := HS.out.1; have := Hn.out; omega))
      have HOv := Lib.hid (fun (r : Rl) (hr : r ∈ rs) W (hb : Below w.heap.size w W) => over_any q r.p W (HL.out.below hb (Nat.le_refl _)) (by omega) (by have := HS.out.2.1 r hr; omega))
      have hn60 : n ≤ 60 := by have := HS.out.1; have := Hn.out; omega
      generalize find s rs = f at *
      generalize find q rs = f2 at *
      generalize cov q s = cv at *
      generalize refL (touchF q rs) = L at *
      obtain ⟨m, hm⟩ : ∃ m, L.length = m := ⟨_, rfl⟩
      rw [hm] at HMl Hmax ⊢
      have Hm := Lib.hid hm
      have hmx : m ≤ 9223372036854775807 := by have := Hmax.out; unfold maxLen at this; omega
      clear hm Hlabs H4 Low4 hq2 hql Hmax
      generalize w4.heap.size = B4 at *
      go_wp2
      go_loopw [8, 9] (fun mi i wr => ∃ j : Nat, j ≤ m ∧ i = .int .i64 j ∧ mi = .bool (MineJ (!cv) f L j) ∧ Hid (Below w5.heap.size w5 wr)) (fun _ i _ => m - (intOf i).toNat)
      case atStart => exact ⟨0, by omega, rfl, by rw [MineJ.zero], Below.refl _ _⟩
      case round =>
        obtain ⟨j, hj, rfl, rfl, hI⟩ := hrel
        by_cases hlt : j < m
        · have hltI : (j : Int) < m := by omega
          obtain ⟨x, hx⟩ : ∃ x, L[j]? = some x := ⟨_, List.getElem?_eq_getElem (by have := Hm.out; omega)⟩
          obtain ⟨b, off, rfl, hb, hcell⟩ := Hlabs5.out.2.2 (by have := Hm.out; omega)
          have hcap1 : m ≤ c2 := by have := Hlabs5.out.1; have := Hm.out; omega
          have Hrx : Hid (wr.rangeAt b (off + j * 2) (lab x.1 x.2).toList) := fun k v hv => (hI.out.cell (p := ⟨b, off + j * 2 + k, none⟩) hb).trans (hcell j x hx k v hv)
          have Hrb : Hid (wr.heap[tb]? = some (.cells (tabV v A n c) 24 (0, 0))) := (hI.out.block _ (Array.getElem?_eq_some_iff.1 H5.out).1).trans H5.out
          have Hlw := Lib.hid (Low5.out.trans (hI.out.mono Low5.out.size))
          have Hj := Lib.hid (MineJ.next (m0 := !cv) (f := f) hx)
          have Hkn := Lib.hid (HKl.out x (List.mem_of_getElem? hx))
          have heq : ∀ W : World, _ := eqlab x f
          have heq2 : ∀ W : World, _ := eqlab x f2
          obtain ⟨xf, hxf⟩ : ∃ xf, decide (x = f) = xf := ⟨_, rfl⟩
          obtain ⟨xf2, hxf2⟩ : ∃ xf2, decide (x = f2) = xf2 := ⟨_, rfl⟩
          have Hkz := Lib.hid (KnJ.zero q f2 x rs)
          rw [hxf] at heq Hj
          rw [hxf2] at heq2 Hkz
          clear hx hcell hb hxf hxf2
          go_upto_region 8 with fail
          obtain ⟨mj, hmj⟩ : ∃ mj, MineJ (!cv) f L j = mj := ⟨_, rfl⟩
          rw [hmj] at Hj ⊢
          clear hmj
          cases mj with
          | true =>
            have apx : apartB [43, 44, 45, 46, 47, 48, 49, 50, 51, 52, 53, 8] = true := by decide
            refine wp_region_any (by kernel_rfl) ?_
            change wpAny _ _ _ _ _ _ _ (World.drew _)
            refine wpAny_inv2 (fun ll aa wx => Hid (ll.size = 12 ∧ Below wr.heap.size wr wx) ∧ ∃ (z : Nat → Value), Hid (aa = ⟨#[.agg (tabV v A n c), .string q, .string s, .pointer (some ⟨tb, 0, none⟩), undef, undef, u6, .slice (some ⟨b, off, none⟩) m c2, z 8, .int .i64 (j : Nat), u10, u11, .agg (tabV v A n c), .string s, .bool false, .bool false, .string q, .int .i64 (q.size : Nat), .bool (decide ((200 : Int) < (q.size : Nat))), .bool (decide ((200 : Int) < (q.size : Nat))), .bool (decide ((200 : Int) < (q.size : Nat))), .string q, .bool true, .bool true, .string q, .int .i64 0, .bool false, .bool false, .bool (decide ((200 : Int) < (q.size : Nat))), undef, .agg (tabV v A n c), .string q, .slice (some ⟨b, off, none⟩) m c2, .string q, .string s, .bool cv, .bool !cv, .int .i64 (j : Nat), .slice (some ⟨b, off, none⟩) m c2, .int .i64 (m : Nat), .bool true, u41, u42, z 43, z 44, z 45, z 46, z 47, z 48, z 49, z 50, z 51, z 52, z 53, u54, u55, u56, u57, u58, u59, u60, u61, u62, u63, u64, u65, u66, u67, u68, u69, u70, u71, u72, u73, u74, u75, u76, u77, u78, u79, u80, u81, u82, u83, u84, u85, u86, u87, u88, u89, u90, u91, u92, u93, u94, undef, undef, undef, undef], []⟩) ∧ Holding [43, 44, 45, 46, 47, 48, 49, 50, 51, 52, 53, 8] [some (.bool true), some (.bool true), some (undef), some (undef), some (undef), some (undef), some (undef), some (undef), some (undef), some (undef), some (.bool true), some (.bool true)] ll z ∧ BefP ll 11 z 8 (.bool true)) ?_ (by kernel_rfl) ?_ ?_ _ rfl _ _ ?_
            · rintro ll aa wx ⟨hI, _⟩
              exact hI.out.1
            · rintro ll aa wx ⟨hI, z, ha, hz, hb11⟩ hall
              have hx := Lib.hid hI.out.2
              have e0 : z 43 = .bool true := hz 0 _ (hall 0 (by decide)) rfl
              have e1 : z 44 = .bool true := hz 1 _ (hall 1 (by decide)) rfl
              have e2 : z 45 = undef := hz 2 _ (hall 2 (by decide)) rfl
              have e3 : z 46 = undef := hz 3 _ (hall 3 (by decide)) rfl
              have e4 : z 47 = undef := hz 4 _ (hall 4 (by decide)) rfl
              have e5 : z 48 = undef := hz 5 _ (hall 5 (by decide)) rfl
              have e6 : z 49 = undef := hz 6 _ (hall 6 (by decide)) rfl
              have e7 : z 50 = undef := hz 7 _ (hall 7 (by decide)) rfl
              have e8 : z 51 = undef := hz 8 _ (hall 8 (by decide)) rfl
              have e9 : z 52 = undef := hz 9 _ (hall 9 (by decide)) rfl
              have e10 : z 53 = .bool true := hz 10 _ (hall 10 (by decide)) rfl
              have e11 : z 8 = .bool true := hz 11 _ (hall 11 (by decide)) rfl
              clear hall hz hI hb11
              obtain rfl := ha.out
              clear ha
              clear apx
              have E := Lib.hid e11
              have HX := Lib.hid (hI.out.trans (hx.out.mono hI.out.size))
              have Hlx := Lib.hid (Hlw.out.trans (hx.out.mono Hlw.out.size))
              have Hrx8 : Hid (wx.rangeAt b (off + j * 2) (lab x.1 x.2).toList) := fun k v hv => (hx.out.cell (p := ⟨b, off + j * 2 + k, none⟩) (World.block_lt_of_cell? _ _ (Hrx.out k v hv))).trans (Hrx.out k v hv)
              have Hrb8 : Hid (wx.heap[tb]? = some (.cells (tabV v A n c) 24 (0, 0))) := (hx.out.block _ (Array.getElem?_eq_some_iff.1 Hrb.out).1).trans Hrb.out
              clear e0 e1 e2 e3 e4 e5 e6 e7 e8 e9 e10 e11 hx Hrx Hrb Hlw hI
              dsimp only
              rw [E.out]
              clear E
              generalize z 43 = y43
              generalize z 44 = y44
              generalize z 45 = y45
              generalize z 46 = y46
              generalize z 47 = y47
              generalize z 48 = y48
              generalize z 49 = y49
              generalize z 50 = y50
              generalize z 51 = y51
              generalize z 52 = y52
              generalize z 53 = y53
              clear z
              go_upto_region 9 with fail
              have apx : apartB [54, 55, 56, 57, 58, 59, 60, 61, 10] = true := by decide
              refine wp_region_any (by kernel_rfl) ?_
              change wpAny _ _ _ _ _ _ _ (World.drew _)
              refine wpAny_inv (fun ll aa wy => Hid (ll.size = 9 ∧ Below wx.heap.size wx wy) ∧ ∃ (z : Nat → Value), Hid (aa = ⟨#[.agg (tabV v A n c), .string q, .string s, .pointer (some ⟨tb, 0, none⟩), undef, undef, u6, .slice (some ⟨b, off, none⟩) m c2, .bool true, .int .i64 (j : Nat), z 10, u11, .agg (tabV v A n c), .string s, .bool false, .bool false, .string q, .int .i64 (q.size : Nat), .bool (decide ((200 : Int) < (q.size : Nat))), .bool (decide ((200 : Int) < (q.size : Nat))), .bool (decide ((200 : Int) < (q.size : Nat))), .string q, .bool true, .bool true, .string q, .int .i64 0, .bool false, .bool false, .bool (decide ((200 : Int) < (q.size : Nat))), undef, .agg (tabV v A n c), .string q, .slice (some ⟨b, off, none⟩) m c2, .string q, .string s, .bool cv, .bool !cv, .int .i64 (j : Nat), .slice (some ⟨b, off, none⟩) m c2, .int .i64 (m : Nat), .bool true, u41, u42, y43, y44, y45, y46, y47, y48, y49, y50, y51, y52, y53, z 54, z 55, z 56, z 57, z 58, z 59, z 60, z 61, u62, u63, u64, u65, u66, u67, u68, u69, u70, u71, u72, u73, u74, u75, u76, u77, u78, u79, u80, u81, u82, u83, u84, u85, u86, u87, u88, u89, u90, u91, u92, u93, u94, undef, undef, undef, undef], []⟩) ∧ Holding [54, 55, 56, 57, 58, 59, 60, 61, 10] [some (.slice (some ⟨b, off, none⟩) m c2), some (.int .i64 (j : Nat)), some (.pointer (some ⟨b, off + j * 2, none⟩)), some (.agg (lab x.1 x.2)), some (.agg (tabV v A n c)), some (.string q), some (.agg (lab f2.1 f2.2)), some (.bool xf2), some (.bool xf2)] ll z) ?_ (by kernel_rfl) ?_ ?_ _ _ _ _ (unlisted_none _) ?_
              · rintro ll aa wy ⟨hI, _⟩
                exact hI.out.1
              · rintro ll aa wy ⟨hI, z, ha, hz⟩ hall
                have hx := Lib.hid hI.out.2
                have e0 : z 54 = .slice (some ⟨b, off, none⟩) m c2 := hz 0 _ (hall 0 (by decide)) rfl
                have e1 : z 55 = .int .i64 (j : Nat) := hz 1 _ (hall 1 (by decide)) rfl
                have e2 : z 56 = .pointer (some ⟨b, off + j * 2, none⟩) := hz 2 _ (hall 2 (by decide)) rfl
                have e3 : z 57 = .agg (lab x.1 x.2) := hz 3 _ (hall 3 (by decide)) rfl
                have e4 : z 58 = .agg (tabV v A n c) := hz 4 _ (hall 4 (by decide)) rfl
                have e5 : z 59 = .string q := hz 5 _ (hall 5 (by decide)) rfl
                have e6 : z 60 = .agg (lab f2.1 f2.2) := hz 6 _ (hall 6 (by decide)) rfl
                have e7 : z 61 = .bool xf2 := hz 7 _ (hall 7 (by decide)) rfl
                have e8 : z 10 = .bool xf2 := hz 8 _ (hall 8 (by decide)) rfl
                clear hall hz hI 
                obtain rfl := ha.out
                clear ha
                clear apx
                have E := Lib.hid e8
                have HY := Lib.hid (HX.out.trans (hx.out.mono HX.out.size))
                have Hly := Lib.hid (Hlx.out.trans (hx.out.mono Hlx.out.size))
                have Hrx9 : Hid (wy.rangeAt b (off + j * 2) (lab x.1 x.2).toList) := fun k v hv => (hx.out.cell (p := ⟨b, off + j * 2 + k, none⟩) (World.block_lt_of_cell? _ _ (Hrx8.out k v hv))).trans (Hrx8.out k v hv)
                have Hrb9 : Hid (wy.heap[tb]? = some (.cells (tabV v A n c) 24 (0, 0))) := (hx.out.block _ (Array.getElem?_eq_some_iff.1 Hrb8.out).1).trans Hrb8.out
                clear e0 e1 e2 e3 e4 e5 e6 e7 e8 hx Hrx8 Hrb8 Hlx HX
                dsimp only
                rw [E.out]
                clear E
                generalize z 54 = y54
                generalize z 55 = y55
                generalize z 56 = y56
                generalize z 57 = y57
                generalize z 58 = y58
                generalize z 59 = y59
                generalize z 60 = y60
                generalize z 61 = y61
                clear z
                go_wp2
                go_loopw [10, 11] (fun kn i wr => ∃ k : Nat, k ≤ n ∧ i = .int .i64 k ∧ kn = .bool (KnJ q f2 x rs k) ∧ Hid (Below wy.heap.size wy wr)) (fun _ i _ => n - (intOf i).toNat)
                case atStart => exact ⟨0, by omega, rfl, by rw [Hkz.out], Below.refl _ _⟩
                case round =>
                  obtain ⟨k, hk, rfl, rfl, hI2⟩ := hrel
                  have c1 : wr.cell? ⟨tb, 1, none⟩ = some (.slice A n c) := cell_row ((hI2.out.block _ (Array.getElem?_eq_some_iff.1 Hrb9.out).1).trans Hrb9.out) 1
                  by_cases hltk : k < n
                  · have hltkI : (k : Int) < n := by omega
                    obtain ⟨r, hr⟩ : ∃ r, rs[k]? = some r := ⟨_, List.getElem?_eq_getElem (by have := Hn.out; omega)⟩
                    obtain ⟨b2, off2, rfl, hb2, hrange⟩ := HR.out.at hr
                    have hcap2 : n ≤ c := by have := HR.out.1; have := Hn.out; omega
                    have Hlk := Lib.hid (Hly.out.trans (hI2.out.mono Hly.out.size))
                    have Hrr : Hid (wr.rangeAt b2 (off2 + k * 3) (rlc r).toList) := fun i v hv => (Hlk.out.cell (p := ⟨b2, off2 + k * 3 + i, none⟩) hb2).trans (hrange i v hv)
                    have Hrm := Lib.hid (rule_mid Hrr.out)
                    have Hrp : Hid (wr.cell? ⟨b2, off2 + k * 3, none⟩ = some (.string r.p)) := Hrr.out 0 _ rfl
                    have Hcs := Lib.hid c1
                    have Hrxk : Hid (wr.rangeAt b (off + j * 2) (lab x.1 x.2).toList) := fun i v hv => (hI2.out.cell (p := ⟨b, off + j * 2 + i, none⟩) (World.block_lt_of_cell? _ _ (Hrx9.out i v hv))).trans (Hrx9.out i v hv)
                    have Hk1 := Lib.hid (KnJ.next (q := q) (f := f2) (x := x) hr)
                    have HOr := Lib.hid (HOv.out r (List.mem_of_getElem? hr))
                    clear hrange hr hb2 Hrr
                    go_upto_region 13 with fail
                    clear c1
                    obtain ⟨kj, hkj⟩ : ∃ kj, KnJ q f2 x rs k = kj := ⟨_, rfl⟩
                    rw [hkj] at Hk1 ⊢
                    clear hkj
                    cases kj with
                    | true =>
                      have apx : apartB [69, 70, 71, 72, 73, 74, 75, 76, 77, 78, 79, 80, 81, 82, 83, 84, 85, 86, 87, 88, 89, 90, 91, 92, 10] = true := by decide
                      refine wp_region_any (by kernel_rfl) ?_
                      change wpAny _ _ _ _ _ _ _ (World.drew _)
                      refine wpAny_inv2 (fun ll aa wz => Hid (ll.size = 25 ∧ Below wr.heap.size wr wz) ∧ ∃ (z : Nat → Value), Hid (aa = ⟨#[.agg (tabV v (some ⟨b2, off2, none⟩) n c), .string q, .string s, .pointer (some ⟨tb, 0, none⟩), undef, undef, u6, .slice (some ⟨b, off, none⟩) m c2, .bool true, .int .i64 (j : Nat), z 10, .int .i64 (k : Nat), .agg (tabV v (some ⟨b2, off2, none⟩) n c), .string s, .bool false, .bool false, .string q, .int .i64 (q.size : Nat), .bool (decide ((200 : Int) < (q.size : Nat))), .bool (decide ((200 : Int) < (q.size : Nat))), .bool (decide ((200 : Int) < (q.size : Nat))), .string q, .bool true, .bool true, .string q, .int .i64 0, .bool false, .bool false, .bool (decide ((200 : Int) < (q.size : Nat))), undef, .agg (tabV v (some ⟨b2, off2, none⟩) n c), .string q, .slice (some ⟨b, off, none⟩) m c2, .string q, .string s, .bool cv, .bool !cv, .int .i64 (j : Nat), .slice (some ⟨b, off, none⟩) m c2, .int .i64 (m : Nat), .bool true, u41, u42, y43, y44, y45, y46, y47, y48, y49, y50, y51, y52, y53, y54, y55, y56, y57, y58, y59, y60, y61, .int .i64 (k : Nat), .pointer (some ⟨tb, 1, none⟩), .slice (some ⟨b2, off2, none⟩) n c, .int .i64 (n : Nat), .bool true, u67, u68, z 69, z 70, z 71, z 72, z 73, z 74, z 75, z 76, z 77, z 78, z 79, z 80, z 81, z 82, z 83, z 84, z 85, z 86, z 87, z 88, z 89, z 90, z 91, z 92, u93, u94, undef, undef, undef, undef], []⟩) ∧ Holding [69, 70, 71, 72, 73, 74, 75, 76, 77, 78, 79, 80, 81, 82, 83, 84, 85, 86, 87, 88, 89, 90, 91, 92, 10] [some (.bool true), some (.bool true), some (undef), some (undef), some (undef), some (undef), some (undef), some (undef), some (undef), some (undef), some (undef), some (undef), some (undef), some (undef), some (undef), some (undef), some (undef), some (undef), some (undef), some (undef), some (undef), some (undef), some (undef), some (.bool true), some (.bool true)] ll z ∧ BefP ll 24 z 10 (.bool true)) ?_ (by kernel_rfl) ?_ ?_ _ rfl _ _ ?_
                      · rintro ll aa wz ⟨hI, _⟩
                        exact hI.out.1
                      · rintro ll aa wz ⟨hI, z, ha, hz, hb24⟩ hall
                        have hx := Lib.hid hI.out.2
                        have e0 : z 69 = .bool true := hz 0 _ (hall 0 (by decide)) rfl
                        have e1 : z 70 = .bool true := hz 1 _ (hall 1 (by decide)) rfl
                        have e2 : z 71 = undef := hz 2 _ (hall 2 (by decide)) rfl
                        have e3 : z 72 = undef := hz 3 _ (hall 3 (by decide)) rfl
                        have e4 : z 73 = undef := hz 4 _ (hall 4 (by decide)) rfl
                        have e5 : z 74 = undef := hz 5 _ (hall 5 (by decide)) rfl
                        have e6 : z 75 = undef := hz 6 _ (hall 6 (by decide)) rfl
                        have e7 : z 76 = undef := hz 7 _ (hall 7 (by decide)) rfl
                        have e8 : z 77 = undef := hz 8 _ (hall 8 (by decide)) rfl
                        have e9 : z 78 = undef := hz 9 _ (hall 9 (by decide)) rfl
                        have e10 : z 79 = undef := hz 10 _ (hall 10 (by decide)) rfl
                        have e11 : z 80 = undef := hz 11 _ (hall 11 (by decide)) rfl
                        have e12 : z 81 = undef := hz 12 _ (hall 12 (by decide)) rfl
                        have e13 : z 82 = undef := hz 13 _ (hall 13 (by decide)) rfl
                        have e14 : z 83 = undef := hz 14 _ (hall 14 (by decide)) rfl
                        have e15 : z 84 = undef := hz 15 _ (hall 15 (by decide)) rfl
                        have e16 : z 85 = undef := hz 16 _ (hall 16 (by decide)) rfl
                        have e17 : z 86 = undef := hz 17 _ (hall 17 (by decide)) rfl
                        have e18 : z 87 = undef := hz 18 _ (hall 18 (by decide)) rfl
                        have e19 : z 88 = undef := hz 19 _ (hall 19 (by decide)) rfl
                        have e20 : z 89 = undef := hz 20 _ (hall 20 (by decide)) rfl
                        have e21 : z 90 = undef := hz 21 _ (hall 21 (by decide)) rfl
                        have e22 : z 91 = undef := hz 22 _ (hall 22 (by decide)) rfl
                        have e23 : z 92 = .bool true := hz 23 _ (hall 23 (by decide)) rfl
                        have e24 : z 10 = .bool true := hz 24 _ (hall 24 (by decide)) rfl
                        clear hall hz hI hb24
                        obtain rfl := ha.out
                        clear ha
                        clear apx
                        have E := Lib.hid e24
                        have HK := Lib.hid (hI2.out.trans (hx.out.mono hI2.out.size))
                        clear e0 e1 e2 e3 e4 e5 e6 e7 e8 e9 e10 e11 e12 e13 e14 e15 e16 e17 e18 e19 e20 e21 e22 e23 e24 hx hI2
                        dsimp only
                        rw [E.out]
                        clear E
                        generalize z 69 = y69
                        generalize z 70 = y70
                        generalize z 71 = y71
                        generalize z 72 = y72
                        generalize z 73 = y73
                        generalize z 74 = y74
                        generalize z 75 = y75
                        generalize z 76 = y76
                        generalize z 77 = y77
                        generalize z 78 = y78
                        generalize z 79 = y79
                        generalize z 80 = y80
                        generalize z 81 = y81
                        generalize z 82 = y82
                        generalize z 83 = y83
                        generalize z 84 = y84
                        generalize z 85 = y85
                        generalize z 86 = y86
                        generalize z 87 = y87
                        generalize z 88 = y88
                        generalize z 89 = y89
                        generalize z 90 = y90
                        generalize z 91 = y91
                        generalize z 92 = y92
                        clear z
                        go_wp2
                        go_roundw
                        case rel => exact ⟨k + 1, by omega, by go_num, by rw [Hk1.out]; rfl, HK.out⟩
                        case measure => simp [intOf]; omega
                      · rintro ll aa wz i ⟨hI, z, ha, hz, hb24⟩ hcl hi hu hw
                        obtain rfl := ha.out
                        have hsz := Lib.hid hI.out.1
                        have hx := Lib.hid hI.out.2
                        clear ha hI
                        have hin : i < 25 := hi
                        obtain rfl | rfl | rfl | rfl | rfl | rfl | rfl | rfl | rfl | rfl | rfl | rfl | rfl | rfl | rfl | rfl | rfl | rfl | rfl | rfl | rfl | rfl | rfl | rfl | rfl : i = 0 ∨ i = 1 ∨ i = 2 ∨ i = 3 ∨ i = 4 ∨ i = 5 ∨ i = 6 ∨ i = 7 ∨ i = 8 ∨ i = 9 ∨ i = 10 ∨ i = 11 ∨ i = 12 ∨ i = 13 ∨ i = 14 ∨ i = 15 ∨ i = 16 ∨ i = 17 ∨ i = 18 ∨ i = 19 ∨ i = 20 ∨ i = 21 ∨ i = 22 ∨ i = 23 ∨ i = 24 := by omega
                        · have b24 : z 10 = .bool true := hb24 (BefP.ok (fun hl => hcl 24 0 hl (by kernel_rfl)) hu)
                          refine wpOp_plain rfl rfl ?_
                          go_simp
                          exact ⟨⟨by simp [hsz.out], hx.out⟩, upd z 69 (.bool true), (by unfold Hid; simp [upd, b24]), hz.next apx hsz.out 0 (by decide) _ (fun _ h => Option.some.inj h), BefP.keep hb24 (by decide)⟩
                        · have e0 : z 69 = .bool true := hz 0 _ (hw 0 (by kernel_rfl)) rfl
                          refine wpOp_plain rfl rfl ?_
                          go_simp
                          exact ⟨⟨by simp [hsz.out], hx.out⟩, upd z 70 (.bool true), (by unfold Hid; simp [upd, e0]), hz.next apx hsz.out 1 (by decide) _ (fun _ h => Option.some.inj h), BefP.keep hb24 (by decide)⟩
                        · have e1 : z 70 = .bool true := hz 1 _ (hw 1 (by kernel_rfl)) rfl
                          refine wpOp_skip rfl (by simp [Region.wanted, yielded, e1]) ?_
                          go_simp
                          exact ⟨⟨by simp [hsz.out], hx.out⟩, upd z 71 (undef), (by unfold Hid; simp [upd, e1]), hz.next apx hsz.out 2 (by decide) _ (fun _ h => Option.some.inj h), BefP.keep hb24 (by decide)⟩
                        · have e1 : z 70 = .bool true := hz 1 _ (hw 1 (by kernel_rfl)) rfl
                          refine wpOp_skip rfl (by simp [Region.wanted, yielded, e1]) ?_
                          go_simp
                          exact ⟨⟨by simp [hsz.out], hx.out⟩, upd z 72 (undef), (by unfold Hid; simp [upd, e1]), hz.next apx hsz.out 3 (by decide) _ (fun _ h => Option.some.inj h), BefP.keep hb24 (by decide)⟩
                        · have e1 : z 70 = .bool true := hz 1 _ (hw 1 (by kernel_rfl)) rfl
                          refine wpOp_skip rfl (by simp [Region.wanted, yielded, e1]) ?_
                          go_simp
                          exact ⟨⟨by simp [hsz.out], hx.out⟩, upd z 73 (undef), (by unfold Hid; simp [upd, e1]), hz.next apx hsz.out 4 (by decide) _ (fun _ h => Option.some.inj h), BefP.keep hb24 (by decide)⟩
                        · have e1 : z 70 = .bool true := hz 1 _ (hw 1 (by kernel_rfl)) rfl
                          refine wpOp_skip rfl (by simp [Region.wanted, yielded, e1]) ?_
                          go_simp
                          exact ⟨⟨by simp [hsz.out], hx.out⟩, upd z 74 (undef), (by unfold Hid; simp [upd, e1]), hz.next apx hsz.out 5 (by decide) _ (fun _ h => Option.some.inj h), BefP.keep hb24 (by decide)⟩
                        · have e1 : z 70 = .bool true := hz 1 _ (hw 1 (by kernel_rfl)) rfl
                          refine wpOp_skip rfl (by simp [Region.wanted, yielded, e1]) ?_
                          go_simp
                          exact ⟨⟨by simp [hsz.out], hx.out⟩, upd z 75 (undef), (by unfold Hid; simp [upd, e1]), hz.next apx hsz.out 6 (by decide) _ (fun _ h => Option.some.inj h), BefP.keep hb24 (by decide)⟩
                        · have e1 : z 70 = .bool true := hz 1 _ (hw 1 (by kernel_rfl)) rfl
                          refine wpOp_skip rfl (by simp [Region.wanted, yielded, e1]) ?_
                          go_simp
                          exact ⟨⟨by simp [hsz.out], hx.out⟩, upd z 76 (undef), (by unfold Hid; simp [upd, e1]), hz.next apx hsz.out 7 (by decide) _ (fun _ h => Option.some.inj h), BefP.keep hb24 (by decide)⟩
                        · have e1 : z 70 = .bool true := hz 1 _ (hw 1 (by kernel_rfl)) rfl
                          refine wpOp_skip rfl (by simp [Region.wanted, yielded, e1]) ?_
                          go_simp
                          exact ⟨⟨by simp [hsz.out], hx.out⟩, upd z 77 (undef), (by unfold Hid; simp [upd, e1]), hz.next apx hsz.out 8 (by decide) _ (fun _ h => Option.some.inj h), BefP.keep hb24 (by decide)⟩
                        · have e1 : z 70 = .bool true := hz 1 _ (hw 1 (by kernel_rfl)) rfl
                          refine wpOp_skip rfl (by simp [Region.wanted, yielded, e1]) ?_
                          go_simp
                          exact ⟨⟨by simp [hsz.out], hx.out⟩, upd z 78 (undef), (by unfold Hid; simp [upd, e1]), hz.next apx hsz.out 9 (by decide) _ (fun _ h => Option.some.inj h), BefP.keep hb24 (by decide)⟩
                        · have e1 : z 70 = .bool true := hz 1 _ (hw 1 (by kernel_rfl)) rfl
                          refine wpOp_skip rfl (by simp [Region.wanted, yielded, e1]) ?_
                          go_simp
                          exact ⟨⟨by simp [hsz.out], hx.out⟩, upd z 79 (undef), (by unfold Hid; simp [upd, e1]), hz.next apx hsz.out 10 (by decide) _ (fun _ h => Option.some.inj h), BefP.keep hb24 (by decide)⟩
                        · have e1 : z 70 = .bool true := hz 1 _ (hw 1 (by kernel_rfl)) rfl
                          refine wpOp_skip rfl (by simp [Region.wanted, yielded, e1]) ?_
                          go_simp
                          exact ⟨⟨by simp [hsz.out], hx.out⟩, upd z 80 (undef), (by unfold Hid; simp [upd, e1]), hz.next apx hsz.out 11 (by decide) _ (fun _ h => Option.some.inj h), BefP.keep hb24 (by decide)⟩
                        · have e1 : z 70 = .bool true := hz 1 _ (hw 1 (by kernel_rfl)) rfl
                          refine wpOp_skip rfl (by simp [Region.wanted, yielded, e1]) ?_
                          go_simp
                          exact ⟨⟨by simp [hsz.out], hx.out⟩, upd z 81 (undef), (by unfold Hid; simp [upd, e1]), hz.next apx hsz.out 12 (by decide) _ (fun _ h => Option.some.inj h), BefP.keep hb24 (by decide)⟩
                        · have e1 : z 70 = .bool true := hz 1 _ (hw 1 (by kernel_rfl)) rfl
                          refine wpOp_skip rfl (by simp [Region.wanted, yielded, e1]) ?_
                          go_simp
                          exact ⟨⟨by simp [hsz.out], hx.out⟩, upd z 82 (undef), (by unfold Hid; simp [upd, e1]), hz.next apx hsz.out 13 (by decide) _ (fun _ h => Option.some.inj h), BefP.keep hb24 (by decide)⟩
                        · have e13 : z 82 = undef := hz 13 _ (hw 13 (by kernel_rfl)) rfl
                          refine wpOp_skip rfl (by simp [Region.wanted, yielded, e13]; try simp [undef]) ?_
                          go_simp
                          exact ⟨⟨by simp [hsz.out], hx.out⟩, upd z 83 (undef), (by unfold Hid; simp [upd, e13]), hz.next apx hsz.out 14 (by decide) _ (fun _ h => Option.some.inj h), BefP.keep hb24 (by decide)⟩
                        · have e13 : z 82 = undef := hz 13 _ (hw 13 (by kernel_rfl)) rfl
                          refine wpOp_skip rfl (by simp [Region.wanted, yielded, e13]; try simp [undef]) ?_
                          go_simp
                          exact ⟨⟨by simp [hsz.out], hx.out⟩, upd z 84 (undef), (by unfold Hid; simp [upd, e13]), hz.next apx hsz.out 15 (by decide) _ (fun _ h => Option.some.inj h), BefP.keep hb24 (by decide)⟩
                        · have e13 : z 82 = undef := hz 13 _ (hw 13 (by kernel_rfl)) rfl
                          refine wpOp_skip rfl (by simp [Region.wanted, yielded, e13]; try simp [undef]) ?_
                          go_simp
                          exact ⟨⟨by simp [hsz.out], hx.out⟩, upd z 85 (undef), (by unfold Hid; simp [upd, e13]), hz.next apx hsz.out 16 (by decide) _ (fun _ h => Option.some.inj h), BefP.keep hb24 (by decide)⟩
                        · have e13 : z 82 = undef := hz 13 _ (hw 13 (by kernel_rfl)) rfl
                          refine wpOp_skip rfl (by simp [Region.wanted, yielded, e13]; try simp [undef]) ?_
                          go_simp
                          exact ⟨⟨by simp [hsz.out], hx.out⟩, upd z 86 (undef), (by unfold Hid; simp [upd, e13]), hz.next apx hsz.out 17 (by decide) _ (fun _ h => Option.some.inj h), BefP.keep hb24 (by decide)⟩
                        · have e13 : z 82 = undef := hz 13 _ (hw 13 (by kernel_rfl)) rfl
                          refine wpOp_skip rfl (by simp [Region.wanted, yielded, e13]; try simp [undef]) ?_
                          go_simp
                          exact ⟨⟨by simp [hsz.out], hx.out⟩, upd z 87 (undef), (by unfold Hid; simp [upd, e13]), hz.next apx hsz.out 18 (by decide) _ (fun _ h => Option.some.inj h), BefP.keep hb24 (by decide)⟩
                        · have e13 : z 82 = undef := hz 13 _ (hw 13 (by kernel_rfl)) rfl
                          refine wpOp_skip rfl (by simp [Region.wanted, yielded, e13]; try simp [undef]) ?_
                          go_simp
                          exact ⟨⟨by simp [hsz.out], hx.out⟩, upd z 88 (undef), (by unfold Hid; simp [upd, e13]), hz.next apx hsz.out 19 (by decide) _ (fun _ h => Option.some.inj h), BefP.keep hb24 (by decide)⟩
                        · have e13 : z 82 = undef := hz 13 _ (hw 13 (by kernel_rfl)) rfl
                          refine wpOp_skip rfl (by simp [Region.wanted, yielded, e13]; try simp [undef]) ?_
                          go_simp
                          exact ⟨⟨by simp [hsz.out], hx.out⟩, upd z 89 (undef), (by unfold Hid; simp [upd, e13]), hz.next apx hsz.out 20 (by decide) _ (fun _ h => Option.some.inj h), BefP.keep hb24 (by decide)⟩
                        · have e13 : z 82 = undef := hz 13 _ (hw 13 (by kernel_rfl)) rfl
                          refine wpOp_skip rfl (by simp [Region.wanted, yielded, e13]; try simp [undef]) ?_
                          go_simp
                          exact ⟨⟨by simp [hsz.out], hx.out⟩, upd z 90 (undef), (by unfold Hid; simp [upd, e13]), hz.next apx hsz.out 21 (by decide) _ (fun _ h => Option.some.inj h), BefP.keep hb24 (by decide)⟩
                        · have e1 : z 70 = .bool true := hz 1 _ (hw 1 (by kernel_rfl)) rfl
                          refine wpOp_skip rfl (by simp [Region.wanted, yielded, e1]) ?_
                          go_simp
                          exact ⟨⟨by simp [hsz.out], hx.out⟩, upd z 91 (undef), (by unfold Hid; simp [upd, e1]), hz.next apx hsz.out 22 (by decide) _ (fun _ h => Option.some.inj h), BefP.keep hb24 (by decide)⟩
                        · have e1 : z 70 = .bool true := hz 1 _ (hw 1 (by kernel_rfl)) rfl
                          refine wpOp_plain rfl rfl ?_
                          go_simp
                          exact ⟨⟨by simp [hsz.out], hx.out⟩, upd z 92 (.bool true), (by unfold Hid; simp [upd, e1]), hz.next apx hsz.out 23 (by decide) _ (fun _ h => Option.some.inj h), BefP.keep hb24 (by decide)⟩
                        · have e23 : z 92 = .bool true := hz 23 _ (hw 23 (by kernel_rfl)) rfl
                          refine wpOp_plain rfl rfl ?_
                          go_simp
                          exact ⟨⟨by simp [hsz.out], hx.out⟩, upd z 10 (.bool true), (by unfold Hid; simp [upd, e23]), hz.next apx hsz.out 24 (by decide) _ (fun _ h => Option.some.inj h), BefP.past (by rw [hsz.out]; decide)⟩
                      · exact ⟨⟨rfl, (Below.refl _ _).drew⟩, fun xx => (#[.agg (tabV v (some ⟨b2, off2, none⟩) n c), .string q, .string s, .pointer (some ⟨tb, 0, none⟩), undef, undef, u6, .slice (some ⟨b, off, none⟩) m c2, .bool true, .int .i64 (j : Nat), .bool true, .int .i64 (k : Nat), .agg (tabV v (some ⟨b2, off2, none⟩) n c), .string s, .bool false, .bool false, .string q, .int .i64 (q.size : Nat), .bool (decide ((200 : Int) < (q.size : Nat))), .bool (decide ((200 : Int) < (q.size : Nat))), .bool (decide ((200 : Int) < (q.size : Nat))), .string q, .bool true, .bool true, .string q, .int .i64 0, .bool false, .bool false, .bool (decide ((200 : Int) < (q.size : Nat))), undef, .agg (tabV v (some ⟨b2, off2, none⟩) n c), .string q, .slice (some ⟨b, off, none⟩) m c2, .string q, .string s, .bool cv, .bool !cv, .int .i64 (j : Nat), .slice (some ⟨b, off, none⟩) m c2, .int .i64 (m : Nat), .bool true, u41, u42, y43, y44, y45, y46, y47, y48, y49, y50, y51, y52, y53, y54, y55, y56, y57, y58, y59, y60, y61, .int .i64 (k : Nat), .pointer (some ⟨tb, 1, none⟩), .slice (some ⟨b2, off2, none⟩) n c, .int .i64 (n : Nat), .bool true, u67, u68, u69, u70, u71, u72, u73, u74, u75, u76, u77, u78, u79, u80, u81, u82, u83, u84, u85, u86, u87, u88, u89, u90, u91, u92, u93, u94, undef, undef, undef, undef] : Array Value).getD xx undef, (by rfl), Holding.start, BefP.start rfl⟩
                    | false =>
                      have heq3 : ∀ W : World, _ := eqlab (r.a, r.c) x
                      have hd3 : decide ((r.a, r.c) = x) = decide (r.a = x.1 ∧ r.c = x.2) := by
                        obtain ⟨x1, x2⟩ := x
                        simp
                      rw [hd3] at heq3
                      clear hd3
                      simp only at heq3
                      obtain ⟨rx, hrx⟩ : ∃ rx, decide (r.a = x.1 ∧ r.c = x.2) = rx := ⟨_, rfl⟩
                      rw [hrx] at heq3 Hk1
                      clear hrx
                      cases rx with
                      | true =>
                        generalize cov q r.p = ov at *
                        have apx : apartB [69, 70, 71, 72, 73, 74, 75, 76, 77, 78, 79, 80, 81, 82, 83, 84, 85, 86, 87, 88, 89, 90, 91, 92, 10] = true := by decide
                        refine wp_region_any (by kernel_rfl) ?_
                        change wpAny _ _ _ _ _ _ _ (World.drew _)
                        refine wpAny_inv2 (fun ll aa wz => Hid (ll.size = 25 ∧ Below wr.heap.size wr wz) ∧ ∃ (z : Nat → Value), Hid (aa = ⟨#[.agg (tabV v (some ⟨b2, off2, none⟩) n c), .string q, .string s, .pointer (some ⟨tb, 0, none⟩), undef, undef, u6, .slice (some ⟨b, off, none⟩) m c2, .bool true, .int .i64 (j : Nat), z 10, .int .i64 (k : Nat), .agg (tabV v (some ⟨b2, off2, none⟩) n c), .string s, .bool false, .bool false, .string q, .int .i64 (q.size : Nat), .bool (decide ((200 : Int) < (q.size : Nat))), .bool (decide ((200 : Int) < (q.size : Nat))), .bool (decide ((200 : Int) < (q.size : Nat))), .string q, .bool true, .bool true, .string q, .int .i64 0, .bool false, .bool false, .bool (decide ((200 : Int) < (q.size : Nat))), undef, .agg (tabV v (some ⟨b2, off2, none⟩) n c), .string q, .slice (some ⟨b, off, none⟩) m c2, .string q, .string s, .bool cv, .bool !cv, .int .i64 (j : Nat), .slice (some ⟨b, off, none⟩) m c2, .int .i64 (m : Nat), .bool true, u41, u42, y43, y44, y45, y46, y47, y48, y49, y50, y51, y52, y53, y54, y55, y56, y57, y58, y59, y60, y61, .int .i64 (k : Nat), .pointer (some ⟨tb, 1, none⟩), .slice (some ⟨b2, off2, none⟩) n c, .int .i64 (n : Nat), .bool true, u67, u68, z 69, z 70, z 71, z 72, z 73, z 74, z 75, z 76, z 77, z 78, z 79, z 80, z 81, z 82, z 83, z 84, z 85, z 86, z 87, z 88, z 89, z 90, z 91, z 92, u93, u94, undef, undef, undef, undef], []⟩) ∧ Holding [69, 70, 71, 72, 73, 74, 75, 76, 77, 78, 79, 80, 81, 82, 83, 84, 85, 86, 87, 88, 89, 90, 91, 92, 10] [some (.bool false), some (.bool false), some (.pointer (some ⟨tb, 1, none⟩)), some (.slice (some ⟨b2, off2, none⟩) n c), some (.int .i64 (k : Nat)), some (.pointer (some ⟨b2, off2 + k * 3, none⟩)), some (.pointer (some ⟨b2, off2 + k * 3 + 1, none⟩)), some (.agg (lab r.a r.c)), some (.slice (some ⟨b, off, none⟩) m c2), some (.int .i64 (j : Nat)), some (.pointer (some ⟨b, off + j * 2, none⟩)), some (.agg (lab x.1 x.2)), some (.bool true), some (.bool true), some (.string q), some (.pointer (some ⟨tb, 1, none⟩)), some (.slice (some ⟨b2, off2, none⟩) n c), some (.int .i64 (k : Nat)), some (.pointer (some ⟨b2, off2 + k * 3, none⟩)), some (.pointer (some ⟨b2, off2 + k * 3, none⟩)), some (.string r.p), some (.bool ov), some (.bool ov), some (.bool ov), some (.bool ov)] ll z ∧ BefP ll 24 z 10 (.bool false)) ?_ (by kernel_rfl) ?_ ?_ _ rfl _ _ ?_
                        · rintro ll aa wz ⟨hI, _⟩
                          exact hI.out.1
                        · rintro ll aa wz ⟨hI, z, ha, hz, hb24⟩ hall
                          have hx := Lib.hid hI.out.2
                          have e0 : z 69 = .bool false := hz 0 _ (hall 0 (by decide)) rfl
                          have e1 : z 70 = .bool false := hz 1 _ (hall 1 (by decide)) rfl
                          have e2 : z 71 = .pointer (some ⟨tb, 1, none⟩) := hz 2 _ (hall 2 (by decide)) rfl
                          have e3 : z 72 = .slice (some ⟨b2, off2, none⟩) n c := hz 3 _ (hall 3 (by decide)) rfl
                          have e4 : z 73 = .int .i64 (k : Nat) := hz 4 _ (hall 4 (by decide)) rfl
                          have e5 : z 74 = .pointer (some ⟨b2, off2 + k * 3, none⟩) := hz 5 _ (hall 5 (by decide)) rfl
                          have e6 : z 75 = .pointer (some ⟨b2, off2 + k * 3 + 1, none⟩) := hz 6 _ (hall 6 (by decide)) rfl
                          have e7 : z 76 = .agg (lab r.a r.c) := hz 7 _ (hall 7 (by decide)) rfl
                          have e8 : z 77 = .slice (some ⟨b, off, none⟩) m c2 := hz 8 _ (hall 8 (by decide)) rfl
                          have e9 : z 78 = .int .i64 (j : Nat) := hz 9 _ (hall 9 (by decide)) rfl
                          have e10 : z 79 = .pointer (some ⟨b, off + j * 2, none⟩) := hz 10 _ (hall 10 (by decide)) rfl
                          have e11 : z 80 = .agg (lab x.1 x.2) := hz 11 _ (hall 11 (by decide)) rfl
                          have e12 : z 81 = .bool true := hz 12 _ (hall 12 (by decide)) rfl
                          have e13 : z 82 = .bool true := hz 13 _ (hall 13 (by decide)) rfl
                          have e14 : z 83 = .string q := hz 14 _ (hall 14 (by decide)) rfl
                          have e15 : z 84 = .pointer (some ⟨tb, 1, none⟩) := hz 15 _ (hall 15 (by decide)) rfl
                          have e16 : z 85 = .slice (some ⟨b2, off2, none⟩) n c := hz 16 _ (hall 16 (by decide)) rfl
                          have e17 : z 86 = .int .i64 (k : Nat) := hz 17 _ (hall 17 (by decide)) rfl
                          have e18 : z 87 = .pointer (some ⟨b2, off2 + k * 3, none⟩) := hz 18 _ (hall 18 (by decide)) rfl
                          have e19 : z 88 = .pointer (some ⟨b2, off2 + k * 3, none⟩) := hz 19 _ (hall 19 (by decide)) rfl
                          have e20 : z 89 = .string r.p := hz 20 _ (hall 20 (by decide)) rfl
                          have e21 : z 90 = .bool ov := hz 21 _ (hall 21 (by decide)) rfl
                          have e22 : z 91 = .bool ov := hz 22 _ (hall 22 (by decide)) rfl
                          have e23 : z 92 = .bool ov := hz 23 _ (hall 23 (by decide)) rfl
                          have e24 : z 10 = .bool ov := hz 24 _ (hall 24 (by decide)) rfl
                          clear hall hz hI hb24
                          obtain rfl := ha.out
                          clear ha
                          clear apx
                          have E := Lib.hid e24
                          have HK := Lib.hid (hI2.out.trans (hx.out.mono hI2.out.size))
                          clear e0 e1 e2 e3 e4 e5 e6 e7 e8 e9 e10 e11 e12 e13 e14 e15 e16 e17 e18 e19 e20 e21 e22 e23 e24 hx hI2
                          dsimp only
                          rw [E.out]
                          clear E
                          generalize z 69 = y69
                          generalize z 70 = y70
                          generalize z 71 = y71
                          generalize z 72 = y72
                          generalize z 73 = y73
                          generalize z 74 = y74
                          generalize z 75 = y75
                          generalize z 76 = y76
                          generalize z 77 = y77
                          generalize z 78 = y78
                          generalize z 79 = y79
                          generalize z 80 = y80
                          generalize z 81 = y81
                          generalize z 82 = y82
                          generalize z 83 = y83
                          generalize z 84 = y84
                          generalize z 85 = y85
                          generalize z 86 = y86
                          generalize z 87 = y87
                          generalize z 88 = y88
                          generalize z 89 = y89
                          generalize z 90 = y90
                          generalize z 91 = y91
                          generalize z 92 = y92
                          clear z
                          go_wp2
                          go_roundw
                          case rel => exact ⟨k + 1, by omega, by go_num, by rw [Hk1.out]; rfl, HK.out⟩
                          case measure => simp [intOf]; omega
                        · rintro ll aa wz i ⟨hI, z, ha, hz, hb24⟩ hcl hi hu hw
                          obtain rfl := ha.out
                          have hsz := Lib.hid hI.out.1
                          have hx := Lib.hid hI.out.2
                          clear ha hI
                          have hin : i < 25 := hi
                          obtain rfl | rfl | rfl | rfl | rfl | rfl | rfl | rfl | rfl | rfl | rfl | rfl | rfl | rfl | rfl | rfl | rfl | rfl | rfl | rfl | rfl | rfl | rfl | rfl | rfl : i = 0 ∨ i = 1 ∨ i = 2 ∨ i = 3 ∨ i = 4 ∨ i = 5 ∨ i = 6 ∨ i = 7 ∨ i = 8 ∨ i = 9 ∨ i = 10 ∨ i = 11 ∨ i = 12 ∨ i = 13 ∨ i = 14 ∨ i = 15 ∨ i = 16 ∨ i = 17 ∨ i = 18 ∨ i = 19 ∨ i = 20 ∨ i = 21 ∨ i = 22 ∨ i = 23 ∨ i = 24 := by omega
                          · have b24 : z 10 = .bool false := hb24 (BefP.ok (fun hl => hcl 24 0 hl (by kernel_rfl)) hu)
                            refine wpOp_plain rfl rfl ?_
                            go_simp
                            exact ⟨⟨by simp [hsz.out], hx.out⟩, upd z 69 (.bool false), (by unfold Hid; simp [upd, b24]), hz.next apx hsz.out 0 (by decide) _ (fun _ h => Option.some.inj h), BefP.keep hb24 (by decide)⟩
                          · have e0 : z 69 = .bool false := hz 0 _ (hw 0 (by kernel_rfl)) rfl
                            refine wpOp_plain rfl rfl ?_
                            go_simp
                            exact ⟨⟨by simp [hsz.out], hx.out⟩, upd z 70 (.bool false), (by unfold Hid; simp [upd, e0]), hz.next apx hsz.out 1 (by decide) _ (fun _ h => Option.some.inj h), BefP.keep hb24 (by decide)⟩
                          · have e1 : z 70 = .bool false := hz 1 _ (hw 1 (by kernel_rfl)) rfl
                            refine wpOp_want rfl (by simp [Region.wanted, yielded, e1]) ?_
                            go_simp
                            exact ⟨⟨by simp [hsz.out], hx.out⟩, upd z 71 (.pointer (some ⟨tb, 1, none⟩)), (by unfold Hid; simp [upd, e1]), hz.next apx hsz.out 2 (by decide) _ (fun _ h => Option.some.inj h), BefP.keep hb24 (by decide)⟩
                          · have e1 : z 70 = .bool false := hz 1 _ (hw 1 (by kernel_rfl)) rfl
                            have e2 : z 71 = .pointer (some ⟨tb, 1, none⟩) := hz 2 _ (hw 2 (by kernel_rfl)) rfl
                            have cl : wz.cell? ⟨tb, 1, none⟩ = some (.slice (some ⟨b2, off2, none⟩) n c) := (hx.out.cell (p := ⟨tb, 1, none⟩) (World.block_lt_of_cell? _ _ Hcs.out)).trans Hcs.out
                            refine wpOp_want rfl (by simp [Region.wanted, yielded, e1]) ?_
                            go_simp
                            exact ⟨⟨by simp [hsz.out], hx.out⟩, upd z 72 (.slice (some ⟨b2, off2, none⟩) n c), (by unfold Hid; simp [upd, e1, e2]), hz.next apx hsz.out 3 (by decide) _ (fun _ h => Option.some.inj h), BefP.keep hb24 (by decide)⟩
                          · have e1 : z 70 = .bool false := hz 1 _ (hw 1 (by kernel_rfl)) rfl
                            refine wpOp_want rfl (by simp [Region.wanted, yielded, e1]) ?_
                            go_simp
                            exact ⟨⟨by simp [hsz.out], hx.out⟩, upd z 73 (.int .i64 (k : Nat)), (by unfold Hid; simp [upd, e1]), hz.next apx hsz.out 4 (by decide) _ (fun _ h => Option.some.inj h), BefP.keep hb24 (by decide)⟩
                          · have e1 : z 70 = .bool false := hz 1 _ (hw 1 (by kernel_rfl)) rfl
                            have e3 : z 72 = .slice (some ⟨b2, off2, none⟩) n c := hz 3 _ (hw 3 (by kernel_rfl)) rfl
                            have e4 : z 73 = .int .i64 (k : Nat) := hz 4 _ (hw 4 (by kernel_rfl)) rfl
                            refine wpOp_want rfl (by simp [Region.wanted, yielded, e1]) ?_
                            go_simp
                            exact ⟨⟨by simp [hsz.out], hx.out⟩, upd z 74 (.pointer (some ⟨b2, off2 + k * 3, none⟩)), (by unfold Hid; simp [upd, e1, e3, e4]), hz.next apx hsz.out 5 (by decide) _ (fun _ h => Option.some.inj h), BefP.keep hb24 (by decide)⟩
                          · have e1 : z 70 = .bool false := hz 1 _ (hw 1 (by kernel_rfl)) rfl
                            have e5 : z 74 = .pointer (some ⟨b2, off2 + k * 3, none⟩) := hz 5 _ (hw 5 (by kernel_rfl)) rfl
                            refine wpOp_want rfl (by simp [Region.wanted, yielded, e1]) ?_
                            go_simp
                            exact ⟨⟨by simp [hsz.out], hx.out⟩, upd z 75 (.pointer (some ⟨b2, off2 + k * 3 + 1, none⟩)), (by unfold Hid; simp [upd, e1, e5]), hz.next apx hsz.out 6 (by decide) _ (fun _ h => Option.some.inj h), BefP.keep hb24 (by decide)⟩
                          · have e1 : z 70 = .bool false := hz 1 _ (hw 1 (by kernel_rfl)) rfl
                            have e6 : z 75 = .pointer (some ⟨b2, off2 + k * 3 + 1, none⟩) := hz 6 _ (hw 6 (by kernel_rfl)) rfl
                            have rg : wz.rangeAt b2 (off2 + k * 3 + 1) (lab r.a r.c).toList := fun j v hv => (hx.out.cell (p := ⟨b2, off2 + k * 3 + 1 + j, none⟩) (World.block_lt_of_cell? _ _ (Hrm.out j v hv))).trans (Hrm.out j v hv)
                            refine wpOp_want rfl (by simp [Region.wanted, yielded, e1]) (wp_load_mid 27 (.tmp 75) rfl b2 (off2 + k * 3 + 1) e6 (lab r.a r.c).toList _ rg Tryd.underlying27 rfl infoL2 ?_)
                            go_simp
                            exact ⟨⟨by simp [hsz.out], hx.out⟩, upd z 76 (.agg (lab r.a r.c)), (by unfold Hid; simp [upd, e1, e6]), hz.next apx hsz.out 7 (by decide) _ (fun _ h => Option.some.inj h), BefP.keep hb24 (by decide)⟩
                          · have e1 : z 70 = .bool false := hz 1 _ (hw 1 (by kernel_rfl)) rfl
                            refine wpOp_want rfl (by simp [Region.wanted, yielded, e1]) ?_
                            go_simp
                            exact ⟨⟨by simp [hsz.out], hx.out⟩, upd z 77 (.slice (some ⟨b, off, none⟩) m c2), (by unfold Hid; simp [upd, e1]), hz.next apx hsz.out 8 (by decide) _ (fun _ h => Option.some.inj h), BefP.keep hb24 (by decide)⟩
                          · have e1 : z 70 = .bool false := hz 1 _ (hw 1 (by kernel_rfl)) rfl
                            refine wpOp_want rfl (by simp [Region.wanted, yielded, e1]) ?_
                            go_simp
                            exact ⟨⟨by simp [hsz.out], hx.out⟩, upd z 78 (.int .i64 (j : Nat)), (by unfold Hid; simp [upd, e1]), hz.next apx hsz.out 9 (by decide) _ (fun _ h => Option.some.inj h), BefP.keep hb24 (by decide)⟩
                          · have e1 : z 70 = .bool false := hz 1 _ (hw 1 (by kernel_rfl)) rfl
                            have e8 : z 77 = .slice (some ⟨b, off, none⟩) m c2 := hz 8 _ (hw 8 (by kernel_rfl)) rfl
                            have e9 : z 78 = .int .i64 (j : Nat) := hz 9 _ (hw 9 (by kernel_rfl)) rfl
                            refine wpOp_want rfl (by simp [Region.wanted, yielded, e1]) ?_
                            go_simp
                            exact ⟨⟨by simp [hsz.out], hx.out⟩, upd z 79 (.pointer (some ⟨b, off + j * 2, none⟩)), (by unfold Hid; simp [upd, e1, e8, e9]), hz.next apx hsz.out 10 (by decide) _ (fun _ h => Option.some.inj h), BefP.keep hb24 (by decide)⟩
                          · have e1 : z 70 = .bool false := hz 1 _ (hw 1 (by kernel_rfl)) rfl
                            have e10 : z 79 = .pointer (some ⟨b, off + j * 2, none⟩) := hz 10 _ (hw 10 (by kernel_rfl)) rfl
                            have rg : wz.rangeAt b (off + j * 2) (lab x.1 x.2).toList := fun j v hv => (hx.out.cell (p := ⟨b, off + _ * 2 + j, none⟩) (World.block_lt_of_cell? _ _ (Hrxk.out j v hv))).trans (Hrxk.out j v hv)
                            refine wpOp_want rfl (by simp [Region.wanted, yielded, e1]) (wp_load_mid 27 (.tmp 79) rfl b (off + j * 2) e10 (lab x.1 x.2).toList _ rg Tryd.underlying27 rfl infoL2 ?_)
                            go_simp
                            exact ⟨⟨by simp [hsz.out], hx.out⟩, upd z 80 (.agg (lab x.1 x.2)), (by unfold Hid; simp [upd, e1, e10]), hz.next apx hsz.out 11 (by decide) _ (fun _ h => Option.some.inj h), BefP.keep hb24 (by decide)⟩
                          · have e1 : z 70 = .bool false := hz 1 _ (hw 1 (by kernel_rfl)) rfl
                            have e7 : z 76 = .agg (lab r.a r.c) := hz 7 _ (hw 7 (by kernel_rfl)) rfl
                            have e11 : z 80 = .agg (lab x.1 x.2) := hz 11 _ (hw 11 (by kernel_rfl)) rfl
                            refine wpOp_want rfl (by simp [Region.wanted, yielded, e1]) ?_
                            go_simp
                            exact ⟨⟨by simp [hsz.out], hx.out⟩, upd z 81 (.bool true), (by unfold Hid; simp [upd, e1, e7, e11]), hz.next apx hsz.out 12 (by decide) _ (fun _ h => Option.some.inj h), BefP.keep hb24 (by decide)⟩
                          · have e1 : z 70 = .bool false := hz 1 _ (hw 1 (by kernel_rfl)) rfl
                            have e12 : z 81 = .bool true := hz 12 _ (hw 12 (by kernel_rfl)) rfl
                            refine wpOp_want rfl (by simp [Region.wanted, yielded, e1]) ?_
                            go_simp
                            exact ⟨⟨by simp [hsz.out], hx.out⟩, upd z 82 (.bool true), (by unfold Hid; simp [upd, e1, e12]), hz.next apx hsz.out 13 (by decide) _ (fun _ h => Option.some.inj h), BefP.keep hb24 (by decide)⟩
                          · have e13 : z 82 = .bool true := hz 13 _ (hw 13 (by kernel_rfl)) rfl
                            refine wpOp_want rfl (by simp [Region.wanted, yielded, e13]) ?_
                            go_simp
                            exact ⟨⟨by simp [hsz.out], hx.out⟩, upd z 83 (.string q), (by unfold Hid; simp [upd, e13]), hz.next apx hsz.out 14 (by decide) _ (fun _ h => Option.some.inj h), BefP.keep hb24 (by decide)⟩
                          · have e13 : z 82 = .bool true := hz 13 _ (hw 13 (by kernel_rfl)) rfl
                            refine wpOp_want rfl (by simp [Region.wanted, yielded, e13]) ?_
                            go_simp
                            exact ⟨⟨by simp [hsz.out], hx.out⟩, upd z 84 (.pointer (some ⟨tb, 1, none⟩)), (by unfold Hid; simp [upd, e13]), hz.next apx hsz.out 15 (by decide) _ (fun _ h => Option.some.inj h), BefP.keep hb24 (by decide)⟩
                          · have e13 : z 82 = .bool true := hz 13 _ (hw 13 (by kernel_rfl)) rfl
                            have e15 : z 84 = .pointer (some ⟨tb, 1, none⟩) := hz 15 _ (hw 15 (by kernel_rfl)) rfl
                            have cl : wz.cell? ⟨tb, 1, none⟩ = some (.slice (some ⟨b2, off2, none⟩) n c) := (hx.out.cell (p := ⟨tb, 1, none⟩) (World.block_lt_of_cell? _ _ Hcs.out)).trans Hcs.out
                            refine wpOp_want rfl (by simp [Region.wanted, yielded, e13]) ?_
                            go_simp
                            exact ⟨⟨by simp [hsz.out], hx.out⟩, upd z 85 (.slice (some ⟨b2, off2, none⟩) n c), (by unfold Hid; simp [upd, e13, e15]), hz.next apx hsz.out 16 (by decide) _ (fun _ h => Option.some.inj h), BefP.keep hb24 (by decide)⟩
                          · have e13 : z 82 = .bool true := hz 13 _ (hw 13 (by kernel_rfl)) rfl
                            refine wpOp_want rfl (by simp [Region.wanted, yielded, e13]) ?_
                            go_simp
                            exact ⟨⟨by simp [hsz.out], hx.out⟩, upd z 86 (.int .i64 (k : Nat)), (by unfold Hid; simp [upd, e13]), hz.next apx hsz.out 17 (by decide) _ (fun _ h => Option.some.inj h), BefP.keep hb24 (by decide)⟩
                          · have e13 : z 82 = .bool true := hz 13 _ (hw 13 (by kernel_rfl)) rfl
                            have e16 : z 85 = .slice (some ⟨b2, off2, none⟩) n c := hz 16 _ (hw 16 (by kernel_rfl)) rfl
                            have e17 : z 86 = .int .i64 (k : Nat) := hz 17 _ (hw 17 (by kernel_rfl)) rfl
                            refine wpOp_want rfl (by simp [Region.wanted, yielded, e13]) ?_
                            go_simp
                            exact ⟨⟨by simp [hsz.out], hx.out⟩, upd z 87 (.pointer (some ⟨b2, off2 + k * 3, none⟩)), (by unfold Hid; simp [upd, e13, e16, e17]), hz.next apx hsz.out 18 (by decide) _ (fun _ h => Option.some.inj h), BefP.keep hb24 (by decide)⟩
                          · have e13 : z 82 = .bool true := hz 13 _ (hw 13 (by kernel_rfl)) rfl
                            have e18 : z 87 = .pointer (some ⟨b2, off2 + k * 3, none⟩) := hz 18 _ (hw 18 (by kernel_rfl)) rfl
                            refine wpOp_want rfl (by simp [Region.wanted, yielded, e13]) ?_
                            go_simp
                            exact ⟨⟨by simp [hsz.out], hx.out⟩, upd z 88 (.pointer (some ⟨b2, off2 + k * 3, none⟩)), (by unfold Hid; simp [upd, e13, e18]), hz.next apx hsz.out 19 (by decide) _ (fun _ h => Option.some.inj h), BefP.keep hb24 (by decide)⟩
                          · have e13 : z 82 = .bool true := hz 13 _ (hw 13 (by kernel_rfl)) rfl
                            have e19 : z 88 = .pointer (some ⟨b2, off2 + k * 3, none⟩) := hz 19 _ (hw 19 (by kernel_rfl)) rfl
                            have cl : wz.cell? ⟨b2, off2 + k * 3, none⟩ = some (.string r.p) := (hx.out.cell (p := ⟨b2, off2 + k * 3, none⟩) (World.block_lt_of_cell? _ _ Hrp.out)).trans Hrp.out
                            refine wpOp_want rfl (by simp [Region.wanted, yielded, e13]) ?_
                            go_simp
                            exact ⟨⟨by simp [hsz.out], hx.out⟩, upd z 89 (.string r.p), (by unfold Hid; simp [upd, e13, e19]), hz.next apx hsz.out 20 (by decide) _ (fun _ h => Option.some.inj h), BefP.keep hb24 (by decide)⟩
                          · have e13 : z 82 = .bool true := hz 13 _ (hw 13 (by kernel_rfl)) rfl
                            have e14 : z 83 = .string q := hz 14 _ (hw 14 (by kernel_rfl)) rfl
                            have e20 : z 89 = .string r.p := hz 20 _ (hw 20 (by kernel_rfl)) rfl
                            refine wpOp_want rfl (by simp [Region.wanted, yielded, e13]) ?_
                            go_simp
                            go_at_call 14
                            refine (HOr.out wz (Hlk.out.trans (hx.out.mono Hlk.out.size))).mono ?_
                            rintro e w' ⟨rfl, low⟩
                            exact ⟨⟨by simp [hsz.out], hx.out.trans (low.mono hx.out.size)⟩, upd z 90 (.bool ov), (by unfold Hid; simp [upd, e13, e14, e20]), hz.next apx hsz.out 21 (by decide) _ (fun _ h => Option.some.inj h), BefP.keep hb24 (by decide)⟩
                          · have e1 : z 70 = .bool false := hz 1 _ (hw 1 (by kernel_rfl)) rfl
                            have e13 : z 82 = .bool true := hz 13 _ (hw 13 (by kernel_rfl)) rfl
                            have e21 : z 90 = .bool ov := hz 21 _ (hw 21 (by kernel_rfl)) rfl
                            refine wpOp_want rfl (by simp [Region.wanted, yielded, e1]) ?_
                            go_simp
                            exact ⟨⟨by simp [hsz.out], hx.out⟩, upd z 91 (.bool ov), (by unfold Hid; simp [upd, e1, e13, e21]), hz.next apx hsz.out 22 (by decide) _ (fun _ h => Option.some.inj h), BefP.keep hb24 (by decide)⟩
                          · have e1 : z 70 = .bool false := hz 1 _ (hw 1 (by kernel_rfl)) rfl
                            have e22 : z 91 = .bool ov := hz 22 _ (hw 22 (by kernel_rfl)) rfl
                            refine wpOp_plain rfl rfl ?_
                            go_simp
                            exact ⟨⟨by simp [hsz.out], hx.out⟩, upd z 92 (.bool ov), (by unfold Hid; simp [upd, e1, e22]), hz.next apx hsz.out 23 (by decide) _ (fun _ h => Option.some.inj h), BefP.keep hb24 (by decide)⟩
                          · have e23 : z 92 = .bool ov := hz 23 _ (hw 23 (by kernel_rfl)) rfl
                            refine wpOp_plain rfl rfl ?_
                            go_simp
                            exact ⟨⟨by simp [hsz.out], hx.out⟩, upd z 10 (.bool ov), (by unfold Hid; simp [upd, e23]), hz.next apx hsz.out 24 (by decide) _ (fun _ h => Option.some.inj h), BefP.past (by rw [hsz.out]; decide)⟩
                        · exact ⟨⟨rfl, (Below.refl _ _).drew⟩, fun xx => (#[.agg (tabV v (some ⟨b2, off2, none⟩) n c), .string q, .string s, .pointer (some ⟨tb, 0, none⟩), undef, undef, u6, .slice (some ⟨b, off, none⟩) m c2, .bool true, .int .i64 (j : Nat), .bool false, .int .i64 (k : Nat), .agg (tabV v (some ⟨b2, off2, none⟩) n c), .string s, .bool false, .bool false, .string q, .int .i64 (q.size : Nat), .bool (decide ((200 : Int) < (q.size : Nat))), .bool (decide ((200 : Int) < (q.size : Nat))), .bool (decide ((200 : Int) < (q.size : Nat))), .string q, .bool true, .bool true, .string q, .int .i64 0, .bool false, .bool false, .bool (decide ((200 : Int) < (q.size : Nat))), undef, .agg (tabV v (some ⟨b2, off2, none⟩) n c), .string q, .slice (some ⟨b, off, none⟩) m c2, .string q, .string s, .bool cv, .bool !cv, .int .i64 (j : Nat), .slice (some ⟨b, off, none⟩) m c2, .int .i64 (m : Nat), .bool true, u41, u42, y43, y44, y45, y46, y47, y48, y49, y50, y51, y52, y53, y54, y55, y56, y57, y58, y59, y60, y61, .int .i64 (k : Nat), .pointer (some ⟨tb, 1, none⟩), .slice (some ⟨b2, off2, none⟩) n c, .int .i64 (n : Nat), .bool true, u67, u68, u69, u70, u71, u72, u73, u74, u75, u76, u77, u78, u79, u80, u81, u82, u83, u84, u85, u86, u87, u88, u89, u90, u91, u92, u93, u94, undef, undef, undef, undef] : Array Value).getD xx undef, (by rfl), Holding.start, BefP.start rfl⟩
                      | false =>
                        have apx : apartB [69, 70, 71, 72, 73, 74, 75, 76, 77, 78, 79, 80, 81, 82, 83, 84, 85, 86, 87, 88, 89, 90, 91, 92, 10] = true := by decide
                        refine wp_region_any (by kernel_rfl) ?_
                        change wpAny _ _ _ _ _ _ _ (World.drew _)
                        refine wpAny_inv2 (fun ll aa wz => Hid (ll.size = 25 ∧ Below wr.heap.size wr wz) ∧ ∃ (z : Nat → Value), Hid (aa = ⟨#[.agg (tabV v (some ⟨b2, off2, none⟩) n c), .string q, .string s, .pointer (some ⟨tb, 0, none⟩), undef, undef, u6, .slice (some ⟨b, off, none⟩) m c2, .bool true, .int .i64 (j : Nat), z 10, .int .i64 (k : Nat), .agg (tabV v (some ⟨b2, off2, none⟩) n c), .string s, .bool false, .bool false, .string q, .int .i64 (q.size : Nat), .bool (decide ((200 : Int) < (q.size : Nat))), .bool (decide ((200 : Int) < (q.size : Nat))), .bool (decide ((200 : Int) < (q.size : Nat))), .string q, .bool true, .bool true, .string q, .int .i64 0, .bool false, .bool false, .bool (decide ((200 : Int) < (q.size : Nat))), undef, .agg (tabV v (some ⟨b2, off2, none⟩) n c), .string q, .slice (some ⟨b, off, none⟩) m c2, .string q, .string s, .bool cv, .bool !cv, .int .i64 (j : Nat), .slice (some ⟨b, off, none⟩) m c2, .int .i64 (m : Nat), .bool true, u41, u42, y43, y44, y45, y46, y47, y48, y49, y50, y51, y52, y53, y54, y55, y56, y57, y58, y59, y60, y61, .int .i64 (k : Nat), .pointer (some ⟨tb, 1, none⟩), .slice (some ⟨b2, off2, none⟩) n c, .int .i64 (n : Nat), .bool true, u67, u68, z 69, z 70, z 71, z 72, z 73, z 74, z 75, z 76, z 77, z 78, z 79, z 80, z 81, z 82, z 83, z 84, z 85, z 86, z 87, z 88, z 89, z 90, z 91, z 92, u93, u94, undef, undef, undef, undef], []⟩) ∧ Holding [69, 70, 71, 72, 73, 74, 75, 76, 77, 78, 79, 80, 81, 82, 83, 84, 85, 86, 87, 88, 89, 90, 91, 92, 10] [some (.bool false), some (.bool false), some (.pointer (some ⟨tb, 1, none⟩)), some (.slice (some ⟨b2, off2, none⟩) n c), some (.int .i64 (k : Nat)), some (.pointer (some ⟨b2, off2 + k * 3, none⟩)), some (.pointer (some ⟨b2, off2 + k * 3 + 1, none⟩)), some (.agg (lab r.a r.c)), some (.slice (some ⟨b, off, none⟩) m c2), some (.int .i64 (j : Nat)), some (.pointer (some ⟨b, off + j * 2, none⟩)), some (.agg (lab x.1 x.2)), some (.bool false), some (.bool false), some (undef), some (undef), some (undef), some (undef), some (undef), some (undef), some (undef), some (undef), some (.bool false), some (.bool false), some (.bool false)] ll z ∧ BefP ll 24 z 10 (.bool false)) ?_ (by kernel_rfl) ?_ ?_ _ rfl _ _ ?_
                        · rintro ll aa wz ⟨hI, _⟩
                          exact hI.out.1
                        · rintro ll aa wz ⟨hI, z, ha, hz, hb24⟩ hall
                          have hx := Lib.hid hI.out.2
                          have e0 : z 69 = .bool false := hz 0 _ (hall 0 (by decide)) rfl
                          have e1 : z 70 = .bool false := hz 1 _ (hall 1 (by decide)) rfl
                          have e2 : z 71 = .pointer (some ⟨tb, 1, none⟩) := hz 2 _ (hall 2 (by decide)) rfl
                          have e3 : z 72 = .slice (some ⟨b2, off2, none⟩) n c := hz 3 _ (hall 3 (by decide)) rfl
                          have e4 : z 73 = .int .i64 (k : Nat) := hz 4 _ (hall 4 (by decide)) rfl
                          have e5 : z 74 = .pointer (some ⟨b2, off2 + k * 3, none⟩) := hz 5 _ (hall 5 (by decide)) rfl
                          have e6 : z 75 = .pointer (some ⟨b2, off2 + k * 3 + 1, none⟩) := hz 6 _ (hall 6 (by decide)) rfl
                          have e7 : z 76 = .agg (lab r.a r.c) := hz 7 _ (hall 7 (by decide)) rfl
                          have e8 : z 77 = .slice (some ⟨b, off, none⟩) m c2 := hz 8 _ (hall 8 (by decide)) rfl
                          have e9 : z 78 = .int .i64 (j : Nat) := hz 9 _ (hall 9 (by decide)) rfl
                          have e10 : z 79 = .pointer (some ⟨b, off + j * 2, none⟩) := hz 10 _ (hall 10 (by decide)) rfl
                          have e11 : z 80 = .agg (lab x.1 x.2) := hz 11 _ (hall 11 (by decide)) rfl
                          have e12 : z 81 = .bool false := hz 12 _ (hall 12 (by decide)) rfl
                          have e13 : z 82 = .bool false := hz 13 _ (hall 13 (by decide)) rfl
                          have e14 : z 83 = undef := hz 14 _ (hall 14 (by decide)) rfl
                          have e15 : z 84 = undef := hz 15 _ (hall 15 (by decide)) rfl
                          have e16 : z 85 = undef := hz 16 _ (hall 16 (by decide)) rfl
                          have e17 : z 86 = undef := hz 17 _ (hall 17 (by decide)) rfl
                          have e18 : z 87 = undef := hz 18 _ (hall 18 (by decide)) rfl
                          have e19 : z 88 = undef := hz 19 _ (hall 19 (by decide)) rfl
                          have e20 : z 89 = undef := hz 20 _ (hall 20 (by decide)) rfl
                          have e21 : z 90 = undef := hz 21 _ (hall 21 (by decide)) rfl
                          have e22 : z 91 = .bool false := hz 22 _ (hall 22 (by decide)) rfl
                          have e23 : z 92 = .bool false := hz 23 _ (hall 23 (by decide)) rfl
                          have e24 : z 10 = .bool false := hz 24 _ (hall 24 (by decide)) rfl
                          clear hall hz hI hb24
                          obtain rfl := ha.out
                          clear ha
                          clear apx
                          have E := Lib.hid e24
                          have HK := Lib.hid (hI2.out.trans (hx.out.mono hI2.out.size))
                          clear e0 e1 e2 e3 e4 e5 e6 e7 e8 e9 e10 e11 e12 e13 e14 e15 e16 e17 e18 e19 e20 e21 e22 e23 e24 hx hI2
                          dsimp only
                          rw [E.out]
                          clear E
                          generalize z 69 = y69
                          generalize z 70 = y70
                          generalize z 71 = y71
                          generalize z 72 = y72
                          generalize z 73 = y73
                          generalize z 74 = y74
                          generalize z 75 = y75
                          generalize z 76 = y76
                          generalize z 77 = y77
                          generalize z 78 = y78
                          generalize z 79 = y79
                          generalize z 80 = y80
                          generalize z 81 = y81
                          generalize z 82 = y82
                          generalize z 83 = y83
                          generalize z 84 = y84
                          generalize z 85 = y85
                          generalize z 86 = y86
                          generalize z 87 = y87
                          generalize z 88 = y88
                          generalize z 89 = y89
                          generalize z 90 = y90
                          generalize z 91 = y91
                          generalize z 92 = y92
                          clear z
                          go_wp2
                          go_roundw
                          case rel => exact ⟨k + 1, by omega, by go_num, by rw [Hk1.out]; rfl, HK.out⟩
                          case measure => simp [intOf]; omega
                        · rintro ll aa wz i ⟨hI, z, ha, hz, hb24⟩ hcl hi hu hw
                          obtain rfl := ha.out
                          have hsz := Lib.hid hI.out.1
                          have hx := Lib.hid hI.out.2
                          clear ha hI
                          have hin : i < 25 := hi
                          obtain rfl | rfl | rfl | rfl | rfl | rfl | rfl | rfl | rfl | rfl | rfl | rfl | rfl | rfl | rfl | rfl | rfl | rfl | rfl | rfl | rfl | rfl | rfl | rfl | rfl : i = 0 ∨ i = 1 ∨ i = 2 ∨ i = 3 ∨ i = 4 ∨ i = 5 ∨ i = 6 ∨ i = 7 ∨ i = 8 ∨ i = 9 ∨ i = 10 ∨ i = 11 ∨ i = 12 ∨ i = 13 ∨ i = 14 ∨ i = 15 ∨ i = 16 ∨ i = 17 ∨ i = 18 ∨ i = 19 ∨ i = 20 ∨ i = 21 ∨ i = 22 ∨ i = 23 ∨ i = 24 := by omega
                          · have b24 : z 10 = .bool false := hb24 (BefP.ok (fun hl => hcl 24 0 hl (by kernel_rfl)) hu)
                            refine wpOp_plain rfl rfl ?_
                            go_simp
                            exact ⟨⟨by simp [hsz.out], hx.out⟩, upd z 69 (.bool false), (by unfold Hid; simp [upd, b24]), hz.next apx hsz.out 0 (by decide) _ (fun _ h => Option.some.inj h), BefP.keep hb24 (by decide)⟩
                          · have e0 : z 69 = .bool false := hz 0 _ (hw 0 (by kernel_rfl)) rfl
                            refine wpOp_plain rfl rfl ?_
                            go_simp
                            exact ⟨⟨by simp [hsz.out], hx.out⟩, upd z 70 (.bool false), (by unfold Hid; simp [upd, e0]), hz.next apx hsz.out 1 (by decide) _ (fun _ h => Option.some.inj h), BefP.keep hb24 (by decide)⟩
                          · have e1 : z 70 = .bool false := hz 1 _ (hw 1 (by kernel_rfl)) rfl
                            refine wpOp_want rfl (by simp [Region.wanted, yielded, e1]) ?_
                            go_simp
                            exact ⟨⟨by simp [hsz.out], hx.out⟩, upd z 71 (.pointer (some ⟨tb, 1, none⟩)), (by unfold Hid; simp [upd, e1]), hz.next apx hsz.out 2 (by decide) _ (fun _ h => Option.some.inj h), BefP.keep hb24 (by decide)⟩
                          · have e1 : z 70 = .bool false := hz 1 _ (hw 1 (by kernel_rfl)) rfl
                            have e2 : z 71 = .pointer (some ⟨tb, 1, none⟩) := hz 2 _ (hw 2 (by kernel_rfl)) rfl
                            have cl : wz.cell? ⟨tb, 1, none⟩ = some (.slice (some ⟨b2, off2, none⟩) n c) := (hx.out.cell (p := ⟨tb, 1, none⟩) (World.block_lt_of_cell? _ _ Hcs.out)).trans Hcs.out
                            refine wpOp_want rfl (by simp [Region.wanted, yielded, e1]) ?_
                            go_simp
                            exact ⟨⟨by simp [hsz.out], hx.out⟩, upd z 72 (.slice (some ⟨b2, off2, none⟩) n c), (by unfold Hid; simp [upd, e1, e2]), hz.next apx hsz.out 3 (by decide) _ (fun _ h => Option.some.inj h), BefP.keep hb24 (by decide)⟩
                          · have e1 : z 70 = .bool false := hz 1 _ (hw 1 (by kernel_rfl)) rfl
                            refine wpOp_want rfl (by simp [Region.wanted, yielded, e1]) ?_
                            go_simp
                            exact ⟨⟨by simp [hsz.out], hx.out⟩, upd z 73 (.int .i64 (k : Nat)), (by unfold Hid; simp [upd, e1]), hz.next apx hsz.out 4 (by decide) _ (fun _ h => Option.some.inj h), BefP.keep hb24 (by decide)⟩
                          · have e1 : z 70 = .bool false := hz 1 _ (hw 1 (by kernel_rfl)) rfl
                            have e3 : z 72 = .slice (some ⟨b2, off2, none⟩) n c := hz 3 _ (hw 3 (by kernel_rfl)) rfl
                            have e4 : z 73 = .int .i64 (k : Nat) := hz 4 _ (hw 4 (by kernel_rfl)) rfl
                            refine wpOp_want rfl (by simp [Region.wanted, yielded, e1]) ?_
                            go_simp
                            exact ⟨⟨by simp [hsz.out], hx.out⟩, upd z 74 (.pointer (some ⟨b2, off2 + k * 3, none⟩)), (by unfold Hid; simp [upd, e1, e3, e4]), hz.next apx hsz.out 5 (by decide) _ (fun _ h => Option.some.inj h), BefP.keep hb24 (by decide)⟩
                          · have e1 : z 70 = .bool false := hz 1 _ (hw 1 (by kernel_rfl)) rfl
                            have e5 : z 74 = .pointer (some ⟨b2, off2 + k * 3, none⟩) := hz 5 _ (hw 5 (by kernel_rfl)) rfl
                            refine wpOp_want rfl (by simp [Region.wanted, yielded, e1]) ?_
                            go_simp
                            exact ⟨⟨by simp [hsz.out], hx.out⟩, upd z 75 (.pointer (some ⟨b2, off2 + k * 3 + 1, none⟩)), (by unfold Hid; simp [upd, e1, e5]), hz.next apx hsz.out 6 (by decide) _ (fun _ h => Option.some.inj h), BefP.keep hb24 (by decide)⟩
                          · have e1 : z 70 = .bool false := hz 1 _ (hw 1 (by kernel_rfl)) rfl
                            have e6 : z 75 = .pointer (some ⟨b2, off2 + k * 3 + 1, none⟩) := hz 6 _ (hw 6 (by kernel_rfl)) rfl
                            have rg : wz.rangeAt b2 (off2 + k * 3 + 1) (lab r.a r.c).toList := fun j v hv => (hx.out.cell (p := ⟨b2, off2 + k * 3 + 1 + j, none⟩) (World.block_lt_of_cell? _ _ (Hrm.out j v hv))).trans (Hrm.out j v hv)
                            refine wpOp_want rfl (by simp [Region.wanted, yielded, e1]) (wp_load_mid 27 (.tmp 75) rfl b2 (off2 + k * 3 + 1) e6 (lab r.a r.c).toList _ rg Tryd.underlying27 rfl infoL2 ?_)
                            go_simp
                            exact ⟨⟨by simp [hsz.out], hx.out⟩, upd z 76 (.agg (lab r.a r.c)), (by unfold Hid; simp [upd, e1, e6]), hz.next apx hsz.out 7 (by decide) _ (fun _ h => Option.some.inj h), BefP.keep hb24 (by decide)⟩
                          · have e1 : z 70 = .bool false := hz 1 _ (hw 1 (by kernel_rfl)) rfl
                            refine wpOp_want rfl (by simp [Region.wanted, yielded, e1]) ?_
                            go_simp
                            exact ⟨⟨by simp [hsz.out], hx.out⟩, upd z 77 (.slice (some ⟨b, off, none⟩) m c2), (by unfold Hid; simp [upd, e1]), hz.next apx hsz.out 8 (by decide) _ (fun _ h => Option.some.inj h), BefP.keep hb24 (by decide)⟩
                          · have e1 : z 70 = .bool false := hz 1 _ (hw 1 (by kernel_rfl)) rfl
                            refine wpOp_want rfl (by simp [Region.wanted, yielded, e1]) ?_
                            go_simp
                            exact ⟨⟨by simp [hsz.out], hx.out⟩, upd z 78 (.int .i64 (j : Nat)), (by unfold Hid; simp [upd, e1]), hz.next apx hsz.out 9 (by decide) _ (fun _ h => Option.some.inj h), BefP.keep hb24 (by decide)⟩
                          · have e1 : z 70 = .bool false := hz 1 _ (hw 1 (by kernel_rfl)) rfl
                            have e8 : z 77 = .slice (some ⟨b, off, none⟩) m c2 := hz 8 _ (hw 8 (by kernel_rfl)) rfl
                            have e9 : z 78 = .int .i64 (j : Nat) := hz 9 _ (hw 9 (by kernel_rfl)) rfl
                            refine wpOp_want rfl (by simp [Region.wanted, yielded, e1]) ?_
                            go_simp
                            exact ⟨⟨by simp [hsz.out], hx.out⟩, upd z 79 (.pointer (some ⟨b, off + j * 2, none⟩)), (by unfold Hid; simp [upd, e1, e8, e9]), hz.next apx hsz.out 10 (by decide) _ (fun _ h => Option.some.inj h), BefP.keep hb24 (by decide)⟩
                          · have e1 : z 70 = .bool false := hz 1 _ (hw 1 (by kernel_rfl)) rfl
                            have e10 : z 79 = .pointer (some ⟨b, off + j * 2, none⟩) := hz 10 _ (hw 10 (by kernel_rfl)) rfl
                            have rg : wz.rangeAt b (off + j * 2) (lab x.1 x.2).toList := fun j v hv => (hx.out.cell (p := ⟨b, off + _ * 2 + j, none⟩) (World.block_lt_of_cell? _ _ (Hrxk.out j v hv))).trans (Hrxk.out j v hv)
                            refine wpOp_want rfl (by simp [Region.wanted, yielded, e1]) (wp_load_mid 27 (.tmp 79) rfl b (off + j * 2) e10 (lab x.1 x.2).toList _ rg Tryd.underlying27 rfl infoL2 ?_)
                            go_simp
                            exact ⟨⟨by simp [hsz.out], hx.out⟩, upd z 80 (.agg (lab x.1 x.2)), (by unfold Hid; simp [upd, e1, e10]), hz.next apx hsz.out 11 (by decide) _ (fun _ h => Option.some.inj h), BefP.keep hb24 (by decide)⟩
                          · have e1 : z 70 = .bool false := hz 1 _ (hw 1 (by kernel_rfl)) rfl
                            have e7 : z 76 = .agg (lab r.a r.c) := hz 7 _ (hw 7 (by kernel_rfl)) rfl
                            have e11 : z 80 = .agg (lab x.1 x.2) := hz 11 _ (hw 11 (by kernel_rfl)) rfl
                            refine wpOp_want rfl (by simp [Region.wanted, yielded, e1]) ?_
                            go_simp
                            exact ⟨⟨by simp [hsz.out], hx.out⟩, upd z 81 (.bool false), (by unfold Hid; simp [upd, e1, e7, e11]), hz.next apx hsz.out 12 (by decide) _ (fun _ h => Option.some.inj h), BefP.keep hb24 (by decide)⟩
                          · have e1 : z 70 = .bool false := hz 1 _ (hw 1 (by kernel_rfl)) rfl
                            have e12 : z 81 = .bool false := hz 12 _ (hw 12 (by kernel_rfl)) rfl
                            refine wpOp_want rfl (by simp [Region.wanted, yielded, e1]) ?_
                            go_simp
                            exact ⟨⟨by simp [hsz.out], hx.out⟩, upd z 82 (.bool false), (by unfold Hid; simp [upd, e1, e12]), hz.next apx hsz.out 13 (by decide) _ (fun _ h => Option.some.inj h), BefP.keep hb24 (by decide)⟩
                          · have e13 : z 82 = .bool false := hz 13 _ (hw 13 (by kernel_rfl)) rfl
                            refine wpOp_skip rfl (by simp [Region.wanted, yielded, e13]) ?_
                            go_simp
                            exact ⟨⟨by simp [hsz.out], hx.out⟩, upd z 83 (undef), (by unfold Hid; simp [upd, e13]), hz.next apx hsz.out 14 (by decide) _ (fun _ h => Option.some.inj h), BefP.keep hb24 (by decide)⟩
                          · have e13 : z 82 = .bool false := hz 13 _ (hw 13 (by kernel_rfl)) rfl
                            refine wpOp_skip rfl (by simp [Region.wanted, yielded, e13]) ?_
                            go_simp
                            exact ⟨⟨by simp [hsz.out], hx.out⟩, upd z 84 (undef), (by unfold Hid; simp [upd, e13]), hz.next apx hsz.out 15 (by decide) _ (fun _ h => Option.some.inj h), BefP.keep hb24 (by decide)⟩
                          · have e13 : z 82 = .bool false := hz 13 _ (hw 13 (by kernel_rfl)) rfl
                            refine wpOp_skip rfl (by simp [Region.wanted, yielded, e13]) ?_
                            go_simp
                            exact ⟨⟨by simp [hsz.out], hx.out⟩, upd z 85 (undef), (by unfold Hid; simp [upd, e13]), hz.next apx hsz.out 16 (by decide) _ (fun _ h => Option.some.inj h), BefP.keep hb24 (by decide)⟩
                          · have e13 : z 82 = .bool false := hz 13 _ (hw 13 (by kernel_rfl)) rfl
                            refine wpOp_skip rfl (by simp [Region.wanted, yielded, e13]) ?_
                            go_simp
                            exact ⟨⟨by simp [hsz.out], hx.out⟩, upd z 86 (undef), (by unfold Hid; simp [upd, e13]), hz.next apx hsz.out 17 (by decide) _ (fun _ h => Option.some.inj h), BefP.keep hb24 (by decide)⟩
                          · have e13 : z 82 = .bool false := hz 13 _ (hw 13 (by kernel_rfl)) rfl
                            refine wpOp_skip rfl (by simp [Region.wanted, yielded, e13]) ?_
                            go_simp
                            exact ⟨⟨by simp [hsz.out], hx.out⟩, upd z 87 (undef), (by unfold Hid; simp [upd, e13]), hz.next apx hsz.out 18 (by decide) _ (fun _ h => Option.some.inj h), BefP.keep hb24 (by decide)⟩
                          · have e13 : z 82 = .bool false := hz 13 _ (hw 13 (by kernel_rfl)) rfl
                            refine wpOp_skip rfl (by simp [Region.wanted, yielded, e13]) ?_
                            go_simp
                            exact ⟨⟨by simp [hsz.out], hx.out⟩, upd z 88 (undef), (by unfold Hid; simp [upd, e13]), hz.next apx hsz.out 19 (by decide) _ (fun _ h => Option.some.inj h), BefP.keep hb24 (by decide)⟩
                          · have e13 : z 82 = .bool false := hz 13 _ (hw 13 (by kernel_rfl)) rfl
                            refine wpOp_skip rfl (by simp [Region.wanted, yielded, e13]) ?_
                            go_simp
                            exact ⟨⟨by simp [hsz.out], hx.out⟩, upd z 89 (undef), (by unfold Hid; simp [upd, e13]), hz.next apx hsz.out 20 (by decide) _ (fun _ h => Option.some.inj h), BefP.keep hb24 (by decide)⟩
                          · have e13 : z 82 = .bool false := hz 13 _ (hw 13 (by kernel_rfl)) rfl
                            refine wpOp_skip rfl (by simp [Region.wanted, yielded, e13]) ?_
                            go_simp
                            exact ⟨⟨by simp [hsz.out], hx.out⟩, upd z 90 (undef), (by unfold Hid; simp [upd, e13]), hz.next apx hsz.out 21 (by decide) _ (fun _ h => Option.some.inj h), BefP.keep hb24 (by decide)⟩
                          · have e1 : z 70 = .bool false := hz 1 _ (hw 1 (by kernel_rfl)) rfl
                            have e13 : z 82 = .bool false := hz 13 _ (hw 13 (by kernel_rfl)) rfl
                            refine wpOp_want rfl (by simp [Region.wanted, yielded, e1]) ?_
                            go_simp
                            exact ⟨⟨by simp [hsz.out], hx.out⟩, upd z 91 (.bool false), (by unfold Hid; simp [upd, e1, e13]), hz.next apx hsz.out 22 (by decide) _ (fun _ h => Option.some.inj h), BefP.keep hb24 (by decide)⟩
                          · have e1 : z 70 = .bool false := hz 1 _ (hw 1 (by kernel_rfl)) rfl
                            have e22 : z 91 = .bool false := hz 22 _ (hw 22 (by kernel_rfl)) rfl
                            refine wpOp_plain rfl rfl ?_
                            go_simp
                            exact ⟨⟨by simp [hsz.out], hx.out⟩, upd z 92 (.bool false), (by unfold Hid; simp [upd, e1, e22]), hz.next apx hsz.out 23 (by decide) _ (fun _ h => Option.some.inj h), BefP.keep hb24 (by decide)⟩
                          · have e23 : z 92 = .bool false := hz 23 _ (hw 23 (by kernel_rfl)) rfl
                            refine wpOp_plain rfl rfl ?_
                            go_simp
                            exact ⟨⟨by simp [hsz.out], hx.out⟩, upd z 10 (.bool false), (by unfold Hid; simp [upd, e23]), hz.next apx hsz.out 24 (by decide) _ (fun _ h => Option.some.inj h), BefP.past (by rw [hsz.out]; decide)⟩
                        · exact ⟨⟨rfl, (Below.refl _ _).drew⟩, fun xx => (#[.agg (tabV v (some ⟨b2, off2, none⟩) n c), .string q, .string s, .pointer (some ⟨tb, 0, none⟩), undef, undef, u6, .slice (some ⟨b, off, none⟩) m c2, .bool true, .int .i64 (j : Nat), .bool false, .int .i64 (k : Nat), .agg (tabV v (some ⟨b2, off2, none⟩) n c), .string s, .bool false, .bool false, .string q, .int .i64 (q.size : Nat), .bool (decide ((200 : Int) < (q.size : Nat))), .bool (decide ((200 : Int) < (q.size : Nat))), .bool (decide ((200 : Int) < (q.size : Nat))), .string q, .bool true, .bool true, .string q, .int .i64 0, .bool false, .bool false, .bool (decide ((200 : Int) < (q.size : Nat))), undef, .agg (tabV v (some ⟨b2, off2, none⟩) n c), .string q, .slice (some ⟨b, off, none⟩) m c2, .string q, .string s, .bool cv, .bool !cv, .int .i64 (j : Nat), .slice (some ⟨b, off, none⟩) m c2, .int .i64 (m : Nat), .bool true, u41, u42, y43, y44, y45, y46, y47, y48, y49, y50, y51, y52, y53, y54, y55, y56, y57, y58, y59, y60, y61, .int .i64 (k : Nat), .pointer (some ⟨tb, 1, none⟩), .slice (some ⟨b2, off2, none⟩) n c, .int .i64 (n : Nat), .bool true, u67, u68, u69, u70, u71, u72, u73, u74, u75, u76, u77, u78, u79, u80, u81, u82, u83, u84, u85, u86, u87, u88, u89, u90, u91, u92, u93, u94, undef, undef, undef, undef] : Array Value).getD xx undef, (by rfl), Holding.start, BefP.start rfl⟩
                  · have hgek : ¬ (k : Int) < n := by omega
                    have ekn : k = n := by omega
                    have HKn : Hid (KnJ q f2 x rs k = true) := by show _ = _; rw [ekn, ← Hn.out]; exact Hkn.out
                    have HZ := Lib.hid (HY.out.trans (hI2.out.mono HY.out.size))
                    rw [HKn.out]
                    clear ekn hk hltk hI2
                    go_wp2
                    go_roundw
                    case rel => exact ⟨j + 1, by omega, by go_num, by rw [Hj.out]; rfl, HZ.out⟩
                    case measure => simp [intOf]; omega
              · rintro ll aa wy i ⟨hI, z, ha, hz⟩ hi hu hw
                obtain rfl := ha.out
                have hsz := Lib.hid hI.out.1
                have hx := Lib.hid hI.out.2
                clear ha hI
                have hin : i < 9 := hi
                obtain rfl | rfl | rfl | rfl | rfl | rfl | rfl | rfl | rfl : i = 0 ∨ i = 1 ∨ i = 2 ∨ i = 3 ∨ i = 4 ∨ i = 5 ∨ i = 6 ∨ i = 7 ∨ i = 8 := by omega
                · refine wpOp_plain rfl rfl ?_
                  go_simp
                  exact ⟨⟨by simp [hsz.out], hx.out⟩, upd z 54 (.slice (some ⟨b, off, none⟩) m c2), (by unfold Hid; simp [upd]), hz.next apx hsz.out 0 (by decide) _ (fun _ h => Option.some.inj h)⟩
                · refine wpOp_plain rfl rfl ?_
                  go_simp
                  exact ⟨⟨by simp [hsz.out], hx.out⟩, upd z 55 (.int .i64 (j : Nat)), (by unfold Hid; simp [upd]), hz.next apx hsz.out 1 (by decide) _ (fun _ h => Option.some.inj h)⟩
                · have e0 : z 54 = .slice (some ⟨b, off, none⟩) m c2 := hz 0 _ (hw 0 (by kernel_rfl)) rfl
                  have e1 : z 55 = .int .i64 (j : Nat) := hz 1 _ (hw 1 (by kernel_rfl)) rfl
                  refine wpOp_plain rfl rfl ?_
                  go_simp
                  exact ⟨⟨by simp [hsz.out], hx.out⟩, upd z 56 (.pointer (some ⟨b, off + j * 2, none⟩)), (by unfold Hid; simp [upd, e0, e1]), hz.next apx hsz.out 2 (by decide) _ (fun _ h => Option.some.inj h)⟩
                · have e2 : z 56 = .pointer (some ⟨b, off + j * 2, none⟩) := hz 2 _ (hw 2 (by kernel_rfl)) rfl
                  have rg : wy.rangeAt b (off + j * 2) (lab x.1 x.2).toList := fun j v hv => (hx.out.cell (p := ⟨b, off + _ * 2 + j, none⟩) (World.block_lt_of_cell? _ _ (Hrx8.out j v hv))).trans (Hrx8.out j v hv)
                  refine wpOp_plain rfl rfl (wp_load_mid 27 (.tmp 56) rfl b (off + j * 2) e2 (lab x.1 x.2).toList _ rg Tryd.underlying27 rfl infoL2 ?_)
                  go_simp
                  exact ⟨⟨by simp [hsz.out], hx.out⟩, upd z 57 (.agg (lab x.1 x.2)), (by unfold Hid; simp [upd, e2]), hz.next apx hsz.out 3 (by decide) _ (fun _ h => Option.some.inj h)⟩
                · have cl := (hx.out.block _ (Array.getElem?_eq_some_iff.1 Hrb8.out).1).trans Hrb8.out
                  refine wpOp_plain rfl rfl (wp_load_row 24 (.tmp 3) rfl (tb) rfl 24 (tabV v A n c) (0, 0) _ cl Tryd.underlying24 rfl infoT ?_)
                  go_simp
                  exact ⟨⟨by simp [hsz.out], hx.out⟩, upd z 58 (.agg (tabV v A n c)), (by unfold Hid; simp [upd]), hz.next apx hsz.out 4 (by decide) _ (fun _ h => Option.some.inj h)⟩
                · refine wpOp_plain rfl rfl ?_
                  go_simp
                  exact ⟨⟨by simp [hsz.out], hx.out⟩, upd z 59 (.string q), (by unfold Hid; simp [upd]), hz.next apx hsz.out 5 (by decide) _ (fun _ h => Option.some.inj h)⟩
                · have e4 : z 58 = .agg (tabV v A n c) := hz 4 _ (hw 4 (by kernel_rfl)) rfl
                  have e5 : z 59 = .string q := hz 5 _ (hw 5 (by kernel_rfl)) rfl
                  refine wpOp_plain rfl rfl ?_
                  go_simp
                  go_at_call 15
                  refine (HFq.out wy (Hlx.out.trans (hx.out.mono Hlx.out.size))).mono ?_
                  rintro e w' ⟨rfl, low⟩
                  exact ⟨⟨by simp [hsz.out], hx.out.trans (low.mono hx.out.size)⟩, upd z 60 (.agg (lab f2.1 f2.2)), (by unfold Hid; simp [upd, e4, e5]), hz.next apx hsz.out 6 (by decide) _ (fun _ h => Option.some.inj h)⟩
                · have e3 : z 57 = .agg (lab x.1 x.2) := hz 3 _ (hw 3 (by kernel_rfl)) rfl
                  have e6 : z 60 = .agg (lab f2.1 f2.2) := hz 6 _ (hw 6 (by kernel_rfl)) rfl
                  refine wpOp_plain rfl rfl ?_
                  go_simp
                  exact ⟨⟨by simp [hsz.out], hx.out⟩, upd z 61 (.bool xf2), (by unfold Hid; simp [upd, e3, e6]), hz.next apx hsz.out 7 (by decide) _ (fun _ h => Option.some.inj h)⟩
                · have e7 : z 61 = .bool xf2 := hz 7 _ (hw 7 (by kernel_rfl)) rfl
                  refine wpOp_plain rfl rfl ?_
                  go_simp
                  exact ⟨⟨by simp [hsz.out], hx.out⟩, upd z 10 (.bool xf2), (by unfold Hid; simp [upd, e7]), hz.next apx hsz.out 8 (by decide) _ (fun _ h => Option.some.inj h)⟩
              · exact ⟨⟨rfl, (Below.refl _ _).drew⟩, fun xx => (#[.agg (tabV v A n c), .string q, .string s, .pointer (some ⟨tb, 0, none⟩), undef, undef, u6, .slice (some ⟨b, off, none⟩) m c2, .bool true, .int .i64 (j : Nat), u10, u11, .agg (tabV v A n c), .string s, .bool false, .bool false, .string q, .int .i64 (q.size : Nat), .bool (decide ((200 : Int) < (q.size : Nat))), .bool (decide ((200 : Int) < (q.size : Nat))), .bool (decide ((200 : Int) < (q.size : Nat))), .string q, .bool true, .bool true, .string q, .int .i64 0, .bool false, .bool false, .bool (decide ((200 : Int) < (q.size : Nat))), undef, .agg (tabV v A n c), .string q, .slice (some ⟨b, off, none⟩) m c2, .string q, .string s, .bool cv, .bool !cv, .int .i64 (j : Nat), .slice (some ⟨b, off, none⟩) m c2, .int .i64 (m : Nat), .bool true, u41, u42, y43, y44, y45, y46, y47, y48, y49, y50, y51, y52, y53, u54, u55, u56, u57, u58, u59, u60, u61, u62, u63, u64, u65, u66, u67, u68, u69, u70, u71, u72, u73, u74, u75, u76, u77, u78, u79, u80, u81, u82, u83, u84, u85, u86, u87, u88, u89, u90, u91, u92, u93, u94, undef, undef, undef, undef] : Array Value).getD xx undef, (by rfl), Holding.start⟩
            · rintro ll aa wx i ⟨hI, z, ha, hz, hb11⟩ hcl hi hu hw
              obtain rfl := ha.out
              have hsz := Lib.hid hI.out.1
              have hx := Lib.hid hI.out.2
              clear ha hI
              have hin : i < 12 := hi
              obtain rfl | rfl | rfl | rfl | rfl | rfl | rfl | rfl | rfl | rfl | rfl | rfl : i = 0 ∨ i = 1 ∨ i = 2 ∨ i = 3 ∨ i = 4 ∨ i = 5 ∨ i = 6 ∨ i = 7 ∨ i = 8 ∨ i = 9 ∨ i = 10 ∨ i = 11 := by omega
              · have b11 : z 8 = .bool true := hb11 (BefP.ok (fun hl => hcl 11 0 hl (by kernel_rfl)) hu)
                refine wpOp_plain rfl rfl ?_
                go_simp
                exact ⟨⟨by simp [hsz.out], hx.out⟩, upd z 43 (.bool true), (by unfold Hid; simp [upd, b11]), hz.next apx hsz.out 0 (by decide) _ (fun _ h => Option.some.inj h), BefP.keep hb11 (by decide)⟩
              · have e0 : z 43 = .bool true := hz 0 _ (hw 0 (by kernel_rfl)) rfl
                refine wpOp_plain rfl rfl ?_
                go_simp
                exact ⟨⟨by simp [hsz.out], hx.out⟩, upd z 44 (.bool true), (by unfold Hid; simp [upd, e0]), hz.next apx hsz.out 1 (by decide) _ (fun _ h => Option.some.inj h), BefP.keep hb11 (by decide)⟩
              · have e1 : z 44 = .bool true := hz 1 _ (hw 1 (by kernel_rfl)) rfl
                refine wpOp_skip rfl (by simp [Region.wanted, yielded, e1]) ?_
                go_simp
                exact ⟨⟨by simp [hsz.out], hx.out⟩, upd z 45 (undef), (by unfold Hid; simp [upd, e1]), hz.next apx hsz.out 2 (by decide) _ (fun _ h => Option.some.inj h), BefP.keep hb11 (by decide)⟩
              · have e1 : z 44 = .bool true := hz 1 _ (hw 1 (by kernel_rfl)) rfl
                refine wpOp_skip rfl (by simp [Region.wanted, yielded, e1]) ?_
                go_simp
                exact ⟨⟨by simp [hsz.out], hx.out⟩, upd z 46 (undef), (by unfold Hid; simp [upd, e1]), hz.next apx hsz.out 3 (by decide) _ (fun _ h => Option.some.inj h), BefP.keep hb11 (by decide)⟩
              · have e1 : z 44 = .bool true := hz 1 _ (hw 1 (by kernel_rfl)) rfl
                refine wpOp_skip rfl (by simp [Region.wanted, yielded, e1]) ?_
                go_simp
                exact ⟨⟨by simp [hsz.out], hx.out⟩, upd z 47 (undef), (by unfold Hid; simp [upd, e1]), hz.next apx hsz.out 4 (by decide) _ (fun _ h => Option.some.inj h), BefP.keep hb11 (by decide)⟩
              · have e1 : z 44 = .bool true := hz 1 _ (hw 1 (by kernel_rfl)) rfl
                refine wpOp_skip rfl (by simp [Region.wanted, yielded, e1]) ?_
                go_simp
                exact ⟨⟨by simp [hsz.out], hx.out⟩, upd z 48 (undef), (by unfold Hid; simp [upd, e1]), hz.next apx hsz.out 5 (by decide) _ (fun _ h => Option.some.inj h), BefP.keep hb11 (by decide)⟩
              · have e1 : z 44 = .bool true := hz 1 _ (hw 1 (by kernel_rfl)) rfl
                refine wpOp_skip rfl (by simp [Region.wanted, yielded, e1]) ?_
                go_simp
                exact ⟨⟨by simp [hsz.out], hx.out⟩, upd z 49 (undef), (by unfold Hid; simp [upd, e1]), hz.next apx hsz.out 6 (by decide) _ (fun _ h => Option.some.inj h), BefP.keep hb11 (by decide)⟩
              · have e1 : z 44 = .bool true := hz 1 _ (hw 1 (by kernel_rfl)) rfl
                refine wpOp_skip rfl (by simp [Region.wanted, yielded, e1]) ?_
                go_simp
                exact ⟨⟨by simp [hsz.out], hx.out⟩, upd z 50 (undef), (by unfold Hid; simp [upd, e1]), hz.next apx hsz.out 7 (by decide) _ (fun _ h => Option.some.inj h), BefP.keep hb11 (by decide)⟩
              · have e1 : z 44 = .bool true := hz 1 _ (hw 1 (by kernel_rfl)) rfl
                refine wpOp_skip rfl (by simp [Region.wanted, yielded, e1]) ?_
                go_simp
                exact ⟨⟨by simp [hsz.out], hx.out⟩, upd z 51 (undef), (by unfold Hid; simp [upd, e1]), hz.next apx hsz.out 8 (by decide) _ (fun _ h => Option.some.inj h), BefP.keep hb11 (by decide)⟩
              · have e1 : z 44 = .bool true := hz 1 _ (hw 1 (by kernel_rfl)) rfl
                refine wpOp_skip rfl (by simp [Region.wanted, yielded, e1]) ?_
                go_simp
                exact ⟨⟨by simp [hsz.out], hx.out⟩, upd z 52 (undef), (by unfold Hid; simp [upd, e1]), hz.next apx hsz.out 9 (by decide) _ (fun _ h => Option.some.inj h), BefP.keep hb11 (by decide)⟩
              · have e1 : z 44 = .bool true := hz 1 _ (hw 1 (by kernel_rfl)) rfl
                refine wpOp_plain rfl rfl ?_
                go_simp
                exact ⟨⟨by simp [hsz.out], hx.out⟩, upd z 53 (.bool true), (by unfold Hid; simp [upd, e1]), hz.next apx hsz.out 10 (by decide) _ (fun _ h => Option.some.inj h), BefP.keep hb11 (by decide)⟩
              · have e10 : z 53 = .bool true := hz 10 _ (hw 10 (by kernel_rfl)) rfl
                refine wpOp_plain rfl rfl ?_
                go_simp
                exact ⟨⟨by simp [hsz.out], hx.out⟩, upd z 8 (.bool true), (by unfold Hid; simp [upd, e10]), hz.next apx hsz.out 11 (by decide) _ (fun _ h => Option.some.inj h), BefP.past (by rw [hsz.out]; decide)⟩
            · exact ⟨⟨rfl, (Below.refl _ _).drew⟩, fun xx => (#[.agg (tabV v A n c), .string q, .string s, .pointer (some ⟨tb, 0, none⟩), undef, undef, u6, .slice (some ⟨b, off, none⟩) m c2, .bool true, .int .i64 (j : Nat), u10, u11, .agg (tabV v A n c), .string s, .bool false, .bool false, .string q, .int .i64 (q.size : Nat), .bool (decide ((200 : Int) < (q.size : Nat))), .bool (decide ((200 : Int) < (q.size : Nat))), .bool (decide ((200 : Int) < (q.size : Nat))), .string q, .bool true, .bool true, .string q, .int .i64 0, .bool false, .bool false, .bool (decide ((200 : Int) < (q.size : Nat))), undef, .agg (tabV v A n c), .string q, .slice (some ⟨b, off, none⟩) m c2, .string q, .string s, .bool cv, .bool !cv, .int .i64 (j : Nat), .slice (some ⟨b, off, none⟩) m c2, .int .i64 (m : Nat), .bool true, u41, u42, u43, u44, u45, u46, u47, u48, u49, u50, u51, u52, u53, u54, u55, u56, u57, u58, u59, u60, u61, u62, u63, u64, u65, u66, u67, u68, u69, u70, u71, u72, u73, u74, u75, u76, u77, u78, u79, u80, u81, u82, u83, u84, u85, u86, u87, u88, u89, u90, u91, u92, u93, u94, undef, undef, undef, undef] : Array Value).getD xx undef, (by rfl), Holding.start, BefP.start rfl⟩
          | false =>
            have apx : apartB [43, 44, 45, 46, 47, 48, 49, 50, 51, 52, 53, 8] = true := by decide
            refine wp_region_any (by kernel_rfl) ?_
            change wpAny _ _ _ _ _ _ _ (World.drew _)
            refine wpAny_inv2 (fun ll aa wx => Hid (ll.size = 12 ∧ Below wr.heap.size wr wx) ∧ ∃ (z : Nat → Value), Hid (aa = ⟨#[.agg (tabV v A n c), .string q, .string s, .pointer (some ⟨tb, 0, none⟩), undef, undef, u6, .slice (some ⟨b, off, none⟩) m c2, z 8, .int .i64 (j : Nat), u10, u11, .agg (tabV v A n c), .string s, .bool false, .bool false, .string q, .int .i64 (q.size : Nat), .bool (decide ((200 : Int) < (q.size : Nat))), .bool (decide ((200 : Int) < (q.size : Nat))), .bool (decide ((200 : Int) < (q.size : Nat))), .string q, .bool true, .bool true, .string q, .int .i64 0, .bool false, .bool false, .bool (decide ((200 : Int) < (q.size : Nat))), undef, .agg (tabV v A n c), .string q, .slice (some ⟨b, off, none⟩) m c2, .string q, .string s, .bool cv, .bool !cv, .int .i64 (j : Nat), .slice (some ⟨b, off, none⟩) m c2, .int .i64 (m : Nat), .bool true, u41, u42, z 43, z 44, z 45, z 46, z 47, z 48, z 49, z 50, z 51, z 52, z 53, u54, u55, u56, u57, u58, u59, u60, u61, u62, u63, u64, u65, u66, u67, u68, u69, u70, u71, u72, u73, u74, u75, u76, u77, u78, u79, u80, u81, u82, u83, u84, u85, u86, u87, u88, u89, u90, u91, u92, u93, u94, undef, undef, undef, undef], []⟩) ∧ Holding [43, 44, 45, 46, 47, 48, 49, 50, 51, 52, 53, 8] [some (.bool false), some (.bool false), some (.slice (some ⟨b, off, none⟩) m c2), some (.int .i64 (j : Nat)), some (.pointer (some ⟨b, off + j * 2, none⟩)), some (.agg (lab x.1 x.2)), some (.agg (tabV v A n c)), some (.string s), some (.agg (lab f.1 f.2)), some (.bool xf), some (.bool xf), some (.bool xf)] ll z ∧ BefP ll 11 z 8 (.bool false)) ?_ (by kernel_rfl) ?_ ?_ _ rfl _ _ ?_
            · rintro ll aa wx ⟨hI, _⟩
              exact hI.out.1
            · rintro ll aa wx ⟨hI, z, ha, hz, hb11⟩ hall
              have hx := Lib.hid hI.out.2
              have e0 : z 43 = .bool false := hz 0 _ (hall 0 (by decide)) rfl
              have e1 : z 44 = .bool false := hz 1 _ (hall 1 (by decide)) rfl
              have e2 : z 45 = .slice (some ⟨b, off, none⟩) m c2 := hz 2 _ (hall 2 (by decide)) rfl
              have e3 : z 46 = .int .i64 (j : Nat) := hz 3 _ (hall 3 (by decide)) rfl
              have e4 : z 47 = .pointer (some ⟨b, off + j * 2, none⟩) := hz 4 _ (hall 4 (by decide)) rfl
              have e5 : z 48 = .agg (lab x.1 x.2) := hz 5 _ (hall 5 (by decide)) rfl
              have e6 : z 49 = .agg (tabV v A n c) := hz 6 _ (hall 6 (by decide)) rfl
              have e7 : z 50 = .string s := hz 7 _ (hall 7 (by decide)) rfl
              have e8 : z 51 = .agg (lab f.1 f.2) := hz 8 _ (hall 8 (by decide)) rfl
              have e9 : z 52 = .bool xf := hz 9 _ (hall 9 (by decide)) rfl
              have e10 : z 53 = .bool xf := hz 10 _ (hall 10 (by decide)) rfl
              have e11 : z 8 = .bool xf := hz 11 _ (hall 11 (by decide)) rfl
              clear hall hz hI hb11
              obtain rfl := ha.out
              clear ha
              clear apx
              have E := Lib.hid e11
              have HX := Lib.hid (hI.out.trans (hx.out.mono hI.out.size))
              have Hlx := Lib.hid (Hlw.out.trans (hx.out.mono Hlw.out.size))
              have Hrx8 : Hid (wx.rangeAt b (off + j * 2) (lab x.1 x.2).toList) := fun k v hv => (hx.out.cell (p := ⟨b, off + j * 2 + k, none⟩) (World.block_lt_of_cell? _ _ (Hrx.out k v hv))).trans (Hrx.out k v hv)
              have Hrb8 : Hid (wx.heap[tb]? = some (.cells (tabV v A n c) 24 (0, 0))) := (hx.out.block _ (Array.getElem?_eq_some_iff.1 Hrb.out).1).trans Hrb.out
              clear e0 e1 e2 e3 e4 e5 e6 e7 e8 e9 e10 e11 hx Hrx Hrb Hlw hI
              dsimp only
              rw [E.out]
              clear E
              generalize z 43 = y43
              generalize z 44 = y44
              generalize z 45 = y45
              generalize z 46 = y46
              generalize z 47 = y47
              generalize z 48 = y48
              generalize z 49 = y49
              generalize z 50 = y50
              generalize z 51 = y51
              generalize z 52 = y52
              generalize z 53 = y53
              clear z
              go_upto_region 9 with fail
              have apx : apartB [54, 55, 56, 57, 58, 59, 60, 61, 10] = true := by decide
              refine wp_region_any (by kernel_rfl) ?_
              change wpAny _ _ _ _ _ _ _ (World.drew _)
              refine wpAny_inv (fun ll aa wy => Hid (ll.size = 9 ∧ Below wx.heap.size wx wy) ∧ ∃ (z : Nat → Value), Hid (aa = ⟨#[.agg (tabV v A n c), .string q, .string s, .pointer (some ⟨tb, 0, none⟩), undef, undef, u6, .slice (some ⟨b, off, none⟩) m c2, .bool xf, .int .i64 (j : Nat), z 10, u11, .agg (tabV v A n c), .string s, .bool false, .bool false, .string q, .int .i64 (q.size : Nat), .bool (decide ((200 : Int) < (q.size : Nat))), .bool (decide ((200 : Int) < (q.size : Nat))), .bool (decide ((200 : Int) < (q.size : Nat))), .string q, .bool true, .bool true, .string q, .int .i64 0, .bool false, .bool false, .bool (decide ((200 : Int) < (q.size : Nat))), undef, .agg (tabV v A n c), .string q, .slice (some ⟨b, off, none⟩) m c2, .string q, .string s, .bool cv, .bool !cv, .int .i64 (j : Nat), .slice (some ⟨b, off, none⟩) m c2, .int .i64 (m : Nat), .bool true, u41, u42, y43, y44, y45, y46, y47, y48, y49, y50, y51, y52, y53, z 54, z 55, z 56, z 57, z 58, z 59, z 60, z 61, u62, u63, u64, u65, u66, u67, u68, u69, u70, u71, u72, u73, u74, u75, u76, u77, u78, u79, u80, u81, u82, u83, u84, u85, u86, u87, u88, u89, u90, u91, u92, u93, u94, undef, undef, undef, undef], []⟩) ∧ Holding [54, 55, 56, 57, 58, 59, 60, 61, 10] [some (.slice (some ⟨b, off, none⟩) m c2), some (.int .i64 (j : Nat)), some (.pointer (some ⟨b, off + j * 2, none⟩)), some (.agg (lab x.1 x.2)), some (.agg (tabV v A n c)), some (.string q), some (.agg (lab f2.1 f2.2)), some (.bool xf2), some (.bool xf2)] ll z) ?_ (by kernel_rfl) ?_ ?_ _ _ _ _ (unlisted_none _) ?_
              · rintro ll aa wy ⟨hI, _⟩
                exact hI.out.1
              · rintro ll aa wy ⟨hI, z, ha, hz⟩ hall
                have hx := Lib.hid hI.out.2
                have e0 : z 54 = .slice (some ⟨b, off, none⟩) m c2 := hz 0 _ (hall 0 (by decide)) rfl
                have e1 : z 55 = .int .i64 (j : Nat) := hz 1 _ (hall 1 (by decide)) rfl
                have e2 : z 56 = .pointer (some ⟨b, off + j * 2, none⟩) := hz 2 _ (hall 2 (by decide)) rfl
                have e3 : z 57 = .agg (lab x.1 x.2) := hz 3 _ (hall 3 (by decide)) rfl
                have e4 : z 58 = .agg (tabV v A n c) := hz 4 _ (hall 4 (by decide)) rfl
                have e5 : z 59 = .string q := hz 5 _ (hall 5 (by decide)) rfl
                have e6 : z 60 = .agg (lab f2.1 f2.2) := hz 6 _ (hall 6 (by decide)) rfl
                have e7 : z 61 = .bool xf2 := hz 7 _ (hall 7 (by decide)) rfl
                have e8 : z 10 = .bool xf2 := hz 8 _ (hall 8 (by decide)) rfl
                clear hall hz hI 
                obtain rfl := ha.out
                clear ha
                clear apx
                have E := Lib.hid e8
                have HY := Lib.hid (HX.out.trans (hx.out.mono HX.out.size))
                have Hly := Lib.hid (Hlx.out.trans (hx.out.mono Hlx.out.size))
                have Hrx9 : Hid (wy.rangeAt b (off + j * 2) (lab x.1 x.2).toList) := fun k v hv => (hx.out.cell (p := ⟨b, off + j * 2 + k, none⟩) (World.block_lt_of_cell? _ _ (Hrx8.out k v hv))).trans (Hrx8.out k v hv)
                have Hrb9 : Hid (wy.heap[tb]? = some (.cells (tabV v A n c) 24 (0, 0))) := (hx.out.block _ (Array.getElem?_eq_some_iff.1 Hrb8.out).1).trans Hrb8.out
                clear e0 e1 e2 e3 e4 e5 e6 e7 e8 hx Hrx8 Hrb8 Hlx HX
                dsimp only
                rw [E.out]
                clear E
                generalize z 54 = y54
                generalize z 55 = y55
                generalize z 56 = y56
                generalize z 57 = y57
                generalize z 58 = y58
                generalize z 59 = y59
                generalize z 60 = y60
                generalize z 61 = y61
                clear z
                go_wp2
                go_loopw [10, 11] (fun kn i wr => ∃ k : Nat, k ≤ n ∧ i = .int .i64 k ∧ kn = .bool (KnJ q f2 x rs k) ∧ Hid (Below wy.heap.size wy wr)) (fun _ i _ => n - (intOf i).toNat)
                case atStart => exact ⟨0, by omega, rfl, by rw [Hkz.out], Below.refl _ _⟩
                case round =>
                  obtain ⟨k, hk, rfl, rfl, hI2⟩ := hrel
                  have c1 : wr.cell? ⟨tb, 1, none⟩ = some (.slice A n c) := cell_row ((hI2.out.block _ (Array.getElem?_eq_some_iff.1 Hrb9.out).1).trans Hrb9.out) 1
                  by_cases hltk : k < n
                  · have hltkI : (k : Int) < n := by omega
                    obtain ⟨r, hr⟩ : ∃ r, rs[k]? = some r := ⟨_, List.getElem?_eq_getElem (by have := Hn.out; omega)⟩
                    obtain ⟨b2, off2, rfl, hb2, hrange⟩ := HR.out.at hr
                    have hcap2 : n ≤ c := by have := HR.out.1; have := Hn.out; omega
                    have Hlk := Lib.hid (Hly.out.trans (hI2.out.mono Hly.out.size))
                    have Hrr : Hid (wr.rangeAt b2 (off2 + k * 3) (rlc r).toList) := fun i v hv => (Hlk.out.cell (p := ⟨b2, off2 + k * 3 + i, none⟩) hb2).trans (hrange i v hv)
                    have Hrm := Lib.hid (rule_mid Hrr.out)
                    have Hrp : Hid (wr.cell? ⟨b2, off2 + k * 3, none⟩ = some (.string r.p)) := Hrr.out 0 _ rfl
                    have Hcs := Lib.hid c1
                    have Hrxk : Hid (wr.rangeAt b (off + j * 2) (lab x.1 x.2).toList) := fun i v hv => (hI2.out.cell (p := ⟨b, off + j * 2 + i, none⟩) (World.block_lt_of_cell? _ _ (Hrx9.out i v hv))).trans (Hrx9.out i v hv)
                    have Hk1 := Lib.hid (KnJ.next (q := q) (f := f2) (x := x) hr)
                    have HOr := Lib.hid (HOv.out r (List.mem_of_getElem? hr))
                    clear hrange hr hb2 Hrr
                    go_upto_region 13 with fail
                    clear c1
                    obtain ⟨kj, hkj⟩ : ∃ kj, KnJ q f2 x rs k = kj := ⟨_, rfl⟩
                    rw [hkj] at Hk1 ⊢
                    clear hkj
                    cases kj with
                    | true =>
                      have apx : apartB [69, 70, 71, 72, 73, 74, 75, 76, 77, 78, 79, 80, 81, 82, 83, 84, 85, 86, 87, 88, 89, 90, 91, 92, 10] = true := by decide
                      refine wp_region_any (by kernel_rfl) ?_
                      change wpAny _ _ _ _ _ _ _ (World.drew _)
                      refine wpAny_inv2 (fun ll aa wz => Hid (ll.size = 25 ∧ Below wr.heap.size wr wz) ∧ ∃ (z : Nat → Value), Hid (aa = ⟨#[.agg (tabV v (some ⟨b2, off2, none⟩) n c), .string q, .string s, .pointer (some ⟨tb, 0, none⟩), undef, undef, u6, .slice (some ⟨b, off, none⟩) m c2, .bool xf, .int .i64 (j : Nat), z 10, .int .i64 (k : Nat), .agg (tabV v (some ⟨b2, off2, none⟩) n c), .string s, .bool false, .bool false, .string q, .int .i64 (q.size : Nat), .bool (decide ((200 : Int) < (q.size : Nat))), .bool (decide ((200 : Int) < (q.size : Nat))), .bool (decide ((200 : Int) < (q.size : Nat))), .string q, .bool true, .bool true, .string q, .int .i64 0, .bool false, .bool false, .bool (decide ((200 : Int) < (q.size : Nat))), undef, .agg (tabV v (some ⟨b2, off2, none⟩) n c), .string q, .slice (some ⟨b, off, none⟩) m c2, .string q, .string s, .bool cv, .bool !cv, .int .i64 (j : Nat), .slice (some ⟨b, off, none⟩) m c2, .int .i64 (m : Nat), .bool true, u41, u42, y43, y44, y45, y46, y47, y48, y49, y50, y51, y52, y53, y54, y55, y56, y57, y58, y59, y60, y61, .int .i64 (k : Nat), .pointer (some ⟨tb, 1, none⟩), .slice (some ⟨b2, off2, none⟩) n c, .int .i64 (n : Nat), .bool true, u67, u68, z 69, z 70, z 71, z 72, z 73, z 74, z 75, z 76, z 77, z 78, z 79, z 80, z 81, z 82, z 83, z 84, z 85, z 86, z 87, z 88, z 89, z 90, z 91, z 92, u93, u94, undef, undef, undef, undef], []⟩) ∧ Holding [69, 70, 71, 72, 73, 74, 75, 76, 77, 78, 79, 80, 81, 82, 83, 84, 85, 86, 87, 88, 89, 90, 91, 92, 10] [some (.bool true), some (.bool true), some (undef), some (undef), some (undef), some (undef), some (undef), some (undef), some (undef), some (undef), some (undef), some (undef), some (undef), some (undef), some (undef), some (undef), some (undef), some (undef), some (undef), some (undef), some (undef), some (undef), some (undef), some (.bool true), some (.bool true)] ll z ∧ BefP ll 24 z 10 (.bool true)) ?_ (by kernel_rfl) ?_ ?_ _ rfl _ _ ?_
                      · rintro ll aa wz ⟨hI, _⟩
                        exact hI.out.1
                      · rintro ll aa wz ⟨hI, z, ha, hz, hb24⟩ hall
                        have hx := Lib.hid hI.out.2
                        have e0 : z 69 = .bool true := hz 0 _ (hall 0 (by decide)) rfl
                        have e1 : z 70 = .bool true := hz 1 _ (hall 1 (by decide)) rfl
                        have e2 : z 71 = undef := hz 2 _ (hall 2 (by decide)) rfl
                        have e3 : z 72 = undef := hz 3 _ (hall 3 (by decide)) rfl
                        have e4 : z 73 = undef := hz 4 _ (hall 4 (by decide)) rfl
                        have e5 : z 74 = undef := hz 5 _ (hall 5 (by decide)) rfl
                        have e6 : z 75 = undef := hz 6 _ (hall 6 (by decide)) rfl
                        have e7 : z 76 = undef := hz 7 _ (hall 7 (by decide)) rfl
                        have e8 : z 77 = undef := hz 8 _ (hall 8 (by decide)) rfl
                        have e9 : z 78 = undef := hz 9 _ (hall 9 (by decide)) rfl
                        have e10 : z 79 = undef := hz 10 _ (hall 10 (by decide)) rfl
                        have e11 : z 80 = undef := hz 11 _ (hall 11 (by decide)) rfl
                        have e12 : z 81 = undef := hz 12 _ (hall 12 (by decide)) rfl
                        have e13 : z 82 = undef := hz 13 _ (hall 13 (by decide)) rfl
                        have e14 : z 83 = undef := hz 14 _ (hall 14 (by decide)) rfl
                        have e15 : z 84 = undef := hz 15 _ (hall 15 (by decide)) rfl
                        have e16 : z 85 = undef := hz 16 _ (hall 16 (by decide)) rfl
                        have e17 : z 86 = undef := hz 17 _ (hall 17 (by decide)) rfl
                        have e18 : z 87 = undef := hz 18 _ (hall 18 (by decide)) rfl
                        have e19 : z 88 = undef := hz 19 _ (hall 19 (by decide)) rfl
                        have e20 : z 89 = undef := hz 20 _ (hall 20 (by decide)) rfl
                        have e21 : z 90 = undef := hz 21 _ (hall 21 (by decide)) rfl
                        have e22 : z 91 = undef := hz 22 _ (hall 22 (by decide)) rfl
                        have e23 : z 92 = .bool true := hz 23 _ (hall 23 (by decide)) rfl
                        have e24 : z 10 = .bool true := hz 24 _ (hall 24 (by decide)) rfl
                        clear hall hz hI hb24
                        obtain rfl := ha.out
                        clear ha
                        clear apx
                        have E := Lib.hid e24
                        have HK := Lib.hid (hI2.out.trans (hx.out.mono hI2.out.size))
                        clear e0 e1 e2 e3 e4 e5 e6 e7 e8 e9 e10 e11 e12 e13 e14 e15 e16 e17 e18 e19 e20 e21 e22 e23 e24 hx hI2
                        dsimp only
                        rw [E.out]
                        clear E
                        generalize z 69 = y69
                        generalize z 70 = y70
                        generalize z 71 = y71
                        generalize z 72 = y72
                        generalize z 73 = y73
                        generalize z 74 = y74
                        generalize z 75 = y75
                        generalize z 76 = y76
                        generalize z 77 = y77
                        generalize z 78 = y78
                        generalize z 79 = y79
                        generalize z 80 = y80
                        generalize z 81 = y81
                        generalize z 82 = y82
                        generalize z 83 = y83
                        generalize z 84 = y84
                        generalize z 85 = y85
                        generalize z 86 = y86
                        generalize z 87 = y87
                        generalize z 88 = y88
                        generalize z 89 = y89
                        generalize z 90 = y90
                        generalize z 91 = y91
                        generalize z 92 = y92
                        clear z
                        go_wp2
                        go_roundw
                        case rel => exact ⟨k + 1, by omega, by go_num, by rw [Hk1.out]; rfl, HK.out⟩
                        case measure => simp [intOf]; omega
                      · rintro ll aa wz i ⟨hI, z, ha, hz, hb24⟩ hcl hi hu hw
                        obtain rfl := ha.out
                        have hsz := Lib.hid hI.out.1
                        have hx := Lib.hid hI.out.2
                        clear ha hI
                        have hin : i < 25 := hi
                        obtain rfl | rfl | rfl | rfl | rfl | rfl | rfl | rfl | rfl | rfl | rfl | rfl | rfl | rfl | rfl | rfl | rfl | rfl | rfl | rfl | rfl | rfl | rfl | rfl | rfl : i = 0 ∨ i = 1 ∨ i = 2 ∨ i = 3 ∨ i = 4 ∨ i = 5 ∨ i = 6 ∨ i = 7 ∨ i = 8 ∨ i = 9 ∨ i = 10 ∨ i = 11 ∨ i = 12 ∨ i = 13 ∨ i = 14 ∨ i = 15 ∨ i = 16 ∨ i = 17 ∨ i = 18 ∨ i = 19 ∨ i = 20 ∨ i = 21 ∨ i = 22 ∨ i = 23 ∨ i = 24 := by omega
                        · have b24 : z 10 = .bool true := hb24 (BefP.ok (fun hl => hcl 24 0 hl (by kernel_rfl)) hu)
                          refine wpOp_plain rfl rfl ?_
                          go_simp
                          exact ⟨⟨by simp [hsz.out], hx.out⟩, upd z 69 (.bool true), (by unfold Hid; simp [upd, b24]), hz.next apx hsz.out 0 (by decide) _ (fun _ h => Option.some.inj h), BefP.keep hb24 (by decide)⟩
                        · have e0 : z 69 = .bool true := hz 0 _ (hw 0 (by kernel_rfl)) rfl
                          refine wpOp_plain rfl rfl ?_
                          go_simp
                          exact ⟨⟨by simp [hsz.out], hx.out⟩, upd z 70 (.bool true), (by unfold Hid; simp [upd, e0]), hz.next apx hsz.out 1 (by decide) _ (fun _ h => Option.some.inj h), BefP.keep hb24 (by decide)⟩
                        · have e1 : z 70 = .bool true := hz 1 _ (hw 1 (by kernel_rfl)) rfl
                          refine wpOp_skip rfl (by simp [Region.wanted, yielded, e1]) ?_
                          go_simp
                          exact ⟨⟨by simp [hsz.out], hx.out⟩, upd z 71 (undef), (by unfold Hid; simp [upd, e1]), hz.next apx hsz.out 2 (by decide) _ (fun _ h => Option.some.inj h), BefP.keep hb24 (by decide)⟩
                        · have e1 : z 70 = .bool true := hz 1 _ (hw 1 (by kernel_rfl)) rfl
                          refine wpOp_skip rfl (by simp [Region.wanted, yielded, e1]) ?_
                          go_simp
                          exact ⟨⟨by simp [hsz.out], hx.out⟩, upd z 72 (undef), (by unfold Hid; simp [upd, e1]), hz.next apx hsz.out 3 (by decide) _ (fun _ h => Option.some.inj h), BefP.keep hb24 (by decide)⟩
                        · have e1 : z 70 = .bool true := hz 1 _ (hw 1 (by kernel_rfl)) rfl
                          refine wpOp_skip rfl (by simp [Region.wanted, yielded, e1]) ?_
                          go_simp
                          exact ⟨⟨by simp [hsz.out], hx.out⟩, upd z 73 (undef), (by unfold Hid; simp [upd, e1]), hz.next apx hsz.out 4 (by decide) _ (fun _ h => Option.some.inj h), BefP.keep hb24 (by decide)⟩
                        · have e1 : z 70 = .bool true := hz 1 _ (hw 1 (by kernel_rfl)) rfl
                          refine wpOp_skip rfl (by simp [Region.wanted, yielded, e1]) ?_
                          go_simp
                          exact ⟨⟨by simp [hsz.out], hx.out⟩, upd z 74 (undef), (by unfold Hid; simp [upd, e1]), hz.next apx hsz.out 5 (by decide) _ (fun _ h => Option.some.inj h), BefP.keep hb24 (by decide)⟩
                        · have e1 : z 70 = .bool true := hz 1 _ (hw 1 (by kernel_rfl)) rfl
                          refine wpOp_skip rfl (by simp [Region.wanted, yielded, e1]) ?_
                          go_simp
                          exact ⟨⟨by simp [hsz.out], hx.out⟩, upd z 75 (undef), (by unfold Hid; simp [upd, e1]), hz.next apx hsz.out 6 (by decide) _ (fun _ h => Option.some.inj h), BefP.keep hb24 (by decide)⟩
                        · have e1 : z 70 = .bool true := hz 1 _ (hw 1 (by kernel_rfl)) rfl
                          refine wpOp_skip rfl (by simp [Region.wanted, yielded, e1]) ?_
                          go_simp
                          exact ⟨⟨by simp [hsz.out], hx.out⟩, upd z 76 (undef), (by unfold Hid; simp [upd, e1]), hz.next apx hsz.out 7 (by decide) _ (fun _ h => Option.some.inj h), BefP.keep hb24 (by decide)⟩
                        · have e1 : z 70 = .bool true := hz 1 _ (hw 1 (by kernel_rfl)) rfl
                          refine wpOp_skip rfl (by simp [Region.wanted, yielded, e1]) ?_
                          go_simp
                          exact ⟨⟨by simp [hsz.out], hx.out⟩, upd z 77 (undef), (by unfold Hid; simp [upd, e1]), hz.next apx hsz.out 8 (by decide) _ (fun _ h => Option.some.inj h), BefP.keep hb24 (by decide)⟩
                        · have e1 : z 70 = .bool true := hz 1 _ (hw 1 (by kernel_rfl)) rfl
                          refine wpOp_skip rfl (by simp [Region.wanted, yielded, e1]) ?_
                          go_simp
                          exact ⟨⟨by simp [hsz.out], hx.out⟩, upd z 78 (undef), (by unfold Hid; simp [upd, e1]), hz.next apx hsz.out 9 (by decide) _ (fun _ h => Option.some.inj h), BefP.keep hb24 (by decide)⟩
                        · have e1 : z 70 = .bool true := hz 1 _ (hw 1 (by kernel_rfl)) rfl
                          refine wpOp_skip rfl (by simp [Region.wanted, yielded, e1]) ?_
                          go_simp
                          exact ⟨⟨by simp [hsz.out], hx.out⟩, upd z 79 (undef), (by unfold Hid; simp [upd, e1]), hz.next apx hsz.out 10 (by decide) _ (fun _ h => Option.some.inj h), BefP.keep hb24 (by decide)⟩
                        · have e1 : z 70 = .bool true := hz 1 _ (hw 1 (by kernel_rfl)) rfl
                          refine wpOp_skip rfl (by simp [Region.wanted, yielded, e1]) ?_
                          go_simp
                          exact ⟨⟨by simp [hsz.out], hx.out⟩, upd z 80 (undef), (by unfold Hid; simp [upd, e1]), hz.next apx hsz.out 11 (by decide) _ (fun _ h => Option.some.inj h), BefP.keep hb24 (by decide)⟩
                        · have e1 : z 70 = .bool true := hz 1 _ (hw 1 (by kernel_rfl)) rfl
                          refine wpOp_skip rfl (by simp [Region.wanted, yielded, e1]) ?_
                          go_simp
                          exact ⟨⟨by simp [hsz.out], hx.out⟩, upd z 81 (undef), (by unfold Hid; simp [upd, e1]), hz.next apx hsz.out 12 (by decide) _ (fun _ h => Option.some.inj h), BefP.keep hb24 (by decide)⟩
                        · have e1 : z 70 = .bool true := hz 1 _ (hw 1 (by kernel_rfl)) rfl
                          refine wpOp_skip rfl (by simp [Region.wanted, yielded, e1]) ?_
                          go_simp
                          exact ⟨⟨by simp [hsz.out], hx.out⟩, upd z 82 (undef), (by unfold Hid; simp [upd, e1]), hz.next apx hsz.out 13 (by decide) _ (fun _ h => Option.some.inj h), BefP.keep hb24 (by decide)⟩
                        · have e13 : z 82 = undef := hz 13 _ (hw 13 (by kernel_rfl)) rfl
                          refine wpOp_skip rfl (by simp [Region.wanted, yielded, e13]; try simp [undef]) ?_
                          go_simp
                          exact ⟨⟨by simp [hsz.out], hx.out⟩, upd z 83 (undef), (by unfold Hid; simp [upd, e13]), hz.next apx hsz.out 14 (by decide) _ (fun _ h => Option.some.inj h), BefP.keep hb24 (by decide)⟩
                        · have e13 : z 82 = undef := hz 13 _ (hw 13 (by kernel_rfl)) rfl
                          refine wpOp_skip rfl (by simp [Region.wanted, yielded, e13]; try simp [undef]) ?_
                          go_simp
                          exact ⟨⟨by simp [hsz.out], hx.out⟩, upd z 84 (undef), (by unfold Hid; simp [upd, e13]), hz.next apx hsz.out 15 (by decide) _ (fun _ h => Option.some.inj h), BefP.keep hb24 (by decide)⟩
                        · have e13 : z 82 = undef := hz 13 _ (hw 13 (by kernel_rfl)) rfl
                          refine wpOp_skip rfl (by simp [Region.wanted, yielded, e13]; try simp [undef]) ?_
                          go_simp
                          exact ⟨⟨by simp [hsz.out], hx.out⟩, upd z 85 (undef), (by unfold Hid; simp [upd, e13]), hz.next apx hsz.out 16 (by decide) _ (fun _ h => Option.some.inj h), BefP.keep hb24 (by decide)⟩
                        · have e13 : z 82 = undef := hz 13 _ (hw 13 (by kernel_rfl)) rfl
                          refine wpOp_skip rfl (by simp [Region.wanted, yielded, e13]; try simp [undef]) ?_
                          go_simp
                          exact ⟨⟨by simp [hsz.out], hx.out⟩, upd z 86 (undef), (by unfold Hid; simp [upd, e13]), hz.next apx hsz.out 17 (by decide) _ (fun _ h => Option.some.inj h), BefP.keep hb24 (by decide)⟩
                        · have e13 : z 82 = undef := hz 13 _ (hw 13 (by kernel_rfl)) rfl
                          refine wpOp_skip rfl (by simp [Region.wanted, yielded, e13]; try simp [undef]) ?_
                          go_simp
                          exact ⟨⟨by simp [hsz.out], hx.out⟩, upd z 87 (undef), (by unfold Hid; simp [upd, e13]), hz.next apx hsz.out 18 (by decide) _ (fun _ h => Option.some.inj h), BefP.keep hb24 (by decide)⟩
                        · have e13 : z 82 = undef := hz 13 _ (hw 13 (by kernel_rfl)) rfl
                          refine wpOp_skip rfl (by simp [Region.wanted, yielded, e13]; try simp [undef]) ?_
                          go_simp
                          exact ⟨⟨by simp [hsz.out], hx.out⟩, upd z 88 (undef), (by unfold Hid; simp [upd, e13]), hz.next apx hsz.out 19 (by decide) _ (fun _ h => Option.some.inj h), BefP.keep hb24 (by decide)⟩
                        · have e13 : z 82 = undef := hz 13 _ (hw 13 (by kernel_rfl)) rfl
                          refine wpOp_skip rfl (by simp [Region.wanted, yielded, e13]; try simp [undef]) ?_
                          go_simp
                          exact ⟨⟨by simp [hsz.out], hx.out⟩, upd z 89 (undef), (by unfold Hid; simp [upd, e13]), hz.next apx hsz.out 20 (by decide) _ (fun _ h => Option.some.inj h), BefP.keep hb24 (by decide)⟩
                        · have e13 : z 82 = undef := hz 13 _ (hw 13 (by kernel_rfl)) rfl
                          refine wpOp_skip rfl (by simp [Region.wanted, yielded, e13]; try simp [undef]) ?_
                          go_simp
                          exact ⟨⟨by simp [hsz.out], hx.out⟩, upd z 90 (undef), (by unfold Hid; simp [upd, e13]), hz.next apx hsz.out 21 (by decide) _ (fun _ h => Option.some.inj h), BefP.keep hb24 (by decide)⟩
                        · have e1 : z 70 = .bool true := hz 1 _ (hw 1 (by kernel_rfl)) rfl
                          refine wpOp_skip rfl (by simp [Region.wanted, yielded, e1]) ?_
                          go_simp
                          exact ⟨⟨by simp [hsz.out], hx.out⟩, upd z 91 (undef), (by unfold Hid; simp [upd, e1]), hz.next apx hsz.out 22 (by decide) _ (fun _ h => Option.some.inj h), BefP.keep hb24 (by decide)⟩
                        · have e1 : z 70 = .bool true := hz 1 _ (hw 1 (by kernel_rfl)) rfl
                          refine wpOp_plain rfl rfl ?_
                          go_simp
                          exact ⟨⟨by simp [hsz.out], hx.out⟩, upd z 92 (.bool true), (by unfold Hid; simp [upd, e1]), hz.next apx hsz.out 23 (by decide) _ (fun _ h => Option.some.inj h), BefP.keep hb24 (by decide)⟩
                        · have e23 : z 92 = .bool true := hz 23 _ (hw 23 (by kernel_rfl)) rfl
                          refine wpOp_plain rfl rfl ?_
                          go_simp
                          exact ⟨⟨by simp [hsz.out], hx.out⟩, upd z 10 (.bool true), (by unfold Hid; simp [upd, e23]), hz.next apx hsz.out 24 (by decide) _ (fun _ h => Option.some.inj h), BefP.past (by rw [hsz.out]; decide)⟩
                      · exact ⟨⟨rfl, (Below.refl _ _).drew⟩, fun xx => (#[.agg (tabV v (some ⟨b2, off2, none⟩) n c), .string q, .string s, .pointer (some ⟨tb, 0, none⟩), undef, undef, u6, .slice (some ⟨b, off, none⟩) m c2, .bool xf, .int .i64 (j : Nat), .bool true, .int .i64 (k : Nat), .agg (tabV v (some ⟨b2, off2, none⟩) n c), .string s, .bool false, .bool false, .string q, .int .i64 (q.size : Nat), .bool (decide ((200 : Int) < (q.size : Nat))), .bool (decide ((200 : Int) < (q.size : Nat))), .bool (decide ((200 : Int) < (q.size : Nat))), .string q, .bool true, .bool true, .string q, .int .i64 0, .bool false, .bool false, .bool (decide ((200 : Int) < (q.size : Nat))), undef, .agg (tabV v (some ⟨b2, off2, none⟩) n c), .string q, .slice (some ⟨b, off, none⟩) m c2, .string q, .string s, .bool cv, .bool !cv, .int .i64 (j : Nat), .slice (some ⟨b, off, none⟩) m c2, .int .i64 (m : Nat), .bool true, u41, u42, y43, y44, y45, y46, y47, y48, y49, y50, y51, y52, y53, y54, y55, y56, y57, y58, y59, y60, y61, .int .i64 (k : Nat), .pointer (some ⟨tb, 1, none⟩), .slice (some ⟨b2, off2, none⟩) n c, .int .i64 (n : Nat), .bool true, u67, u68, u69, u70, u71, u72, u73, u74, u75, u76, u77, u78, u79, u80, u81, u82, u83, u84, u85, u86, u87, u88, u89, u90, u91, u92, u93, u94, undef, undef, undef, undef] : Array Value).getD xx undef, (by rfl), Holding.start, BefP.start rfl⟩
                    | false =>
                      have heq3 : ∀ W : World, _ := eqlab (r.a, r.c) x
                      have hd3 : decide ((r.a, r.c) = x) = decide (r.a = x.1 ∧ r.c = x.2) := by
                        obtain ⟨x1, x2⟩ := x
                        simp
                      rw [hd3] at heq3
                      clear hd3
                      simp only at heq3
                      obtain ⟨rx, hrx⟩ : ∃ rx, decide (r.a = x.1 ∧ r.c = x.2) = rx := ⟨_, rfl⟩
                      rw [hrx] at heq3 Hk1
                      clear hrx
                      cases rx with
                      | true =>
                        generalize cov q r.p = ov at *
                        have apx : apartB [69, 70, 71, 72, 73, 74, 75, 76, 77, 78, 79, 80, 81, 82, 83, 84, 85, 86, 87, 88, 89, 90, 91, 92, 10] = true := by decide
                        refine wp_region_any (by kernel_rfl) ?_
                        change wpAny _ _ _ _ _ _ _ (World.drew _)
                        refine wpAny_inv2 (fun ll aa wz => Hid (ll.size = 25 ∧ Below wr.heap.size wr wz) ∧ ∃ (z : Nat → Value), Hid (aa = ⟨#[.agg (tabV v (some ⟨b2, off2, none⟩) n c), .string q, .string s, .pointer (some ⟨tb, 0, none⟩), undef, undef, u6, .slice (some ⟨b, off, none⟩) m c2, .bool xf, .int .i64 (j : Nat), z 10, .int .i64 (k : Nat), .agg (tabV v (some ⟨b2, off2, none⟩) n c), .string s, .bool false, .bool false, .string q, .int .i64 (q.size : Nat), .bool (decide ((200 : Int) < (q.size : Nat))), .bool (decide ((200 : Int) < (q.size : Nat))), .bool (decide ((200 : Int) < (q.size : Nat))), .string q, .bool true, .bool true, .string q, .int .i64 0, .bool false, .bool false, .bool (decide ((200 : Int) < (q.size : Nat))), undef, .agg (tabV v (some ⟨b2, off2, none⟩) n c), .string q, .slice (some ⟨b, off, none⟩) m c2, .string q, .string s, .bool cv, .bool !cv, .int .i64 (j : Nat), .slice (some ⟨b, off, none⟩) m c2, .int .i64 (m : Nat), .bool true, u41, u42, y43, y44, y45, y46, y47, y48, y49, y50, y51, y52, y53, y54, y55, y56, y57, y58, y59, y60, y61, .int .i64 (k : Nat), .pointer (some ⟨tb, 1, none⟩), .slice (some ⟨b2, off2, none⟩) n c, .int .i64 (n : Nat), .bool true, u67, u68, z 69, z 70, z 71, z 72, z 73, z 74, z 75, z 76, z 77, z 78, z 79, z 80, z 81, z 82, z 83, z 84, z 85, z 86, z 87, z 88, z 89, z 90, z 91, z 92, u93, u94, undef, undef, undef, undef], []⟩) ∧ Holding [69, 70, 71, 72, 73, 74, 75, 76, 77, 78, 79, 80, 81, 82, 83, 84, 85, 86, 87, 88, 89, 90, 91, 92, 10] [some (.bool false), some (.bool false), some (.pointer (some ⟨tb, 1, none⟩)), some (.slice (some ⟨b2, off2, none⟩) n c), some (.int .i64 (k : Nat)), some (.pointer (some ⟨b2, off2 + k * 3, none⟩)), some (.pointer (some ⟨b2, off2 + k * 3 + 1, none⟩)), some (.agg (lab r.a r.c)), some (.slice (some ⟨b, off, none⟩) m c2), some (.int .i64 (j : Nat)), some (.pointer (some ⟨b, off + j * 2, none⟩)), some (.agg (lab x.1 x.2)), some (.bool true), some (.bool true), some (.string q), some (.pointer (some ⟨tb, 1, none⟩)), some (.slice (some ⟨b2, off2, none⟩) n c), some (.int .i64 (k : Nat)), some (.pointer (some ⟨b2, off2 + k * 3, none⟩)), some (.pointer (some ⟨b2, off2 + k * 3, none⟩)), some (.string r.p), some (.bool ov), some (.bool ov), some (.bool ov), some (.bool ov)] ll z ∧ BefP ll 24 z 10 (.bool false)) ?_ (by kernel_rfl) ?_ ?_ _ rfl _ _ ?_
                        · rintro ll aa wz ⟨hI, _⟩
                          exact hI.out.1
                        · rintro ll aa wz ⟨hI, z, ha, hz, hb24⟩ hall
                          have hx := Lib.hid hI.out.2
                          have e0 : z 69 = .bool false := hz 0 _ (hall 0 (by decide)) rfl
                          have e1 : z 70 = .bool false := hz 1 _ (hall 1 (by decide)) rfl
                          have e2 : z 71 = .pointer (some ⟨tb, 1, none⟩) := hz 2 _ (hall 2 (by decide)) rfl
                          have e3 : z 72 = .slice (some ⟨b2, off2, none⟩) n c := hz 3 _ (hall 3 (by decide)) rfl
                          have e4 : z 73 = .int .i64 (k : Nat) := hz 4 _ (hall 4 (by decide)) rfl
                          have e5 : z 74 = .pointer (some ⟨b2, off2 + k * 3, none⟩) := hz 5 _ (hall 5 (by decide)) rfl
                          have e6 : z 75 = .pointer (some ⟨b2, off2 + k * 3 + 1, none⟩) := hz 6 _ (hall 6 (by decide)) rfl
                          have e7 : z 76 = .agg (lab r.a r.c) := hz 7 _ (hall 7 (by decide)) rfl
                          have e8 : z 77 = .slice (some ⟨b, off, none⟩) m c2 := hz 8 _ (hall 8 (by decide)) rfl
                          have e9 : z 78 = .int .i64 (j : Nat) := hz 9 _ (hall 9 (by decide)) rfl
                          have e10 : z 79 = .pointer (some ⟨b, off + j * 2, none⟩) := hz 10 _ (hall 10 (by decide)) rfl
                          have e11 : z 80 = .agg (lab x.1 x.2) := hz 11 _ (hall 11 (by decide)) rfl
                          have e12 : z 81 = .bool true := hz 12 _ (hall 12 (by decide)) rfl
                          have e13 : z 82 = .bool true := hz 13 _ (hall 13 (by decide)) rfl
                          have e14 : z 83 = .string q := hz 14 _ (hall 14 (by decide)) rfl
                          have e15 : z 84 = .pointer (some ⟨tb, 1, none⟩) := hz 15 _ (hall 15 (by decide)) rfl
                          have e16 : z 85 = .slice (some ⟨b2, off2, none⟩) n c := hz 16 _ (hall 16 (by decide)) rfl
                          have e17 : z 86 = .int .i64 (k : Nat) := hz 17 _ (hall 17 (by decide)) rfl
                          have e18 : z 87 = .pointer (some ⟨b2, off2 + k * 3, none⟩) := hz 18 _ (hall 18 (by decide)) rfl
                          have e19 : z 88 = .pointer (some ⟨b2, off2 + k * 3, none⟩) := hz 19 _ (hall 19 (by decide)) rfl
                          have e20 : z 89 = .string r.p := hz 20 _ (hall 20 (by decide)) rfl
                          have e21 : z 90 = .bool ov := hz 21 _ (hall 21 (by decide)) rfl
                          have e22 : z 91 = .bool ov := hz 22 _ (hall 22 (by decide)) rfl
                          have e23 : z 92 = .bool ov := hz 23 _ (hall 23 (by decide)) rfl
                          have e24 : z 10 = .bool ov := hz 24 _ (hall 24 (by decide)) rfl
                          clear hall hz hI hb24
                          obtain rfl := ha.out
                          clear ha
                          clear apx
                          have E := Lib.hid e24
                          have HK := Lib.hid (hI2.out.trans (hx.out.mono hI2.out.size))
                          clear e0 e1 e2 e3 e4 e5 e6 e7 e8 e9 e10 e11 e12 e13 e14 e15 e16 e17 e18 e19 e20 e21 e22 e23 e24 hx hI2
                          dsimp only
                          rw [E.out]
                          clear E
                          generalize z 69 = y69
                          generalize z 70 = y70
                          generalize z 71 = y71
                          generalize z 72 = y72
                          generalize z 73 = y73
                          generalize z 74 = y74
                          generalize z 75 = y75
                          generalize z 76 = y76
                          generalize z 77 = y77
                          generalize z 78 = y78
                          generalize z 79 = y79
                          generalize z 80 = y80
                          generalize z 81 = y81
                          generalize z 82 = y82
                          generalize z 83 = y83
                          generalize z 84 = y84
                          generalize z 85 = y85
                          generalize z 86 = y86
                          generalize z 87 = y87
                          generalize z 88 = y88
                          generalize z 89 = y89
                          generalize z 90 = y90
                          generalize z 91 = y91
                          generalize z 92 = y92
                          clear z
                          go_wp2
                          go_roundw
                          case rel => exact ⟨k + 1, by omega, by go_num, by rw [Hk1.out]; rfl, HK.out⟩
                          case measure => simp [intOf]; omega
                        · rintro ll aa wz i ⟨hI, z, ha, hz, hb24⟩ hcl hi hu hw
                          obtain rfl := ha.out
                          have hsz := Lib.hid hI.out.1
                          have hx := Lib.hid hI.out.2
                          clear ha hI
                          have hin : i < 25 := hi
                          obtain rfl | rfl | rfl | rfl | rfl | rfl | rfl | rfl | rfl | rfl | rfl | rfl | rfl | rfl | rfl | rfl | rfl | rfl | rfl | rfl | rfl | rfl | rfl | rfl | rfl : i = 0 ∨ i = 1 ∨ i = 2 ∨ i = 3 ∨ i = 4 ∨ i = 5 ∨ i = 6 ∨ i = 7 ∨ i = 8 ∨ i = 9 ∨ i = 10 ∨ i = 11 ∨ i = 12 ∨ i = 13 ∨ i = 14 ∨ i = 15 ∨ i = 16 ∨ i = 17 ∨ i = 18 ∨ i = 19 ∨ i = 20 ∨ i = 21 ∨ i = 22 ∨ i = 23 ∨ i = 24 := by omega
                          · have b24 : z 10 = .bool false := hb24 (BefP.ok (fun hl => hcl 24 0 hl (by kernel_rfl)) hu)
                            refine wpOp_plain rfl rfl ?_
                            go_simp
                            exact ⟨⟨by simp [hsz.out], hx.out⟩, upd z 69 (.bool false), (by unfold Hid; simp [upd, b24]), hz.next apx hsz.out 0 (by decide) _ (fun _ h => Option.some.inj h), BefP.keep hb24 (by decide)⟩
                          · have e0 : z 69 = .bool false := hz 0 _ (hw 0 (by kernel_rfl)) rfl
                            refine wpOp_plain rfl rfl ?_
                            go_simp
                            exact ⟨⟨by simp [hsz.out], hx.out⟩, upd z 70 (.bool false), (by unfold Hid; simp [upd, e0]), hz.next apx hsz.out 1 (by decide) _ (fun _ h => Option.some.inj h), BefP.keep hb24 (by decide)⟩
                          · have e1 : z 70 = .bool false := hz 1 _ (hw 1 (by kernel_rfl)) rfl
                            refine wpOp_want rfl (by simp [Region.wanted, yielded, e1]) ?_
                            go_simp
                            exact ⟨⟨by simp [hsz.out], hx.out⟩, upd z 71 (.pointer (some ⟨tb, 1, none⟩)), (by unfold Hid; simp [upd, e1]), hz.next apx hsz.out 2 (by decide) _ (fun _ h => Option.some.inj h), BefP.keep hb24 (by decide)⟩
                          · have e1 : z 70 = .bool false := hz 1 _ (hw 1 (by kernel_rfl)) rfl
                            have e2 : z 71 = .pointer (some ⟨tb, 1, none⟩) := hz 2 _ (hw 2 (by kernel_rfl)) rfl
                            have cl : wz.cell? ⟨tb, 1, none⟩ = some (.slice (some ⟨b2, off2, none⟩) n c) := (hx.out.cell (p := ⟨tb, 1, none⟩) (World.block_lt_of_cell? _ _ Hcs.out)).trans Hcs.out
                            refine wpOp_want rfl (by simp [Region.wanted, yielded, e1]) ?_
                            go_simp
                            exact ⟨⟨by simp [hsz.out], hx.out⟩, upd z 72 (.slice (some ⟨b2, off2, none⟩) n c), (by unfold Hid; simp [upd, e1, e2]), hz.next apx hsz.out 3 (by decide) _ (fun _ h => Option.some.inj h), BefP.keep hb24 (by decide)⟩
                          · have e1 : z 70 = .bool false := hz 1 _ (hw 1 (by kernel_rfl)) rfl
                            refine wpOp_want rfl (by simp [Region.wanted, yielded, e1]) ?_
                            go_simp
                            exact ⟨⟨by simp [hsz.out], hx.out⟩, upd z 73 (.int .i64 (k : Nat)), (by unfold Hid; simp [upd, e1]), hz.next apx hsz.out 4 (by decide) _ (fun _ h => Option.some.inj h), BefP.keep hb24 (by decide)⟩
                          · have e1 : z 70 = .bool false := hz 1 _ (hw 1 (by kernel_rfl)) rfl
                            have e3 : z 72 = .slice (some ⟨b2, off2, none⟩) n c := hz 3 _ (hw 3 (by kernel_rfl)) rfl
                            have e4 : z 73 = .int .i64 (k : Nat) := hz 4 _ (hw 4 (by kernel_rfl)) rfl
                            refine wpOp_want rfl (by simp [Region.wanted, yielded, e1]) ?_
                            go_simp
                            exact ⟨⟨by simp [hsz.out], hx.out⟩, upd z 74 (.pointer (some ⟨b2, off2 + k * 3, none⟩)), (by unfold Hid; simp [upd, e1, e3, e4]), hz.next apx hsz.out 5 (by decide) _ (fun _ h => Option.some.inj h), BefP.keep hb24 (by decide)⟩
                          · have e1 : z 70 = .bool false := hz 1 _ (hw 1 (by kernel_rfl)) rfl
                            have e5 : z 74 = .pointer (some ⟨b2, off2 + k * 3, none⟩) := hz 5 _ (hw 5 (by kernel_rfl)) rfl
                            refine wpOp_want rfl (by simp [Region.wanted, yielded, e1]) ?_
                            go_simp
                            exact ⟨⟨by simp [hsz.out], hx.out⟩, upd z 75 (.pointer (some ⟨b2, off2 + k * 3 + 1, none⟩)), (by unfold Hid; simp [upd, e1, e5]), hz.next apx hsz.out 6 (by decide) _ (fun _ h => Option.some.inj h), BefP.keep hb24 (by decide)⟩
                          · have e1 : z 70 = .bool false := hz 1 _ (hw 1 (by kernel_rfl)) rfl
                            have e6 : z 75 = .pointer (some ⟨b2, off2 + k * 3 + 1, none⟩) := hz 6 _ (hw 6 (by kernel_rfl)) rfl
                            have rg : wz.rangeAt b2 (off2 + k * 3 + 1) (lab r.a r.c).toList := fun j v hv => (hx.out.cell (p := ⟨b2, off2 + k * 3 + 1 + j, none⟩) (World.block_lt_of_cell? _ _ (Hrm.out j v hv))).trans (Hrm.out j v hv)
                            refine wpOp_want rfl (by simp [Region.wanted, yielded, e1]) (wp_load_mid 27 (.tmp 75) rfl b2 (off2 + k * 3 + 1) e6 (lab r.a r.c).toList _ rg Tryd.underlying27 rfl infoL2 ?_)
                            go_simp
                            exact ⟨⟨by simp [hsz.out], hx.out⟩, upd z 76 (.agg (lab r.a r.c)), (by unfold Hid; simp [upd, e1, e6]), hz.next apx hsz.out 7 (by decide) _ (fun _ h => Option.some.inj h), BefP.keep hb24 (by decide)⟩
                          · have e1 : z 70 = .bool false := hz 1 _ (hw 1 (by kernel_rfl)) rfl
                            refine wpOp_want rfl (by simp [Region.wanted, yielded, e1]) ?_
                            go_simp
                            exact ⟨⟨by simp [hsz.out], hx.out⟩, upd z 77 (.slice (some ⟨b, off, none⟩) m c2), (by unfold Hid; simp [upd, e1]), hz.next apx hsz.out 8 (by decide) _ (fun _ h => Option.some.inj h), BefP.keep hb24 (by decide)⟩
                          · have e1 : z 70 = .bool false := hz 1 _ (hw 1 (by kernel_rfl)) rfl
                            refine wpOp_want rfl (by simp [Region.wanted, yielded, e1]) ?_
                            go_simp
                            exact ⟨⟨by simp [hsz.out], hx.out⟩, upd z 78 (.int .i64 (j : Nat)), (by unfold Hid; simp [upd, e1]), hz.next apx hsz.out 9 (by decide) _ (fun _ h => Option.some.inj h), BefP.keep hb24 (by decide)⟩
                          · have e1 : z 70 = .bool false := hz 1 _ (hw 1 (by kernel_rfl)) rfl
                            have e8 : z 77 = .slice (some ⟨b, off, none⟩) m c2 := hz 8 _ (hw 8 (by kernel_rfl)) rfl
                            have e9 : z 78 = .int .i64 (j : Nat) := hz 9 _ (hw 9 (by kernel_rfl)) rfl
                            refine wpOp_want rfl (by simp [Region.wanted, yielded, e1]) ?_
                            go_simp
                            exact ⟨⟨by simp [hsz.out], hx.out⟩, upd z 79 (.pointer (some ⟨b, off + j * 2, none⟩)), (by unfold Hid; simp [upd, e1, e8, e9]), hz.next apx hsz.out 10 (by decide) _ (fun _ h => Option.some.inj h), BefP.keep hb24 (by decide)⟩
                          · have e1 : z 70 = .bool false := hz 1 _ (hw 1 (by kernel_rfl)) rfl
                            have e10 : z 79 = .pointer (some ⟨b, off + j * 2, none⟩) := hz 10 _ (hw 10 (by kernel_rfl)) rfl
                            have rg : wz.rangeAt b (off + j * 2) (lab x.1 x.2).toList := fun j v hv => (hx.out.cell (p := ⟨b, off + _ * 2 + j, none⟩) (World.block_lt_of_cell? _ _ (Hrxk.out j v hv))).trans (Hrxk.out j v hv)
                            refine wpOp_want rfl (by simp [Region.wanted, yielded, e1]) (wp_load_mid 27 (.tmp 79) rfl b (off + j * 2) e10 (lab x.1 x.2).toList _ rg Tryd.underlying27 rfl infoL2 ?_)
                            go_simp
                            exact ⟨⟨by simp [hsz.out], hx.out⟩, upd z 80 (.agg (lab x.1 x.2)), (by unfold Hid; simp [upd, e1, e10]), hz.next apx hsz.out 11 (by decide) _ (fun _ h => Option.some.inj h), BefP.keep hb24 (by decide)⟩
                          · have e1 : z 70 = .bool false := hz 1 _ (hw 1 (by kernel_rfl)) rfl
                            have e7 : z 76 = .agg (lab r.a r.c) := hz 7 _ (hw 7 (by kernel_rfl)) rfl
                            have e11 : z 80 = .agg (lab x.1 x.2) := hz 11 _ (hw 11 (by kernel_rfl)) rfl
                            refine wpOp_want rfl (by simp [Region.wanted, yielded, e1]) ?_
                            go_simp
                            exact ⟨⟨by simp [hsz.out], hx.out⟩, upd z 81 (.bool true), (by unfold Hid; simp [upd, e1, e7, e11]), hz.next apx hsz.out 12 (by decide) _ (fun _ h => Option.some.inj h), BefP.keep hb24 (by decide)⟩
                          · have e1 : z 70 = .bool false := hz 1 _ (hw 1 (by kernel_rfl)) rfl
                            have e12 : z 81 = .bool true := hz 12 _ (hw 12 (by kernel_rfl)) rfl
                            refine wpOp_want rfl (by simp [Region.wanted, yielded, e1]) ?_
                            go_simp
                            exact ⟨⟨by simp [hsz.out], hx.out⟩, upd z 82 (.bool true), (by unfold Hid; simp [upd, e1, e12]), hz.next apx hsz.out 13 (by decide) _ (fun _ h => Option.some.inj h), BefP.keep hb24 (by decide)⟩
                          · have e13 : z 82 = .bool true := hz 13 _ (hw 13 (by kernel_rfl)) rfl
                            refine wpOp_want rfl (by simp [Region.wanted, yielded, e13]) ?_
                            go_simp
                            exact ⟨⟨by simp [hsz.out], hx.out⟩, upd z 83 (.string q), (by unfold Hid; simp [upd, e13]), hz.next apx hsz.out 14 (by decide) _ (fun _ h => Option.some.inj h), BefP.keep hb24 (by decide)⟩
                          · have e13 : z 82 = .bool true := hz 13 _ (hw 13 (by kernel_rfl)) rfl
                            refine wpOp_want rfl (by simp [Region.wanted, yielded, e13]) ?_
                            go_simp
                            exact ⟨⟨by simp [hsz.out], hx.out⟩, upd z 84 (.pointer (some ⟨tb, 1, none⟩)), (by unfold Hid; simp [upd, e13]), hz.next apx hsz.out 15 (by decide) _ (fun _ h => Option.some.inj h), BefP.keep hb24 (by decide)⟩
                          · have e13 : z 82 = .bool true := hz 13 _ (hw 13 (by kernel_rfl)) rfl
                            have e15 : z 84 = .pointer (some ⟨tb, 1, none⟩) := hz 15 _ (hw 15 (by kernel_rfl)) rfl
                            have cl : wz.cell? ⟨tb, 1, none⟩ = some (.slice (some ⟨b2, off2, none⟩) n c) := (hx.out.cell (p := ⟨tb, 1, none⟩) (World.block_lt_of_cell? _ _ Hcs.out)).trans Hcs.out
                            refine wpOp_want rfl (by simp [Region.wanted, yielded, e13]) ?_
                            go_simp
                            exact ⟨⟨by simp [hsz.out], hx.out⟩, upd z 85 (.slice (some ⟨b2, off2, none⟩) n c), (by unfold Hid; simp [upd, e13, e15]), hz.next apx hsz.out 16 (by decide) _ (fun _ h => Option.some.inj h), BefP.keep hb24 (by decide)⟩
                          · have e13 : z 82 = .bool true := hz 13 _ (hw 13 (by kernel_rfl)) rfl
                            refine wpOp_want rfl (by simp [Region.wanted, yielded, e13]) ?_
                            go_simp
                            exact ⟨⟨by simp [hsz.out], hx.out⟩, upd z 86 (.int .i64 (k : Nat)), (by unfold Hid; simp [upd, e13]), hz.next apx hsz.out 17 (by decide) _ (fun _ h => Option.some.inj h), BefP.keep hb24 (by decide)⟩
                          · have e13 : z 82 = .bool true := hz 13 _ (hw 13 (by kernel_rfl)) rfl
                            have e16 : z 85 = .slice (some ⟨b2, off2, none⟩) n c := hz 16 _ (hw 16 (by kernel_rfl)) rfl
                            have e17 : z 86 = .int .i64 (k : Nat) := hz 17 _ (hw 17 (by kernel_rfl)) rfl
                            refine wpOp_want rfl (by simp [Region.wanted, yielded, e13]) ?_
                            go_simp
                            exact ⟨⟨by simp [hsz.out], hx.out⟩, upd z 87 (.pointer (some ⟨b2, off2 + k * 3, none⟩)), (by unfold Hid; simp [upd, e13, e16, e17]), hz.next apx hsz.out 18 (by decide) _ (fun _ h => Option.some.inj h), BefP.keep hb24 (by decide)⟩
                          · have e13 : z 82 = .bool true := hz 13 _ (hw 13 (by kernel_rfl)) rfl
                            have e18 : z 87 = .pointer (some ⟨b2, off2 + k * 3, none⟩) := hz 18 _ (hw 18 (by kernel_rfl)) rfl
                            refine wpOp_want rfl (by simp [Region.wanted, yielded, e13]) ?_
                            go_simp
                            exact ⟨⟨by simp [hsz.out], hx.out⟩, upd z 88 (.pointer (some ⟨b2, off2 + k * 3, none⟩)), (by unfold Hid; simp [upd, e13, e18]), hz.next apx hsz.out 19 (by decide) _ (fun _ h => Option.some.inj h), BefP.keep hb24 (by decide)⟩
                          · have e13 : z 82 = .bool true := hz 13 _ (hw 13 (by kernel_rfl)) rfl
                            have e19 : z 88 = .pointer (some ⟨b2, off2 + k * 3, none⟩) := hz 19 _ (hw 19 (by kernel_rfl)) rfl
                            have cl : wz.cell? ⟨b2, off2 + k * 3, none⟩ = some (.string r.p) := (hx.out.cell (p := ⟨b2, off2 + k * 3, none⟩) (World.block_lt_of_cell? _ _ Hrp.out)).trans Hrp.out
                            refine wpOp_want rfl (by simp [Region.wanted, yielded, e13]) ?_
                            go_simp
                            exact ⟨⟨by simp [hsz.out], hx.out⟩, upd z 89 (.string r.p), (by unfold Hid; simp [upd, e13, e19]), hz.next apx hsz.out 20 (by decide) _ (fun _ h => Option.some.inj h), BefP.keep hb24 (by decide)⟩
                          · have e13 : z 82 = .bool true := hz 13 _ (hw 13 (by kernel_rfl)) rfl
                            have e14 : z 83 = .string q := hz 14 _ (hw 14 (by kernel_rfl)) rfl
                            have e20 : z 89 = .string r.p := hz 20 _ (hw 20 (by kernel_rfl)) rfl
                            refine wpOp_want rfl (by simp [Region.wanted, yielded, e13]) ?_
                            go_simp
                            go_at_call 14
                            refine (HOr.out wz (Hlk.out.trans (hx.out.mono Hlk.out.size))).mono ?_
                            rintro e w' ⟨rfl, low⟩
                            exact ⟨⟨by simp [hsz.out], hx.out.trans (low.mono hx.out.size)⟩, upd z 90 (.bool ov), (by unfold Hid; simp [upd, e13, e14, e20]), hz.next apx hsz.out 21 (by decide) _ (fun _ h => Option.some.inj h), BefP.keep hb24 (by decide)⟩
                          · have e1 : z 70 = .bool false := hz 1 _ (hw 1 (by kernel_rfl)) rfl
                            have e13 : z 82 = .bool true := hz 13 _ (hw 13 (by kernel_rfl)) rfl
                            have e21 : z 90 = .bool ov := hz 21 _ (hw 21 (by kernel_rfl)) rfl
                            refine wpOp_want rfl (by simp [Region.wanted, yielded, e1]) ?_
                            go_simp
                            exact ⟨⟨by simp [hsz.out], hx.out⟩, upd z 91 (.bool ov), (by unfold Hid; simp [upd, e1, e13, e21]), hz.next apx hsz.out 22 (by decide) _ (fun _ h => Option.some.inj h), BefP.keep hb24 (by decide)⟩
                          · have e1 : z 70 = .bool false := hz 1 _ (hw 1 (by kernel_rfl)) rfl
                            have e22 : z 91 = .bool ov := hz 22 _ (hw 22 (by kernel_rfl)) rfl
                            refine wpOp_plain rfl rfl ?_
                            go_simp
                            exact ⟨⟨by simp [hsz.out], hx.out⟩, upd z 92 (.bool ov), (by unfold Hid; simp [upd, e1, e22]), hz.next apx hsz.out 23 (by decide) _ (fun _ h => Option.some.inj h), BefP.keep hb24 (by decide)⟩
                          · have e23 : z 92 = .bool ov := hz 23 _ (hw 23 (by kernel_rfl)) rfl
                            refine wpOp_plain rfl rfl ?_
                            go_simp
                            exact ⟨⟨by simp [hsz.out], hx.out⟩, upd z 10 (.bool ov), (by unfold Hid; simp [upd, e23]), hz.next apx hsz.out 24 (by decide) _ (fun _ h => Option.some.inj h), BefP.past (by rw [hsz.out]; decide)⟩
                        · exact ⟨⟨rfl, (Below.refl _ _).drew⟩, fun xx => (#[.agg (tabV v (some ⟨b2, off2, none⟩) n c), .string q, .string s, .pointer (some ⟨tb, 0, none⟩), undef, undef, u6, .slice (some ⟨b, off, none⟩) m c2, .bool xf, .int .i64 (j : Nat), .bool false, .int .i64 (k : Nat), .agg (tabV v (some ⟨b2, off2, none⟩) n c), .string s, .bool false, .bool false, .string q, .int .i64 (q.size : Nat), .bool (decide ((200 : Int) < (q.size : Nat))), .bool (decide ((200 : Int) < (q.size : Nat))), .bool (decide ((200 : Int) < (q.size : Nat))), .string q, .bool true, .bool true, .string q, .int .i64 0, .bool false, .bool false, .bool (decide ((200 : Int) < (q.size : Nat))), undef, .agg (tabV v (some ⟨b2, off2, none⟩) n c), .string q, .slice (some ⟨b, off, none⟩) m c2, .string q, .string s, .bool cv, .bool !cv, .int .i64 (j : Nat), .slice (some ⟨b, off, none⟩) m c2, .int .i64 (m : Nat), .bool true, u41, u42, y43, y44, y45, y46, y47, y48, y49, y50, y51, y52, y53, y54, y55, y56, y57, y58, y59, y60, y61, .int .i64 (k : Nat), .pointer (some ⟨tb, 1, none⟩), .slice (some ⟨b2, off2, none⟩) n c, .int .i64 (n : Nat), .bool true, u67, u68, u69, u70, u71, u72, u73, u74, u75, u76, u77, u78, u79, u80, u81, u82, u83, u84, u85, u86, u87, u88, u89, u90, u91, u92, u93, u94, undef, undef, undef, undef] : Array Value).getD xx undef, (by rfl), Holding.start, BefP.start rfl⟩
                      | false =>
                        have apx : apartB [69, 70, 71, 72, 73, 74, 75, 76, 77, 78, 79, 80, 81, 82, 83, 84, 85, 86, 87, 88, 89, 90, 91, 92, 10] = true := by decide
                        refine wp_region_any (by kernel_rfl) ?_
                        change wpAny _ _ _ _ _ _ _ (World.drew _)
                        refine wpAny_inv2 (fun ll aa wz => Hid (ll.size = 25 ∧ Below wr.heap.size wr wz) ∧ ∃ (z : Nat → Value), Hid (aa = ⟨#[.agg (tabV v (some ⟨b2, off2, none⟩) n c), .string q, .string s, .pointer (some ⟨tb, 0, none⟩), undef, undef, u6, .slice (some ⟨b, off, none⟩) m c2, .bool xf, .int .i64 (j : Nat), z 10, .int .i64 (k : Nat), .agg (tabV v (some ⟨b2, off2, none⟩) n c), .string s, .bool false, .bool false, .string q, .int .i64 (q.size : Nat), .bool (decide ((200 : Int) < (q.size : Nat))), .bool (decide ((200 : Int) < (q.size : Nat))), .bool (decide ((200 : Int) < (q.size : Nat))), .string q, .bool true, .bool true, .string q, .int .i64 0, .bool false, .bool false, .bool (decide ((200 : Int) < (q.size : Nat))), undef, .agg (tabV v (some ⟨b2, off2, none⟩) n c), .string q, .slice (some ⟨b, off, none⟩) m c2, .string q, .string s, .bool cv, .bool !cv, .int .i64 (j : Nat), .slice (some ⟨b, off, none⟩) m c2, .int .i64 (m : Nat), .bool true, u41, u42, y43, y44, y45, y46, y47, y48, y49, y50, y51, y52, y53, y54, y55, y56, y57, y58, y59, y60, y61, .int .i64 (k : Nat), .pointer (some ⟨tb, 1, none⟩), .slice (some ⟨b2, off2, none⟩) n c, .int .i64 (n : Nat), .bool true, u67, u68, z 69, z 70, z 71, z 72, z 73, z 74, z 75, z 76, z 77, z 78, z 79, z 80, z 81, z 82, z 83, z 84, z 85, z 86, z 87, z 88, z 89, z 90, z 91, z 92, u93, u94, undef, undef, undef, undef], []⟩) ∧ Holding [69, 70, 71, 72, 73, 74, 75, 76, 77, 78, 79, 80, 81, 82, 83, 84, 85, 86, 87, 88, 89, 90, 91, 92, 10] [some (.bool false), some (.bool false), some (.pointer (some ⟨tb, 1, none⟩)), some (.slice (some ⟨b2, off2, none⟩) n c), some (.int .i64 (k : Nat)), some (.pointer (some ⟨b2, off2 + k * 3, none⟩)), some (.pointer (some ⟨b2, off2 + k * 3 + 1, none⟩)), some (.agg (lab r.a r.c)), some (.slice (some ⟨b, off, none⟩) m c2), some (.int .i64 (j : Nat)), some (.pointer (some ⟨b, off + j * 2, none⟩)), some (.agg (lab x.1 x.2)), some (.bool false), some (.bool false), some (undef), some (undef), some (undef), some (undef), some (undef), some (undef), some (undef), some (undef), some (.bool false), some (.bool false), some (.bool false)] ll z ∧ BefP ll 24 z 10 (.bool false)) ?_ (by kernel_rfl) ?_ ?_ _ rfl _ _ ?_
                        · rintro ll aa wz ⟨hI, _⟩
                          exact hI.out.1
                        · rintro ll aa wz ⟨hI, z, ha, hz, hb24⟩ hall
                          have hx := Lib.hid hI.out.2
                          have e0 : z 69 = .bool false := hz 0 _ (hall 0 (by decide)) rfl
                          have e1 : z 70 = .bool false := hz 1 _ (hall 1 (by decide)) rfl
                          have e2 : z 71 = .pointer (some ⟨tb, 1, none⟩) := hz 2 _ (hall 2 (by decide)) rfl
                          have e3 : z 72 = .slice (some ⟨b2, off2, none⟩) n c := hz 3 _ (hall 3 (by decide)) rfl
                          have e4 : z 73 = .int .i64 (k : Nat) := hz 4 _ (hall 4 (by decide)) rfl
                          have e5 : z 74 = .pointer (some ⟨b2, off2 + k * 3, none⟩) := hz 5 _ (hall 5 (by decide)) rfl
                          have e6 : z 75 = .pointer (some ⟨b2, off2 + k * 3 + 1, none⟩) := hz 6 _ (hall 6 (by decide)) rfl
                          have e7 : z 76 = .agg (lab r.a r.c) := hz 7 _ (hall 7 (by decide)) rfl
                          have e8 : z 77 = .slice (some ⟨b, off, none⟩) m c2 := hz 8 _ (hall 8 (by decide)) rfl
                          have e9 : z 78 = .int .i64 (j : Nat) := hz 9 _ (hall 9 (by decide)) rfl
                          have e10 : z 79 = .pointer (some ⟨b, off + j * 2, none⟩) := hz 10 _ (hall 10 (by decide)) rfl
                          have e11 : z 80 = .agg (lab x.1 x.2) := hz 11 _ (hall 11 (by decide)) rfl
                          have e12 : z 81 = .bool false := hz 12 _ (hall 12 (by decide)) rfl
                          have e13 : z 82 = .bool false := hz 13 _ (hall 13 (by decide)) rfl
                          have e14 : z 83 = undef := hz 14 _ (hall 14 (by decide)) rfl
                          have e15 : z 84 = undef := hz 15 _ (hall 15 (by decide)) rfl
                          have e16 : z 85 = undef := hz 16 _ (hall 16 (by decide)) rfl
                          have e17 : z 86 = undef := hz 17 _ (hall 17 (by decide)) rfl
                          have e18 : z 87 = undef := hz 18 _ (hall 18 (by decide)) rfl
                          have e19 : z 88 = undef := hz 19 _ (hall 19 (by decide)) rfl
                          have e20 : z 89 = undef := hz 20 _ (hall 20 (by decide)) rfl
                          have e21 : z 90 = undef := hz 21 _ (hall 21 (by decide)) rfl
                          have e22 : z 91 = .bool false := hz 22 _ (hall 22 (by decide)) rfl
                          have e23 : z 92 = .bool false := hz 23 _ (hall 23 (by decide)) rfl
                          have e24 : z 10 = .bool false := hz 24 _ (hall 24 (by decide)) rfl
                          clear hall hz hI hb24
                          obtain rfl := ha.out
                          clear ha
                          clear apx
                          have E := Lib.hid e24
                          have HK := Lib.hid (hI2.out.trans (hx.out.mono hI2.out.size))
                          clear e0 e1 e2 e3 e4 e5 e6 e7 e8 e9 e10 e11 e12 e13 e14 e15 e16 e17 e18 e19 e20 e21 e22 e23 e24 hx hI2
                          dsimp only
                          rw [E.out]
                          clear E
                          generalize z 69 = y69
                          generalize z 70 = y70
                          generalize z 71 = y71
                          generalize z 72 = y72
                          generalize z 73 = y73
                          generalize z 74 = y74
                          generalize z 75 = y75
                          generalize z 76 = y76
                          generalize z 77 = y77
                          generalize z 78 = y78
                          generalize z 79 = y79
                          generalize z 80 = y80
                          generalize z 81 = y81
                          generalize z 82 = y82
                          generalize z 83 = y83
                          generalize z 84 = y84
                          generalize z 85 = y85
                          generalize z 86 = y86
                          generalize z 87 = y87
                          generalize z 88 = y88
                          generalize z 89 = y89
                          generalize z 90 = y90
                          generalize z 91 = y91
                          generalize z 92 = y92
                          clear z
                          go_wp2
                          go_roundw
                          case rel => exact ⟨k + 1, by omega, by go_num, by rw [Hk1.out]; rfl, HK.out⟩
                          case measure => simp [intOf]; omega
                        · rintro ll aa wz i ⟨hI, z, ha, hz, hb24⟩ hcl hi hu hw
                          obtain rfl := ha.out
                          have hsz := Lib.hid hI.out.1
                          have hx := Lib.hid hI.out.2
                          clear ha hI
                          have hin : i < 25 := hi
                          obtain rfl | rfl | rfl | rfl | rfl | rfl | rfl | rfl | rfl | rfl | rfl | rfl | rfl | rfl | rfl | rfl | rfl | rfl | rfl | rfl | rfl | rfl | rfl | rfl | rfl : i = 0 ∨ i = 1 ∨ i = 2 ∨ i = 3 ∨ i = 4 ∨ i = 5 ∨ i = 6 ∨ i = 7 ∨ i = 8 ∨ i = 9 ∨ i = 10 ∨ i = 11 ∨ i = 12 ∨ i = 13 ∨ i = 14 ∨ i = 15 ∨ i = 16 ∨ i = 17 ∨ i = 18 ∨ i = 19 ∨ i = 20 ∨ i = 21 ∨ i = 22 ∨ i = 23 ∨ i = 24 := by omega
                          · have b24 : z 10 = .bool false := hb24 (BefP.ok (fun hl => hcl 24 0 hl (by kernel_rfl)) hu)
                            refine wpOp_plain rfl rfl ?_
                            go_simp
                            exact ⟨⟨by simp [hsz.out], hx.out⟩, upd z 69 (.bool false), (by unfold Hid; simp [upd, b24]), hz.next apx hsz.out 0 (by decide) _ (fun _ h => Option.some.inj h), BefP.keep hb24 (by decide)⟩
                          · have e0 : z 69 = .bool false := hz 0 _ (hw 0 (by kernel_rfl)) rfl
                            refine wpOp_plain rfl rfl ?_
                            go_simp
                            exact ⟨⟨by simp [hsz.out], hx.out⟩, upd z 70 (.bool false), (by unfold Hid; simp [upd, e0]), hz.next apx hsz.out 1 (by decide) _ (fun _ h => Option.some.inj h), BefP.keep hb24 (by decide)⟩
                          · have e1 : z 70 = .bool false := hz 1 _ (hw 1 (by kernel_rfl)) rfl
                            refine wpOp_want rfl (by simp [Region.wanted, yielded, e1]) ?_
                            go_simp
                            exact ⟨⟨by simp [hsz.out], hx.out⟩, upd z 71 (.pointer (some ⟨tb, 1, none⟩)), (by unfold Hid; simp [upd, e1]), hz.next apx hsz.out 2 (by decide) _ (fun _ h => Option.some.inj h), BefP.keep hb24 (by decide)⟩
                          · have e1 : z 70 = .bool false := hz 1 _ (hw 1 (by kernel_rfl)) rfl
                            have e2 : z 71 = .pointer (some ⟨tb, 1, none⟩) := hz 2 _ (hw 2 (by kernel_rfl)) rfl
                            have cl : wz.cell? ⟨tb, 1, none⟩ = some (.slice (some ⟨b2, off2, none⟩) n c) := (hx.out.cell (p := ⟨tb, 1, none⟩) (World.block_lt_of_cell? _ _ Hcs.out)).trans Hcs.out
                            refine wpOp_want rfl (by simp [Region.wanted, yielded, e1]) ?_
                            go_simp
                            exact ⟨⟨by simp [hsz.out], hx.out⟩, upd z 72 (.slice (some ⟨b2, off2, none⟩) n c), (by unfold Hid; simp [upd, e1, e2]), hz.next apx hsz.out 3 (by decide) _ (fun _ h => Option.some.inj h), BefP.keep hb24 (by decide)⟩
                          · have e1 : z 70 = .bool false := hz 1 _ (hw 1 (by kernel_rfl)) rfl
                            refine wpOp_want rfl (by simp [Region.wanted, yielded, e1]) ?_
                            go_simp
                            exact ⟨⟨by simp [hsz.out], hx.out⟩, upd z 73 (.int .i64 (k : Nat)), (by unfold Hid; simp [upd, e1]), hz.next apx hsz.out 4 (by decide) _ (fun _ h => Option.some.inj h), BefP.keep hb24 (by decide)⟩
                          · have e1 : z 70 = .bool false := hz 1 _ (hw 1 (by kernel_rfl)) rfl
                            have e3 : z 72 = .slice (some ⟨b2, off2, none⟩) n c := hz 3 _ (hw 3 (by kernel_rfl)) rfl
                            have e4 : z 73 = .int .i64 (k : Nat) := hz 4 _ (hw 4 (by kernel_rfl)) rfl
                            refine wpOp_want rfl (by simp [Region.wanted, yielded, e1]) ?_
                            go_simp
                            exact ⟨⟨by simp [hsz.out], hx.out⟩, upd z 74 (.pointer (some ⟨b2, off2 + k * 3, none⟩)), (by unfold Hid; simp [upd, e1, e3, e4]), hz.next apx hsz.out 5 (by decide) _ (fun _ h => Option.some.inj h), BefP.keep hb24 (by decide)⟩
                          · have e1 : z 70 = .bool false := hz 1 _ (hw 1 (by kernel_rfl)) rfl
                            have e5 : z 74 = .pointer (some ⟨b2, off2 + k * 3, none⟩) := hz 5 _ (hw 5 (by kernel_rfl)) rfl
                            refine wpOp_want rfl (by simp [Region.wanted, yielded, e1]) ?_
                            go_simp
                            exact ⟨⟨by simp [hsz.out], hx.out⟩, upd z 75 (.pointer (some ⟨b2, off2 + k * 3 + 1, none⟩)), (by unfold Hid; simp [upd, e1, e5]), hz.next apx hsz.out 6 (by decide) _ (fun _ h => Option.some.inj h), BefP.keep hb24 (by decide)⟩
                          · have e1 : z 70 = .bool false := hz 1 _ (hw 1 (by kernel_rfl)) rfl
                            have e6 : z 75 = .pointer (some ⟨b2, off2 + k * 3 + 1, none⟩) := hz 6 _ (hw 6 (by kernel_rfl)) rfl
                            have rg : wz.rangeAt b2 (off2 + k * 3 + 1) (lab r.a r.c).toList := fun j v hv => (hx.out.cell (p := ⟨b2, off2 + k * 3 + 1 + j, none⟩) (World.block_lt_of_cell? _ _ (Hrm.out j v hv))).trans (Hrm.out j v hv)
                            refine wpOp_want rfl (by simp [Region.wanted, yielded, e1]) (wp_load_mid 27 (.tmp 75) rfl b2 (off2 + k * 3 + 1) e6 (lab r.a r.c).toList _ rg Tryd.underlying27 rfl infoL2 ?_)
                            go_simp
                            exact ⟨⟨by simp [hsz.out], hx.out⟩, upd z 76 (.agg (lab r.a r.c)), (by unfold Hid; simp [upd, e1, e6]), hz.next apx hsz.out 7 (by decide) _ (fun _ h => Option.some.inj h), BefP.keep hb24 (by decide)⟩
                          · have e1 : z 70 = .bool false := hz 1 _ (hw 1 (by kernel_rfl)) rfl
                            refine wpOp_want rfl (by simp [Region.wanted, yielded, e1]) ?_
                            go_simp
                            exact ⟨⟨by simp [hsz.out], hx.out⟩, upd z 77 (.slice (some ⟨b, off, none⟩) m c2), (by unfold Hid; simp [upd, e1]), hz.next apx hsz.out 8 (by decide) _ (fun _ h => Option.some.inj h), BefP.keep hb24 (by decide)⟩
                          · have e1 : z 70 = .bool false := hz 1 _ (hw 1 (by kernel_rfl)) rfl
                            refine wpOp_want rfl (by simp [Region.wanted, yielded, e1]) ?_
                            go_simp
                            exact ⟨⟨by simp [hsz.out], hx.out⟩, upd z 78 (.int .i64 (j : Nat)), (by unfold Hid; simp [upd, e1]), hz.next apx hsz.out 9 (by decide) _ (fun _ h => Option.some.inj h), BefP.keep hb24 (by decide)⟩
                          · have e1 : z 70 = .bool false := hz 1 _ (hw 1 (by kernel_rfl)) rfl
                            have e8 : z 77 = .slice (some ⟨b, off, none⟩) m c2 := hz 8 _ (hw 8 (by kernel_rfl)) rfl
                            have e9 : z 78 = .int .i64 (j : Nat) := hz 9 _ (hw 9 (by kernel_rfl)) rfl
                            refine wpOp_want rfl (by simp [Region.wanted, yielded, e1]) ?_
                            go_simp
                            exact ⟨⟨by simp [hsz.out], hx.out⟩, upd z 79 (.pointer (some ⟨b, off + j * 2, none⟩)), (by unfold Hid; simp [upd, e1, e8, e9]), hz.next apx hsz.out 10 (by decide) _ (fun _ h => Option.some.inj h), BefP.keep hb24 (by decide)⟩
                          · have e1 : z 70 = .bool false := hz 1 _ (hw 1 (by kernel_rfl)) rfl
                            have e10 : z 79 = .pointer (some ⟨b, off + j * 2, none⟩) := hz 10 _ (hw 10 (by kernel_rfl)) rfl
                            have rg : wz.rangeAt b (off + j * 2) (lab x.1 x.2).toList := fun j v hv => (hx.out.cell (p := ⟨b, off + _ * 2 + j, none⟩) (World.block_lt_of_cell? _ _ (Hrxk.out j v hv))).trans (Hrxk.out j v hv)
                            refine wpOp_want rfl (by simp [Region.wanted, yielded, e1]) (wp_load_mid 27 (.tmp 79) rfl b (off + j * 2) e10 (lab x.1 x.2).toList _ rg Tryd.underlying27 rfl infoL2 ?_)
                            go_simp
                            exact ⟨⟨by simp [hsz.out], hx.out⟩, upd z 80 (.agg (lab x.1 x.2)), (by unfold Hid; simp [upd, e1, e10]), hz.next apx hsz.out 11 (by decide) _ (fun _ h => Option.some.inj h), BefP.keep hb24 (by decide)⟩
                          · have e1 : z 70 = .bool false := hz 1 _ (hw 1 (by kernel_rfl)) rfl
                            have e7 : z 76 = .agg (lab r.a r.c) := hz 7 _ (hw 7 (by kernel_rfl)) rfl
                            have e11 : z 80 = .agg (lab x.1 x.2) := hz 11 _ (hw 11 (by kernel_rfl)) rfl
                            refine wpOp_want rfl (by simp [Region.wanted, yielded, e1]) ?_
                            go_simp
                            exact ⟨⟨by simp [hsz.out], hx.out⟩, upd z 81 (.bool false), (by unfold Hid; simp [upd, e1, e7, e11]), hz.next apx hsz.out 12 (by decide) _ (fun _ h => Option.some.inj h), BefP.keep hb24 (by decide)⟩
                          · have e1 : z 70 = .bool false := hz 1 _ (hw 1 (by kernel_rfl)) rfl
                            have e12 : z 81 = .bool false := hz 12 _ (hw 12 (by kernel_rfl)) rfl
                            refine wpOp_want rfl (by simp [Region.wanted, yielded, e1]) ?_
                            go_simp
                            exact ⟨⟨by simp [hsz.out], hx.out⟩, upd z 82 (.bool false), (by unfold Hid; simp [upd, e1, e12]), hz.next apx hsz.out 13 (by decide) _ (fun _ h => Option.some.inj h), BefP.keep hb24 (by decide)⟩
                          · have e13 : z 82 = .bool false := hz 13 _ (hw 13 (by kernel_rfl)) rfl
                            refine wpOp_skip rfl (by simp [Region.wanted, yielded, e13]) ?_
                            go_simp
                            exact ⟨⟨by simp [hsz.out], hx.out⟩, upd z 83 (undef), (by unfold Hid; simp [upd, e13]), hz.next apx hsz.out 14 (by decide) _ (fun _ h => Option.some.inj h), BefP.keep hb24 (by decide)⟩
                          · have e13 : z 82 = .bool false := hz 13 _ (hw 13 (by kernel_rfl)) rfl
                            refine wpOp_skip rfl (by simp [Region.wanted, yielded, e13]) ?_
                            go_simp
                            exact ⟨⟨by simp [hsz.out], hx.out⟩, upd z 84 (undef), (by unfold Hid; simp [upd, e13]), hz.next apx hsz.out 15 (by decide) _ (fun _ h => Option.some.inj h), BefP.keep hb24 (by decide)⟩
                          · have e13 : z 82 = .bool false := hz 13 _ (hw 13 (by kernel_rfl)) rfl
                            refine wpOp_skip rfl (by simp [Region.wanted, yielded, e13]) ?_
                            go_simp
                            exact ⟨⟨by simp [hsz.out], hx.out⟩, upd z 85 (undef), (by unfold Hid; simp [upd, e13]), hz.next apx hsz.out 16 (by decide) _ (fun _ h => Option.some.inj h), BefP.keep hb24 (by decide)⟩
                          · have e13 : z 82 = .bool false := hz 13 _ (hw 13 (by kernel_rfl)) rfl
                            refine wpOp_skip rfl (by simp [Region.wanted, yielded, e13]) ?_
                            go_simp
                            exact ⟨⟨by simp [hsz.out], hx.out⟩, upd z 86 (undef), (by unfold Hid; simp [upd, e13]), hz.next apx hsz.out 17 (by decide) _ (fun _ h => Option.some.inj h), BefP.keep hb24 (by decide)⟩
                          · have e13 : z 82 = .bool false := hz 13 _ (hw 13 (by kernel_rfl)) rfl
                            refine wpOp_skip rfl (by simp [Region.wanted, yielded, e13]) ?_
                            go_simp
                            exact ⟨⟨by simp [hsz.out], hx.out⟩, upd z 87 (undef), (by unfold Hid; simp [upd, e13]), hz.next apx hsz.out 18 (by decide) _ (fun _ h => Option.some.inj h), BefP.keep hb24 (by decide)⟩
                          · have e13 : z 82 = .bool false := hz 13 _ (hw 13 (by kernel_rfl)) rfl
                            refine wpOp_skip rfl (by simp [Region.wanted, yielded, e13]) ?_
                            go_simp
                            exact ⟨⟨by simp [hsz.out], hx.out⟩, upd z 88 (undef), (by unfold Hid; simp [upd, e13]), hz.next apx hsz.out 19 (by decide) _ (fun _ h => Option.some.inj h), BefP.keep hb24 (by decide)⟩
                          · have e13 : z 82 = .bool false := hz 13 _ (hw 13 (by kernel_rfl)) rfl
                            refine wpOp_skip rfl (by simp [Region.wanted, yielded, e13]) ?_
                            go_simp
                            exact ⟨⟨by simp [hsz.out], hx.out⟩, upd z 89 (undef), (by unfold Hid; simp [upd, e13]), hz.next apx hsz.out 20 (by decide) _ (fun _ h => Option.some.inj h), BefP.keep hb24 (by decide)⟩
                          · have e13 : z 82 = .bool false := hz 13 _ (hw 13 (by kernel_rfl)) rfl
                            refine wpOp_skip rfl (by simp [Region.wanted, yielded, e13]) ?_
                            go_simp
                            exact ⟨⟨by simp [hsz.out], hx.out⟩, upd z 90 (undef), (by unfold Hid; simp [upd, e13]), hz.next apx hsz.out 21 (by decide) _ (fun _ h => Option.some.inj h), BefP.keep hb24 (by decide)⟩
                          · have e1 : z 70 = .bool false := hz 1 _ (hw 1 (by kernel_rfl)) rfl
                            have e13 : z 82 = .bool false := hz 13 _ (hw 13 (by kernel_rfl)) rfl
                            refine wpOp_want rfl (by simp [Region.wanted, yielded, e1]) ?_
                            go_simp
                            exact ⟨⟨by simp [hsz.out], hx.out⟩, upd z 91 (.bool false), (by unfold Hid; simp [upd, e1, e13]), hz.next apx hsz.out 22 (by decide) _ (fun _ h => Option.some.inj h), BefP.keep hb24 (by decide)⟩
                          · have e1 : z 70 = .bool false := hz 1 _ (hw 1 (by kernel_rfl)) rfl
                            have e22 : z 91 = .bool false := hz 22 _ (hw 22 (by kernel_rfl)) rfl
                            refine wpOp_plain rfl rfl ?_
                            go_simp
                            exact ⟨⟨by simp [hsz.out], hx.out⟩, upd z 92 (.bool false), (by unfold Hid; simp [upd, e1, e22]), hz.next apx hsz.out 23 (by decide) _ (fun _ h => Option.some.inj h), BefP.keep hb24 (by decide)⟩
                          · have e23 : z 92 = .bool false := hz 23 _ (hw 23 (by kernel_rfl)) rfl
                            refine wpOp_plain rfl rfl ?_
                            go_simp
                            exact ⟨⟨by simp [hsz.out], hx.out⟩, upd z 10 (.bool false), (by unfold Hid; simp [upd, e23]), hz.next apx hsz.out 24 (by decide) _ (fun _ h => Option.some.inj h), BefP.past (by rw [hsz.out]; decide)⟩
                        · exact ⟨⟨rfl, (Below.refl _ _).drew⟩, fun xx => (#[.agg (tabV v (some ⟨b2, off2, none⟩) n c), .string q, .string s, .pointer (some ⟨tb, 0, none⟩), undef, undef, u6, .slice (some ⟨b, off, none⟩) m c2, .bool xf, .int .i64 (j : Nat), .bool false, .int .i64 (k : Nat), .agg (tabV v (some ⟨b2, off2, none⟩) n c), .string s, .bool false, .bool false, .string q, .int .i64 (q.size : Nat), .bool (decide ((200 : Int) < (q.size : Nat))), .bool (decide ((200 : Int) < (q.size : Nat))), .bool (decide ((200 : Int) < (q.size : Nat))), .string q, .bool true, .bool true, .string q, .int .i64 0, .bool false, .bool false, .bool (decide ((200 : Int) < (q.size : Nat))), undef, .agg (tabV v (some ⟨b2, off2, none⟩) n c), .string q, .slice (some ⟨b, off, none⟩) m c2, .string q, .string s, .bool cv, .bool !cv, .int .i64 (j : Nat), .slice (some ⟨b, off, none⟩) m c2, .int .i64 (m : Nat), .bool true, u41, u42, y43, y44, y45, y46, y47, y48, y49, y50, y51, y52, y53, y54, y55, y56, y57, y58, y59, y60, y61, .int .i64 (k : Nat), .pointer (some ⟨tb, 1, none⟩), .slice (some ⟨b2, off2, none⟩) n c, .int .i64 (n : Nat), .bool true, u67, u68, u69, u70, u71, u72, u73, u74, u75, u76, u77, u78, u79, u80, u81, u82, u83, u84, u85, u86, u87, u88, u89, u90, u91, u92, u93, u94, undef, undef, undef, undef] : Array Value).getD xx undef, (by rfl), Holding.start, BefP.start rfl⟩
                  · have hgek : ¬ (k : Int) < n := by omega
                    have ekn : k = n := by omega
                    have HKn : Hid (KnJ q f2 x rs k = true) := by show _ = _; rw [ekn, ← Hn.out]; exact Hkn.out
                    have HZ := Lib.hid (HY.out.trans (hI2.out.mono HY.out.size))
                    rw [HKn.out]
                    clear ekn hk hltk hI2
                    go_wp2
                    go_roundw
                    case rel => exact ⟨j + 1, by omega, by go_num, by rw [Hj.out]; rfl, HZ.out⟩
                    case measure => simp [intOf]; omega
              · rintro ll aa wy i ⟨hI, z, ha, hz⟩ hi hu hw
                obtain rfl := ha.out
                have hsz := Lib.hid hI.out.1
                have hx := Lib.hid hI.out.2
                clear ha hI
                have hin : i < 9 := hi
                obtain rfl | rfl | rfl | rfl | rfl | rfl | rfl | rfl | rfl : i = 0 ∨ i = 1 ∨ i = 2 ∨ i = 3 ∨ i = 4 ∨ i = 5 ∨ i = 6 ∨ i = 7 ∨ i = 8 := by omega
                · refine wpOp_plain rfl rfl ?_
                  go_simp
                  exact ⟨⟨by simp [hsz.out], hx.out⟩, upd z 54 (.slice (some ⟨b, off, none⟩) m c2), (by unfold Hid; simp [upd]), hz.next apx hsz.out 0 (by decide) _ (fun _ h => Option.some.inj h)⟩
                · refine wpOp_plain rfl rfl ?_
                  go_simp
                  exact ⟨⟨by simp [hsz.out], hx.out⟩, upd z 55 (.int .i64 (j : Nat)), (by unfold Hid; simp [upd]), hz.next apx hsz.out 1 (by decide) _ (fun _ h => Option.some.inj h)⟩
                · have e0 : z 54 = .slice (some ⟨b, off, none⟩) m c2 := hz 0 _ (hw 0 (by kernel_rfl)) rfl
                  have e1 : z 55 = .int .i64 (j : Nat) := hz 1 _ (hw 1 (by kernel_rfl)) rfl
                  refine wpOp_plain rfl rfl ?_
                  go_simp
                  exact ⟨⟨by simp [hsz.out], hx.out⟩, upd z 56 (.pointer (some ⟨b, off + j * 2, none⟩)), (by unfold Hid; simp [upd, e0, e1]), hz.next apx hsz.out 2 (by decide) _ (fun _ h => Option.some.inj h)⟩
                · have e2 : z 56 = .pointer (some ⟨b, off + j * 2, none⟩) := hz 2 _ (hw 2 (by kernel_rfl)) rfl
                  have rg : wy.rangeAt b (off + j * 2) (lab x.1 x.2).toList := fun j v hv => (hx.out.cell (p := ⟨b, off + _ * 2 + j, none⟩) (World.block_lt_of_cell? _ _ (Hrx8.out j v hv))).trans (Hrx8.out j v hv)
                  refine wpOp_plain rfl rfl (wp_load_mid 27 (.tmp 56) rfl b (off + j * 2) e2 (lab x.1 x.2).toList _ rg Tryd.underlying27 rfl infoL2 ?_)
                  go_simp
                  exact ⟨⟨by simp [hsz.out], hx.out⟩, upd z 57 (.agg (lab x.1 x.2)), (by unfold Hid; simp [upd, e2]), hz.next apx hsz.out 3 (by decide) _ (fun _ h => Option.some.inj h)⟩
                · have cl := (hx.out.block _ (Array.getElem?_eq_some_iff.1 Hrb8.out).1).trans Hrb8.out
                  refine wpOp_plain rfl rfl (wp_load_row 24 (.tmp 3) rfl (tb) rfl 24 (tabV v A n c) (0, 0) _ cl Tryd.underlying24 rfl infoT ?_)
                  go_simp
                  exact ⟨⟨by simp [hsz.out], hx.out⟩, upd z 58 (.agg (tabV v A n c)), (by unfold Hid; simp [upd]), hz.next apx hsz.out 4 (by decide) _ (fun _ h => Option.some.inj h)⟩
                · refine wpOp_plain rfl rfl ?_
                  go_simp
                  exact ⟨⟨by simp [hsz.out], hx.out⟩, upd z 59 (.string q), (by unfold Hid; simp [upd]), hz.next apx hsz.out 5 (by decide) _ (fun _ h => Option.some.inj h)⟩
                · have e4 : z 58 = .agg (tabV v A n c) := hz 4 _ (hw 4 (by kernel_rfl)) rfl
                  have e5 : z 59 = .string q := hz 5 _ (hw 5 (by kernel_rfl)) rfl
                  refine wpOp_plain rfl rfl ?_
                  go_simp
                  go_at_call 15
                  refine (HFq.out wy (Hlx.out.trans (hx.out.mono Hlx.out.size))).mono ?_
                  rintro e w' ⟨rfl, low⟩
                  exact ⟨⟨by simp [hsz.out], hx.out.trans (low.mono hx.out.size)⟩, upd z 60 (.agg (lab f2.1 f2.2)), (by unfold Hid; simp [upd, e4, e5]), hz.next apx hsz.out 6 (by decide) _ (fun _ h => Option.some.inj h)⟩
                · have e3 : z 57 = .agg (lab x.1 x.2) := hz 3 _ (hw 3 (by kernel_rfl)) rfl
                  have e6 : z 60 = .agg (lab f2.1 f2.2) := hz 6 _ (hw 6 (by kernel_rfl)) rfl
                  refine wpOp_plain rfl rfl ?_
                  go_simp
                  exact ⟨⟨by simp [hsz.out], hx.out⟩, upd z 61 (.bool xf2), (by unfold Hid; simp [upd, e3, e6]), hz.next apx hsz.out 7 (by decide) _ (fun _ h => Option.some.inj h)⟩
                · have e7 : z 61 = .bool xf2 := hz 7 _ (hw 7 (by kernel_rfl)) rfl
                  refine wpOp_plain rfl rfl ?_
                  go_simp
                  exact ⟨⟨by simp [hsz.out], hx.out⟩, upd z 10 (.bool xf2), (by unfold Hid; simp [upd, e7]), hz.next apx hsz.out 8 (by decide) _ (fun _ h => Option.some.inj h)⟩
              · exact ⟨⟨rfl, (Below.refl _ _).drew⟩, fun xx => (#[.agg (tabV v A n c), .string q, .string s, .pointer (some ⟨tb, 0, none⟩), undef, undef, u6, .slice (some ⟨b, off, none⟩) m c2, .bool xf, .int .i64 (j : Nat), u10, u11, .agg (tabV v A n c), .string s, .bool false, .bool false, .string q, .int .i64 (q.size : Nat), .bool (decide ((200 : Int) < (q.size : Nat))), .bool (decide ((200 : Int) < (q.size : Nat))), .bool (decide ((200 : Int) < (q.size : Nat))), .string q, .bool true, .bool true, .string q, .int .i64 0, .bool false, .bool false, .bool (decide ((200 : Int) < (q.size : Nat))), undef, .agg (tabV v A n c), .string q, .slice (some ⟨b, off, none⟩) m c2, .string q, .string s, .bool cv, .bool !cv, .int .i64 (j : Nat), .slice (some ⟨b, off, none⟩) m c2, .int .i64 (m : Nat), .bool true, u41, u42, y43, y44, y45, y46, y47, y48, y49, y50, y51, y52, y53, u54, u55, u56, u57, u58, u59, u60, u61, u62, u63, u64, u65, u66, u67, u68, u69, u70, u71, u72, u73, u74, u75, u76, u77, u78, u79, u80, u81, u82, u83, u84, u85, u86, u87, u88, u89, u90, u91, u92, u93, u94, undef, undef, undef, undef] : Array Value).getD xx undef, (by rfl), Holding.start⟩
            · rintro ll aa wx i ⟨hI, z, ha, hz, hb11⟩ hcl hi hu hw
              obtain rfl := ha.out
              have hsz := Lib.hid hI.out.1
              have hx := Lib.hid hI.out.2
              clear ha hI
              have hin : i < 12 := hi
              obtain rfl | rfl | rfl | rfl | rfl | rfl | rfl | rfl | rfl | rfl | rfl | rfl : i = 0 ∨ i = 1 ∨ i = 2 ∨ i = 3 ∨ i = 4 ∨ i = 5 ∨ i = 6 ∨ i = 7 ∨ i = 8 ∨ i = 9 ∨ i = 10 ∨ i = 11 := by omega
              · have b11 : z 8 = .bool false := hb11 (BefP.ok (fun hl => hcl 11 0 hl (by kernel_rfl)) hu)
                refine wpOp_plain rfl rfl ?_
                go_simp
                exact ⟨⟨by simp [hsz.out], hx.out⟩, upd z 43 (.bool false), (by unfold Hid; simp [upd, b11]), hz.next apx hsz.out 0 (by decide) _ (fun _ h => Option.some.inj h), BefP.keep hb11 (by decide)⟩
              · have e0 : z 43 = .bool false := hz 0 _ (hw 0 (by kernel_rfl)) rfl
                refine wpOp_plain rfl rfl ?_
                go_simp
                exact ⟨⟨by simp [hsz.out], hx.out⟩, upd z 44 (.bool false), (by unfold Hid; simp [upd, e0]), hz.next apx hsz.out 1 (by decide) _ (fun _ h => Option.some.inj h), BefP.keep hb11 (by decide)⟩
              · have e1 : z 44 = .bool false := hz 1 _ (hw 1 (by kernel_rfl)) rfl
                refine wpOp_want rfl (by simp [Region.wanted, yielded, e1]) ?_
                go_simp
                exact ⟨⟨by simp [hsz.out], hx.out⟩, upd z 45 (.slice (some ⟨b, off, none⟩) m c2), (by unfold Hid; simp [upd, e1]), hz.next apx hsz.out 2 (by decide) _ (fun _ h => Option.some.inj h), BefP.keep hb11 (by decide)⟩
              · have e1 : z 44 = .bool false := hz 1 _ (hw 1 (by kernel_rfl)) rfl
                refine wpOp_want rfl (by simp [Region.wanted, yielded, e1]) ?_
                go_simp
                exact ⟨⟨by simp [hsz.out], hx.out⟩, upd z 46 (.int .i64 (j : Nat)), (by unfold Hid; simp [upd, e1]), hz.next apx hsz.out 3 (by decide) _ (fun _ h => Option.some.inj h), BefP.keep hb11 (by decide)⟩
              · have e1 : z 44 = .bool false := hz 1 _ (hw 1 (by kernel_rfl)) rfl
                have e2 : z 45 = .slice (some ⟨b, off, none⟩) m c2 := hz 2 _ (hw 2 (by kernel_rfl)) rfl
                have e3 : z 46 = .int .i64 (j : Nat) := hz 3 _ (hw 3 (by kernel_rfl)) rfl
                refine wpOp_want rfl (by simp [Region.wanted, yielded, e1]) ?_
                go_simp
                exact ⟨⟨by simp [hsz.out], hx.out⟩, upd z 47 (.pointer (some ⟨b, off + j * 2, none⟩)), (by unfold Hid; simp [upd, e1, e2, e3]), hz.next apx hsz.out 4 (by decide) _ (fun _ h => Option.some.inj h), BefP.keep hb11 (by decide)⟩
              · have e1 : z 44 = .bool false := hz 1 _ (hw 1 (by kernel_rfl)) rfl
                have e4 : z 47 = .pointer (some ⟨b, off + j * 2, none⟩) := hz 4 _ (hw 4 (by kernel_rfl)) rfl
                have rg : wx.rangeAt b (off + j * 2) (lab x.1 x.2).toList := fun j v hv => (hx.out.cell (p := ⟨b, off + _ * 2 + j, none⟩) (World.block_lt_of_cell? _ _ (Hrx.out j v hv))).trans (Hrx.out j v hv)
                refine wpOp_want rfl (by simp [Region.wanted, yielded, e1]) (wp_load_mid 27 (.tmp 47) rfl b (off + j * 2) e4 (lab x.1 x.2).toList _ rg Tryd.underlying27 rfl infoL2 ?_)
                go_simp
                exact ⟨⟨by simp [hsz.out], hx.out⟩, upd z 48 (.agg (lab x.1 x.2)), (by unfold Hid; simp [upd, e1, e4]), hz.next apx hsz.out 5 (by decide) _ (fun _ h => Option.some.inj h), BefP.keep hb11 (by decide)⟩
              · have e1 : z 44 = .bool false := hz 1 _ (hw 1 (by kernel_rfl)) rfl
                have cl := (hx.out.block _ (Array.getElem?_eq_some_iff.1 Hrb.out).1).trans Hrb.out
                refine wpOp_want rfl (by simp [Region.wanted, yielded, e1]) (wp_load_row 24 (.tmp 3) rfl (tb) rfl 24 (tabV v A n c) (0, 0) _ cl Tryd.underlying24 rfl infoT ?_)
                go_simp
                exact ⟨⟨by simp [hsz.out], hx.out⟩, upd z 49 (.agg (tabV v A n c)), (by unfold Hid; simp [upd, e1]), hz.next apx hsz.out 6 (by decide) _ (fun _ h => Option.some.inj h), BefP.keep hb11 (by decide)⟩
              · have e1 : z 44 = .bool false := hz 1 _ (hw 1 (by kernel_rfl)) rfl
                refine wpOp_want rfl (by simp [Region.wanted, yielded, e1]) ?_
                go_simp
                exact ⟨⟨by simp [hsz.out], hx.out⟩, upd z 50 (.string s), (by unfold Hid; simp [upd, e1]), hz.next apx hsz.out 7 (by decide) _ (fun _ h => Option.some.inj h), BefP.keep hb11 (by decide)⟩
              · have e1 : z 44 = .bool false := hz 1 _ (hw 1 (by kernel_rfl)) rfl
                have e6 : z 49 = .agg (tabV v A n c) := hz 6 _ (hw 6 (by kernel_rfl)) rfl
                have e7 : z 50 = .string s := hz 7 _ (hw 7 (by kernel_rfl)) rfl
                refine wpOp_want rfl (by simp [Region.wanted, yielded, e1]) ?_
                go_simp
                go_at_call 15
                refine (HFs.out wx (Hlw.out.trans (hx.out.mono Hlw.out.size))).mono ?_
                rintro e w' ⟨rfl, low⟩
                exact ⟨⟨by simp [hsz.out], hx.out.trans (low.mono hx.out.size)⟩, upd z 51 (.agg (lab f.1 f.2)), (by unfold Hid; simp [upd, e1, e6, e7]), hz.next apx hsz.out 8 (by decide) _ (fun _ h => Option.some.inj h), BefP.keep hb11 (by decide)⟩
              · have e1 : z 44 = .bool false := hz 1 _ (hw 1 (by kernel_rfl)) rfl
                have e5 : z 48 = .agg (lab x.1 x.2) := hz 5 _ (hw 5 (by kernel_rfl)) rfl
                have e8 : z 51 = .agg (lab f.1 f.2) := hz 8 _ (hw 8 (by kernel_rfl)) rfl
                refine wpOp_want rfl (by simp [Region.wanted, yielded, e1]) ?_
                go_simp
                exact ⟨⟨by simp [hsz.out], hx.out⟩, upd z 52 (.bool xf), (by unfold Hid; simp [upd, e1, e5, e8]), hz.next apx hsz.out 9 (by decide) _ (fun _ h => Option.some.inj h), BefP.keep hb11 (by decide)⟩
              · have e1 : z 44 = .bool false := hz 1 _ (hw 1 (by kernel_rfl)) rfl
                have e9 : z 52 = .bool xf := hz 9 _ (hw 9 (by kernel_rfl)) rfl
                refine wpOp_plain rfl rfl ?_
                go_simp
                exact ⟨⟨by simp [hsz.out], hx.out⟩, upd z 53 (.bool xf), (by unfold Hid; simp [upd, e1, e9]), hz.next apx hsz.out 10 (by decide) _ (fun _ h => Option.some.inj h), BefP.keep hb11 (by decide)⟩
              · have e10 : z 53 = .bool xf := hz 10 _ (hw 10 (by kernel_rfl)) rfl
                refine wpOp_plain rfl rfl ?_
                go_simp
                exact ⟨⟨by simp [hsz.out], hx.out⟩, upd z 8 (.bool xf), (by unfold Hid; simp [upd, e10]), hz.next apx hsz.out 11 (by decide) _ (fun _ h => Option.some.inj h), BefP.past (by rw [hsz.out]; decide)⟩
            · exact ⟨⟨rfl, (Below.refl _ _).drew⟩, fun xx => (#[.agg (tabV v A n c), .string q, .string s, .pointer (some ⟨tb, 0, none⟩), undef, undef, u6, .slice (some ⟨b, off, none⟩) m c2, .bool false, .int .i64 (j : Nat), u10, u11, .agg (tabV v A n c), .string s, .bool false, .bool false, .string q, .int .i64 (q.size : Nat), .bool (decide ((200 : Int) < (q.size : Nat))), .bool (decide ((200 : Int) < (q.size : Nat))), .bool (decide ((200 : Int) < (q.size : Nat))), .string q, .bool true, .bool true, .string q, .int .i64 0, .bool false, .bool false, .bool (decide ((200 : Int) < (q.size : Nat))), undef, .agg (tabV v A n c), .string q, .slice (some ⟨b, off, none⟩) m c2, .string q, .string s, .bool cv, .bool !cv, .int .i64 (j : Nat), .slice (some ⟨b, off, none⟩) m c2, .int .i64 (m : Nat), .bool true, u41, u42, u43, u44, u45, u46, u47, u48, u49, u50, u51, u52, u53, u54, u55, u56, u57, u58, u59, u60, u61, u62, u63, u64, u65, u66, u67, u68, u69, u70, u71, u72, u73, u74, u75, u76, u77, u78, u79, u80, u81, u82, u83, u84, u85, u86, u87, u88, u89, u90, u91, u92, u93, u94, undef, undef, undef, undef] : Array Value).getD xx undef, (by rfl), Holding.start, BefP.start rfl⟩
        · have hge : ¬ (j : Int) < m := by omega
          have ej : j = m := by omega
          have HM : Hid (MineJ (!cv) f L j = true) := by show _ = _; rw [ej]; exact HMl.out
          have Low6 := Lib.hid (Low5.out.trans (hI.out.mono Low5.out.size))
          rw [HM.out]
          clear ej hj hlt hI
          go_wp2_with (go_at_call 7; refine (HAw.out _ Low6.out).mono ?_; rintro e w7 ⟨rfl, low7⟩; have Low7 := Lib.hid (Low6.out.trans (low7.mono Low6.out.size)); clear low7)
          go_ret
          exact ⟨rfl, Low7.out⟩
end Go.Proofs.YtikoaejfnggdbaaDoor.Rul
