/- DERIVED. The walk of SegmentShapes. Written by mkshapes.py. -/
import Derived.Test.YtkjhoanlkkcfkaaGreatDoorSgmFill
import Derived.Test.YtkjhoanlkkcfkaaGreatDoorSgmShape
import Derived.Test.YtkjhoanlkkcfkaaGreatDoorSgmMade
namespace Go.Proofs.YtkjhoanlkkcfkaaGreatDoor.Sgm
open Go.RowKit Dsk Slt Epo
attribute [local go_sem ↓ high] loadAtH loadAtB loadAtW
def StP (W0 : World) (Bs : Nat) (cv : Value) (mn : Nat) (_v : Value) (w' : World) : Prop := ∃ M, M.length = mn ∧ InB M ∧ w'.ownsRow Bs 5 1 cv mn (vals M) ∧ Below W0.heap.size W0 w'
set_option maxRecDepth 100000 in
set_option maxHeartbeats 16000000 in
theorem shapes_walk (A : Option Addr) (k c : Nat) (ts : List (List Int)) (B : Option Addr) (nb cb : Nat) (by_ : List Int) (s : ByteArray) (lv : Int) (cp sc : Nat) (hsc : sc < 256) (hss : s.size ≤ 9223372036854775807) (w : World) (hL : Seal.SLaid w) (hT : TxAt w A ts) (hkn : ts.length = k) (hk9 : k ≤ 9223372036854775807) (hlen : ∀ t ∈ ts, t.length ≤ 9223372036854775807) (hby : Byt w B cb by_) (hbn : by_.length = nb) (hbin : InB by_) (hb9 : nb ≤ 9223372036854775807) :
    Calls Tryz.prog 6 #[.slice A k c, .slice B nb cb, .agg #[.string s, .int .i64 lv, .int .u64 (cp : Nat), .int .u8 (sc : Nat)]] w fun e w' => e = .returned (.bool true) ∧ Below w.heap.size w w' := by
  obtain ⟨w1, hw1⟩ : ∃ w1, w1 = w.alloc (.cells #[.string s, .int .i64 lv, .int .u64 (cp : Nat), .int .u8 (sc : Nat)] 29) := ⟨_, rfl⟩
  have hb1 : Below w.heap.size w w1 := by rw [hw1]; exact (Below.refl _ _).alloc (Nat.le_refl _) _
  have hsz1 : w1.heap.size = w.heap.size + 1 := by rw [hw1, World.size_alloc]
  have hrow1 : w1.heap[w.heap.size]? = some (.cells #[.string s, .int .i64 lv, .int .u64 (cp : Nat), .int .u8 (sc : Nat)] 29 (0, 0)) := by rw [hw1]; exact Go.heap_alloc_new w _
  have HB1 := Lib.hid hb1
  have HT1 : Hid (TxAt w1 A ts) := hT.later hb1
  have HL1 := Lib.hid (hL.later hb1)
  have Hby : Hid (Byt w1 B cb by_ ∧ InB by_) := ⟨hby.below hb1 (Nat.le_refl _), hbin⟩
  have Hbn := Lib.hid hbn
  have Hkn := Lib.hid hkn
  have Hw1 := Lib.hid hw1
  have Hlen := Lib.hid hlen
  have Hsc : Hid (sc < 256) := hsc
  have HbL : Hid (w.heap.size < w1.heap.size) := by show _ < _; omega
  have Hfac : Hid (∀ W, Below w1.heap.size w1 W → W.cell? ⟨w.heap.size, 0, none⟩ = some (.string s) ∧ (loadW (.pointer (some ⟨w.heap.size, 0, none⟩))).run Tryz.prog W = .ok (.agg #[.string s, .int .i64 lv, .int .u64 (cp : Nat), .int .u8 (sc : Nat)]) W) := fun W hW => by
    have h := (hW.block _ (by omega)).trans hrow1
    exact ⟨by rw [cell_row h]; rfl, loadW_eq (range_of h fun j v hv => by
      match j, hv with
      | 0, hv => exact hv
      | 1, hv => exact hv
      | 2, hv => exact hv
      | 3, hv => exact hv
      | j + 4, hv => cases hv)⟩
  have Hwk : Hid (∀ W, Below w1.heap.size w1 W → Calls Tryz.prog 8 #[] W fun e w' => e = .returned (.bool true) ∧ Below W.heap.size W w') := fun W hW => works_any W ((hL.later hb1).later hW)
  clear hL hT hkn hlen hb1 hsz1 hrow1 hw1 hby hbn hbin
  obtain ⟨f1, _⟩ := Hfac.out w1 (Below.refl _ _)
  by_cases hs4 : 40 < s.size
  · have hI : (40 : Int) < (s.size : Int) := by omega
    go_enter Tryz.func6, Tryz.ntmps6
    go_upto_region 1 with (fail)
    rw [← Hw1.out]
    go_wp2_with (go_at_call 8; refine (Hwk.out w1 (Below.refl _ _)).mono ?_; rintro e w3 ⟨rfl, hb3⟩; have Hb3 := Lib.hid hb3; clear hb3)
    go_ret
    exact ⟨rfl, HB1.out.trans (Hb3.out.mono HB1.out.size)⟩
  · have hI : ¬ (40 : Int) < (s.size : Int) := by omega
    have Hs40 : Hid (s.size ≤ 40) := by show _ ≤ _; omega
    clear hs4
    obtain ⟨us, hus⟩ : ∃ us, us = cutT ts := ⟨_, rfl⟩
    have Hus := Lib.hid hus
    have hul : us.length = min 10 k := by rw [hus, cutT_len, Hkn.out]
    have Hul := Lib.hid hul
    clear hus hul
    go_enter Tryz.func6, Tryz.ntmps6
    go_upto_region 1 with (fail)
    rw [← Hw1.out]
    go_wp2_with fail
    clear f1
    go_loopw [7, 9] (fun mv v9 wr => ∃ (i : Nat), v9 = .int .i64 i ∧ i ≤ k ∧ i ≤ 10 ∧ ∃ qs ms, Hid (MB w1 mv qs ms wr ∧ ms.length = i ∧ ∀ j, j < i → PRT (us.getD j []) (ms.getD j []))) (fun _ v _ => k - (intOf v).toNat)
    case atStart => exact ⟨0, rfl, Nat.zero_le _, Nat.zero_le _, [], [], MB.start w1, rfl, fun j hj => absurd hj (Nat.not_lt_zero _)⟩
    case round =>
      obtain ⟨i, rfl, hik, hi10, qs, ms, hr⟩ := hrel
      by_cases hlt : i < k ∧ i < 10
      · obtain ⟨hlk, hl10⟩ := hlt
        have hI1 : (i : Int) < (k : Int) := by omega
        have hI2 : (i : Int) < 10 := by omega
        obtain ⟨b0, off, Bt, cc, rfl, hg, hcell, hB, hin⟩ := HT1.out.at_ i (by rw [Hkn.out]; exact hlk)
        have hc0 := (hr.out.1.low.cell (p := ⟨b0, off + i, none⟩) hg).trans hcell
        have hu : us.getD i [] = (ts.getD i []).take 2000 := by rw [Hus.out]; exact cutT_get (by rw [Hkn.out]; exact hlk) hl10
        obtain ⟨m, hm⟩ : ∃ m, m = (ts.getD i []).length := ⟨_, rfl⟩
        rw [← hm] at hc0
        have hm9 : m ≤ 9223372036854775807 := by
          rw [hm, List.getD_eq_getElem?_getD, List.getElem?_eq_getElem (by rw [Hkn.out]; exact hlk)]
          exact Hlen.out _ (List.getElem_mem _)
        obtain ⟨mn, hmn⟩ : ∃ mn, mn = min m 2000 := ⟨_, rfl⟩
        have hmin : (if (2000 : Int) < (m : Int) then 2000 else (m : Int)) = (mn : Int) := by split <;> omega
        have hmnc : (mn : Int) ≤ (cc : Int) := by have := hB.1; omega
        have hmn2 : mn ≤ 2000 := by omega
        obtain ⟨U, hU⟩ : ∃ U, U = us.getD i [] := ⟨_, rfl⟩
        have HU := Lib.hid hU
        have HUl : Hid (U.length = mn) := by rw [Hid, hU, hu, List.length_take, ← hm]; omega
        have HUB : Hid (Byt w1 Bt cc U ∧ InB U) := ⟨by rw [hU, hu]; exact byt_take hB 2000, by rw [hU, hu]; exact hin.take 2000⟩
        have Hc0 := Lib.hid hc0
        have Hr := Lib.hid hr.out
        have Hg := Lib.hid hg
        clear hcell hB hin hu hm hmn hU hc0 hr hg
        go_upto_region 8 with (fail)
        have apx : apartB [33, 34, 35, 36, 37, 38, 39, 40, 41, 42, 43, 10] = true := by decide
        refine wp_region_any (by kernel_rfl) ?_
        change wpAny _ _ _ _ _ _ _ (World.drew _)
        refine wpAny_inv (fun ll aa wx => Hid (ll.size = 12 ∧ Below wr.heap.size wr wx) ∧ ∃ (z : Nat → Value), Hid (aa = ⟨#[Value.slice (some { block := b0, off := off }) k c, Value.slice B nb cb, Value.agg #[Value.string s, Value.int IntKind.i64 lv, Value.int IntKind.u64 ((cp : Nat) : Int), Value.int IntKind.u8 ((sc : Nat) : Int)], undef, undef, Value.pointer (some { block := w.heap.size, off := 0 }), Value.bool false, u7, Value.slice none 0 0, Value.int IntKind.i64 ((i : Nat) : Int), z 10, u11, u12, undef, undef, undef, undef, undef, Value.pointer (some { block := w.heap.size, off := 0 }), Value.string s, Value.int IntKind.i64 ((s.size : Nat) : Int), Value.bool false, undef, Value.int IntKind.i64 ((i : Nat) : Int), Value.slice (some { block := b0, off := off }) k c, Value.int IntKind.i64 ((k : Nat) : Int), Value.bool true, Value.bool true, Value.int IntKind.i64 ((i : Nat) : Int), Value.bool true, Value.bool true, u31, u32, z 33, z 34, z 35, z 36, z 37, z 38, z 39, z 40, z 41, z 42, z 43, u44, u45, u46, u47, u48, u49, u50, u51, u52, u53, u54, u55, u56, u57, u58, u59, u60, u61, u62, u63, u64, u65, u66, u67, u68, u69, u70, u71, u72, u73, u74, u75, u76, u77, u78, u79, u80, u81, u82, u83, u84, u85, u86, u87, undef, undef, undef, undef, undef, undef, undef, undef, undef, undef, undef, undef, undef, undef, undef, undef, undef, undef, undef, undef, undef, undef, undef, undef, undef, undef, undef, undef, undef, undef, undef, undef, undef, undef, undef, undef, undef, undef, undef, undef, undef, undef, undef, undef, undef, undef, undef, undef, undef, undef, undef, undef, undef, undef, undef, undef, undef, undef, undef, undef, undef, undef, undef, undef, undef, undef, undef], []⟩) ∧ Holding [33, 34, 35, 36, 37, 38, 39, 40, 41, 42, 43, 10] [some (.slice (some ⟨b0, off, none⟩) k c), some (.int .i64 ((i : Nat) : Int)), some (.pointer (some ⟨b0, off + i, none⟩)), some (.slice Bt m cc), some (.slice (some ⟨b0, off, none⟩) k c), some (.int .i64 ((i : Nat) : Int)), some (.pointer (some ⟨b0, off + i, none⟩)), some (.slice Bt m cc), some (.int .i64 ((m : Nat) : Int)), some (.int .i64 ((mn : Nat) : Int)), some (.slice Bt mn cc), some (.slice Bt mn cc)] ll z) ?_ (by kernel_rfl) ?_ ?_ _ _ _ _ (unlisted_none _) ?_
        · rintro ll aa wx ⟨hI, _⟩
          exact hI.out.1
        · rintro ll aa wx ⟨hI, z, ha, hz⟩ hall
          have hx := Lib.hid hI.out.2
          have e0 : z 33 = .slice (some ⟨b0, off, none⟩) k c := hz 0 _ (hall 0 (by decide)) rfl
          have e1 : z 34 = .int .i64 ((i : Nat) : Int) := hz 1 _ (hall 1 (by decide)) rfl
          have e2 : z 35 = .pointer (some ⟨b0, off + i, none⟩) := hz 2 _ (hall 2 (by decide)) rfl
          have e3 : z 36 = .slice Bt m cc := hz 3 _ (hall 3 (by decide)) rfl
          have e4 : z 37 = .slice (some ⟨b0, off, none⟩) k c := hz 4 _ (hall 4 (by decide)) rfl
          have e5 : z 38 = .int .i64 ((i : Nat) : Int) := hz 5 _ (hall 5 (by decide)) rfl
          have e6 : z 39 = .pointer (some ⟨b0, off + i, none⟩) := hz 6 _ (hall 6 (by decide)) rfl
          have e7 : z 40 = .slice Bt m cc := hz 7 _ (hall 7 (by decide)) rfl
          have e8 : z 41 = .int .i64 ((m : Nat) : Int) := hz 8 _ (hall 8 (by decide)) rfl
          have e9 : z 42 = .int .i64 ((mn : Nat) : Int) := hz 9 _ (hall 9 (by decide)) rfl
          have e10 : z 43 = .slice Bt mn cc := hz 10 _ (hall 10 (by decide)) rfl
          have e11 : z 10 = .slice Bt mn cc := hz 11 _ (hall 11 (by decide)) rfl
          clear hall hz hI 
          obtain rfl := ha.out
          clear ha
          clear apx
          have E := Lib.hid e11
          have HX8 := Lib.hid hx.out
          clear e0 e1 e2 e3 e4 e5 e6 e7 e8 e9 e10 e11 hx
          rw [E.out]
          rename World => w8
          rename Nat → Value => zz
          obtain ⟨W0, hW0⟩ : ∃ W0, W0 = wr := ⟨_, rfl⟩
          rw [← hW0] at HX8 Hr
          clear Hc0 hW0
          have ho := own_emptyB w8
          have hlo : Below w8.heap.size w8 (w8.alloc (.cells #[] 5)) := (Below.refl _ _).alloc (Nat.le_refl _) _
          have hW0x : Below W0.heap.size W0 (w8.alloc (.cells #[] 5)) := HX8.out.trans (hlo.mono HX8.out.size)
          have HUB9 : Hid (Byt (w8.alloc (.cells #[] 5)) Bt cc U) := HUB.out.1.below (Hr.out.1.low.trans (hW0x.mono Hr.out.1.low.size)) (Nat.le_refl _)
          have Ho := Lib.hid ho
          have HW0x := Lib.hid hW0x
          have Hsx : Hid (w1.heap.size ≤ w8.heap.size) := Nat.le_trans Hr.out.1.low.size HX8.out.size
          clear ho hlo hW0x
          go_wp2_with (at_builtin; refine wpList_append_any rfl (.tmp 44) (.tmp 45) rfl w8.heap.size _ 0 [] rfl Ho.out Bt mn cc U rfl HUl.out HUB9.out (by omega) (by rw [World.size_alloc]; omega) ?_; intro v' w3 ho3 g3; rw [Nat.zero_add, List.nil_append] at ho3; obtain ⟨A3, c3, rfl, _, hA3⟩ := own_bytB ho3; have HA3 : Hid (0 < mn → ∃ g, A3 = some ⟨g, 0, none⟩ ∧ W0.heap.size ≤ g) := fun h0 => (by obtain ⟨g, e, h1, _⟩ := hA3 h0; exact ⟨g, e, Nat.le_trans HX8.out.size h1⟩); have Ho3 := Lib.hid (own_lower ho3 HX8.out.size); have Hw3 := Lib.hid (g3 _ _ HW0x.out HX8.out.size); clear ho3 g3 hA3)
          go_loopw [12] (fun v12 wr => ∃ j : Nat, v12 = .int .i64 j ∧ j ≤ mn ∧ Hid (∃ M, M.length = mn ∧ InB M ∧ wr.ownsRow W0.heap.size 5 1 (.slice A3 mn c3) mn (vals M) ∧ Below W0.heap.size W0 wr)) (fun v _ => mn - (intOf v).toNat)
          case atStart => exact ⟨0, rfl, Nat.zero_le _, U, HUl.out, HUB.out.2, Ho3.out, Hw3.out⟩
          case round =>
            obtain ⟨j, rfl, hj, HM⟩ := hrel
            clear Ho3 Hw3 Ho HW0x HUB9 HX8
            by_cases hlt2 : j < mn ∧ 0 < nb
            · obtain ⟨hl2, hn0⟩ := hlt2
              have hJ1 : (j : Int) < (mn : Int) := by omega
              have hN1 : (0 : Int) < (nb : Int) := by omega
              have hN0 : ¬ (nb : Int) = 0 := by omega
              have hN0n : ¬ nb = 0 := by omega
              obtain ⟨g3, rfl, hg3⟩ := HA3.out (by omega)
              obtain ⟨M, m1, m2, m3, m4⟩ := HM.out
              obtain ⟨x, hx⟩ : ∃ x, x = M.getD j 0 := ⟨_, rfl⟩
              obtain ⟨cx, fx⟩ := own_cellB m3 j hl2
              rw [← hx] at cx
              obtain ⟨gB, oB, rfl, hgB, hyc⟩ := Hby.out.1.2.2 (by rw [Hbn.out]; exact hn0)
              obtain ⟨r, hrr⟩ : ∃ r, r = j % nb := ⟨_, rfl⟩
              have hrn : r < nb := by rw [hrr]; exact Nat.mod_lt _ hn0
              obtain ⟨y, hy⟩ : ∃ y, y = by_.getD r 0 := ⟨_, rfl⟩
              have hlow1 : Below w1.heap.size w1 wr := Hr.out.1.low.trans (m4.mono Hr.out.1.low.size)
              have Hy : Hid (wr.cell? ⟨gB, oB + r, none⟩ = some (.int .u8 y)) := by rw [Hid, hy]; exact (hlow1.cell (p := ⟨gB, oB + r, none⟩) hgB).trans (hyc r (by rw [Hbn.out]; exact hrn))
              have Hx := Lib.hid cx
              have hxb : 0 ≤ x ∧ x < 256 := by rw [hx]; exact m2 j
              have hyb : 0 ≤ y ∧ y < 256 := by rw [hy]; exact Hby.out.2 r
              obtain ⟨z0, hz0⟩ : ∃ z0, z0 = (x + y) % 256 := ⟨_, rfl⟩
              have hz : IntKind.u8.wrap (x + y) = z0 := by rw [hz0]; show _ = _; simp [IntKind.wrap, IntKind.bits, IntKind.signed]
              have hzb : 0 ≤ z0 ∧ z0 < 256 := by omega
              have hem : (j : Int) % (nb : Int) = (r : Int) := by rw [hrr]; omega
              have htm : Int.tmod (j : Int) (nb : Int) = (r : Int) := by rw [Int.tmod_eq_emod_of_nonneg (by omega)]; exact hem
              have hrI : (r : Int) < (nb : Int) := by omega
              have hr0 : 0 ≤ (r : Int) := by omega
              have Hst : Hid (∀ wx, Below wr.heap.size wr wx → wx.cell? ⟨g3, j, none⟩ = some (.int .u8 x) ∧ wx.frozen? ⟨g3, j, none⟩ = false ∧ StP W0 W0.heap.size (.slice (some ⟨g3, 0, none⟩) mn c3) mn undef (wx.setCell ⟨g3, j, none⟩ (.int .u8 z0))) := fun wx hwx => by
                have m3x := own_stays m3 hwx
                obtain ⟨cx', fx'⟩ := own_cellB m3x j hl2
                rw [← hx] at cx'
                exact ⟨cx', fx', M.set j z0, by rw [List.length_set]; exact m1, inB_set m2 hzb, own_setB m3x j z0, (m4.trans (hwx.mono m4.size)).setCell (p := ⟨g3, j, none⟩) hg3 _⟩
              clear HM m1 m2 m3 m4 hx cx fx hyc hrr hy hlow1 hxb hyb hz0 hgB
              go_upto_region 13 with (fail)
              have apx : apartB [58, 59, 60, 61, 62, 63, 64, 65, 66, 67, 68, 69, 70, 71, 72, 1015] = true := by decide
              refine wp_region_any (by kernel_rfl) ?_
              change wpAny _ _ _ _ _ _ _ (World.drew _)
              refine wpAny_inv2 (fun ll aa wx => Hid (ll.size = 16 ∧ RC 15 wr ll wx) ∧ ∃ (z : Nat → Value), Hid (aa = ⟨#[Value.slice (some { block := b0, off := off }) k c, Value.slice (some { block := gB, off := oB }) nb cb, Value.agg #[Value.string s, Value.int IntKind.i64 lv, Value.int IntKind.u64 ((cp : Nat) : Int), Value.int IntKind.u8 ((sc : Nat) : Int)], undef, undef, Value.pointer (some { block := w.heap.size, off := 0 }), Value.bool false, u7, Value.slice none 0 0, Value.int IntKind.i64 ((i : Nat) : Int), Value.slice Bt mn cc, Value.slice (some { block := g3, off := 0 }) mn c3, Value.int IntKind.i64 ((j : Nat) : Int), undef, undef, undef, undef, undef, Value.pointer (some { block := w.heap.size, off := 0 }), Value.string s, Value.int IntKind.i64 ((s.size : Nat) : Int), Value.bool false, undef, Value.int IntKind.i64 ((i : Nat) : Int), Value.slice (some { block := b0, off := off }) k c, Value.int IntKind.i64 ((k : Nat) : Int), Value.bool true, Value.bool true, Value.int IntKind.i64 ((i : Nat) : Int), Value.bool true, Value.bool true, u31, u32, zz 33, zz 34, zz 35, zz 36, zz 37, zz 38, zz 39, zz 40, zz 41, zz 42, zz 43, Value.slice (some { block := w8.heap.size, off := 0 }) 0 0, Value.slice Bt mn cc, Value.slice (some { block := g3, off := 0 }) mn c3, Value.int IntKind.i64 ((j : Nat) : Int), Value.slice (some { block := g3, off := 0 }) mn c3, Value.int IntKind.i64 ((mn : Nat) : Int), Value.bool true, Value.bool true, Value.slice (some { block := gB, off := oB }) nb cb, Value.int IntKind.i64 ((nb : Nat) : Int), Value.bool true, Value.bool true, u56, u57, z 58, z 59, z 60, z 61, z 62, z 63, z 64, z 65, z 66, z 67, z 68, z 69, z 70, z 71, z 72, u73, u74, u75, u76, u77, u78, u79, u80, u81, u82, u83, u84, u85, u86, u87, undef, undef, undef, undef, undef, undef, undef, undef, undef, undef, undef, undef, undef, undef, undef, undef, undef, undef, undef, undef, undef, undef, undef, undef, undef, undef, undef, undef, undef, undef, undef, undef, undef, undef, undef, undef, undef, undef, undef, undef, undef, undef, undef, undef, undef, undef, undef, undef, undef, undef, undef, undef, undef, undef, undef, undef, undef, undef, undef, undef, undef, undef, undef, undef, undef, undef, undef], []⟩) ∧ Holding [58, 59, 60, 61, 62, 63, 64, 65, 66, 67, 68, 69, 70, 71, 72, 1015] [some (.slice (some ⟨g3, 0, none⟩) mn c3), some (.int .i64 ((j : Nat) : Int)), some (.slice (some ⟨g3, 0, none⟩) mn c3), some (.int .i64 ((j : Nat) : Int)), some (.pointer (some ⟨g3, j, none⟩)), some (.int .u8 x), some (.slice (some ⟨gB, oB, none⟩) nb cb), some (.int .i64 ((j : Nat) : Int)), some (.slice (some ⟨gB, oB, none⟩) nb cb), some (.int .i64 ((nb : Nat) : Int)), some (.int .i64 ((r : Nat) : Int)), some (.pointer (some ⟨gB, oB + r, none⟩)), some (.int .u8 y), some (.int .u8 z0), some (.pointer (some ⟨g3, j, none⟩)), none] ll z ∧ Whn ll 15 (StP W0 W0.heap.size (.slice (some ⟨g3, 0, none⟩) mn c3) mn) (z 1015) wx) ?_ (by kernel_rfl) ?_ ?_ _ rfl _ _ ?_
              · rintro ll aa wx ⟨hI, _⟩
                exact hI.out.1
              · rintro ll aa wx ⟨hI, z, ha, hz, hp15⟩ hall
                have hx := Lib.hid hI.out.2
                have e0 : z 58 = .slice (some ⟨g3, 0, none⟩) mn c3 := hz 0 _ (hall 0 (by decide)) rfl
                have e1 : z 59 = .int .i64 ((j : Nat) : Int) := hz 1 _ (hall 1 (by decide)) rfl
                have e2 : z 60 = .slice (some ⟨g3, 0, none⟩) mn c3 := hz 2 _ (hall 2 (by decide)) rfl
                have e3 : z 61 = .int .i64 ((j : Nat) : Int) := hz 3 _ (hall 3 (by decide)) rfl
                have e4 : z 62 = .pointer (some ⟨g3, j, none⟩) := hz 4 _ (hall 4 (by decide)) rfl
                have e5 : z 63 = .int .u8 x := hz 5 _ (hall 5 (by decide)) rfl
                have e6 : z 64 = .slice (some ⟨gB, oB, none⟩) nb cb := hz 6 _ (hall 6 (by decide)) rfl
                have e7 : z 65 = .int .i64 ((j : Nat) : Int) := hz 7 _ (hall 7 (by decide)) rfl
                have e8 : z 66 = .slice (some ⟨gB, oB, none⟩) nb cb := hz 8 _ (hall 8 (by decide)) rfl
                have e9 : z 67 = .int .i64 ((nb : Nat) : Int) := hz 9 _ (hall 9 (by decide)) rfl
                have e10 : z 68 = .int .i64 ((r : Nat) : Int) := hz 10 _ (hall 10 (by decide)) rfl
                have e11 : z 69 = .pointer (some ⟨gB, oB + r, none⟩) := hz 11 _ (hall 11 (by decide)) rfl
                have e12 : z 70 = .int .u8 y := hz 12 _ (hall 12 (by decide)) rfl
                have e13 : z 71 = .int .u8 z0 := hz 13 _ (hall 13 (by decide)) rfl
                have e14 : z 72 = .pointer (some ⟨g3, j, none⟩) := hz 14 _ (hall 14 (by decide)) rfl
                have p15 := hp15.get (hall 15 (by decide))
                clear hall hz hI hp15
                obtain rfl := ha.out
                clear ha
                clear apx
                have P15 := Lib.hid p15
                clear e0 e1 e2 e3 e4 e5 e6 e7 e8 e9 e10 e11 e12 e13 e14 hx
                go_wp2
                go_roundw
                case rel => exact ⟨j + 1, by go_num, by omega, P15.out⟩
                case measure => simp [intOf]; omega
              · rintro ll aa wx i ⟨hI, z, ha, hz, hp15⟩ hcl hi hu hw
                obtain rfl := ha.out
                have hsz := Lib.hid hI.out.1
                have hx := Lib.hid hI.out.2
                clear ha hI
                have hin : i < 16 := hi
                obtain rfl | rfl | rfl | rfl | rfl | rfl | rfl | rfl | rfl | rfl | rfl | rfl | rfl | rfl | rfl | rfl : i = 0 ∨ i = 1 ∨ i = 2 ∨ i = 3 ∨ i = 4 ∨ i = 5 ∨ i = 6 ∨ i = 7 ∨ i = 8 ∨ i = 9 ∨ i = 10 ∨ i = 11 ∨ i = 12 ∨ i = 13 ∨ i = 14 ∨ i = 15 := by omega
                · refine wpOp_plain rfl rfl ?_
                  go_simp
                  exact ⟨⟨by simp [hsz.out], hx.out.same (by decide)⟩, upd z 58 (.slice (some ⟨g3, 0, none⟩) mn c3), (by unfold Hid; simp [upd]), hz.next apx hsz.out 0 (by decide) _ (fun _ h => Option.some.inj h), hp15.keep (by decide)⟩
                · refine wpOp_plain rfl rfl ?_
                  go_simp
                  exact ⟨⟨by simp [hsz.out], hx.out.same (by decide)⟩, upd z 59 (.int .i64 ((j : Nat) : Int)), (by unfold Hid; simp [upd]), hz.next apx hsz.out 1 (by decide) _ (fun _ h => Option.some.inj h), hp15.keep (by decide)⟩
                · refine wpOp_plain rfl rfl ?_
                  go_simp
                  exact ⟨⟨by simp [hsz.out], hx.out.same (by decide)⟩, upd z 60 (.slice (some ⟨g3, 0, none⟩) mn c3), (by unfold Hid; simp [upd]), hz.next apx hsz.out 2 (by decide) _ (fun _ h => Option.some.inj h), hp15.keep (by decide)⟩
                · refine wpOp_plain rfl rfl ?_
                  go_simp
                  exact ⟨⟨by simp [hsz.out], hx.out.same (by decide)⟩, upd z 61 (.int .i64 ((j : Nat) : Int)), (by unfold Hid; simp [upd]), hz.next apx hsz.out 3 (by decide) _ (fun _ h => Option.some.inj h), hp15.keep (by decide)⟩
                · have e2 : z 60 = .slice (some ⟨g3, 0, none⟩) mn c3 := hz 2 _ (hw 2 (by kernel_rfl)) rfl
                  have e3 : z 61 = .int .i64 ((j : Nat) : Int) := hz 3 _ (hw 3 (by kernel_rfl)) rfl
                  refine wpOp_plain rfl rfl ?_
                  go_simp
                  exact ⟨⟨by simp [hsz.out], hx.out.same (by decide)⟩, upd z 62 (.pointer (some ⟨g3, j, none⟩)), (by unfold Hid; simp [upd, e2, e3]), hz.next apx hsz.out 4 (by decide) _ (fun _ h => Option.some.inj h), hp15.keep (by decide)⟩
                · have e4 : z 62 = .pointer (some ⟨g3, j, none⟩) := hz 4 _ (hw 4 (by kernel_rfl)) rfl
                  have lw := hx.out.low (not_listed (fun hl => hcl 13 5 (hcl 15 13 hl (by kernel_rfl)) (by kernel_rfl)) hu)
                  have cl : wx.cell? ⟨g3, j, none⟩ = some (.int .u8 x) := (lw.cell (p := ⟨g3, j, none⟩) (World.block_lt_of_cell? _ _ Hx.out)).trans Hx.out
                  refine wpOp_plain rfl rfl ?_
                  go_simp
                  exact ⟨⟨by simp [hsz.out], hx.out.same (by decide)⟩, upd z 63 (.int .u8 x), (by unfold Hid; simp [upd, e4]), hz.next apx hsz.out 5 (by decide) _ (fun _ h => Option.some.inj h), hp15.keep (by decide)⟩
                · refine wpOp_plain rfl rfl ?_
                  go_simp
                  exact ⟨⟨by simp [hsz.out], hx.out.same (by decide)⟩, upd z 64 (.slice (some ⟨gB, oB, none⟩) nb cb), (by unfold Hid; simp [upd]), hz.next apx hsz.out 6 (by decide) _ (fun _ h => Option.some.inj h), hp15.keep (by decide)⟩
                · refine wpOp_plain rfl rfl ?_
                  go_simp
                  exact ⟨⟨by simp [hsz.out], hx.out.same (by decide)⟩, upd z 65 (.int .i64 ((j : Nat) : Int)), (by unfold Hid; simp [upd]), hz.next apx hsz.out 7 (by decide) _ (fun _ h => Option.some.inj h), hp15.keep (by decide)⟩
                · refine wpOp_plain rfl rfl ?_
                  go_simp
                  exact ⟨⟨by simp [hsz.out], hx.out.same (by decide)⟩, upd z 66 (.slice (some ⟨gB, oB, none⟩) nb cb), (by unfold Hid; simp [upd]), hz.next apx hsz.out 8 (by decide) _ (fun _ h => Option.some.inj h), hp15.keep (by decide)⟩
                · have e8 : z 66 = .slice (some ⟨gB, oB, none⟩) nb cb := hz 8 _ (hw 8 (by kernel_rfl)) rfl
                  refine wpOp_plain rfl rfl ?_
                  go_simp
                  exact ⟨⟨by simp [hsz.out], hx.out.same (by decide)⟩, upd z 67 (.int .i64 ((nb : Nat) : Int)), (by unfold Hid; simp [upd, e8]), hz.next apx hsz.out 9 (by decide) _ (fun _ h => Option.some.inj h), hp15.keep (by decide)⟩
                · have e7 : z 65 = .int .i64 ((j : Nat) : Int) := hz 7 _ (hw 7 (by kernel_rfl)) rfl
                  have e9 : z 67 = .int .i64 ((nb : Nat) : Int) := hz 9 _ (hw 9 (by kernel_rfl)) rfl
                  refine wpOp_plain rfl rfl ?_
                  go_simp
                  exact ⟨⟨by simp [hsz.out], hx.out.same (by decide)⟩, upd z 68 (.int .i64 ((r : Nat) : Int)), (by unfold Hid; simp [upd, e7, e9]), hz.next apx hsz.out 10 (by decide) _ (fun _ h => Option.some.inj h), hp15.keep (by decide)⟩
                · have e6 : z 64 = .slice (some ⟨gB, oB, none⟩) nb cb := hz 6 _ (hw 6 (by kernel_rfl)) rfl
                  have e10 : z 68 = .int .i64 ((r : Nat) : Int) := hz 10 _ (hw 10 (by kernel_rfl)) rfl
                  refine wpOp_plain rfl rfl ?_
                  go_simp
                  exact ⟨⟨by simp [hsz.out], hx.out.same (by decide)⟩, upd z 69 (.pointer (some ⟨gB, oB + r, none⟩)), (by unfold Hid; simp [upd, e6, e10]), hz.next apx hsz.out 11 (by decide) _ (fun _ h => Option.some.inj h), hp15.keep (by decide)⟩
                · have e11 : z 69 = .pointer (some ⟨gB, oB + r, none⟩) := hz 11 _ (hw 11 (by kernel_rfl)) rfl
                  have lw := hx.out.low (not_listed (fun hl => hcl 13 12 (hcl 15 13 hl (by kernel_rfl)) (by kernel_rfl)) hu)
                  have cl : wx.cell? ⟨gB, oB + r, none⟩ = some (.int .u8 y) := (lw.cell (p := ⟨gB, oB + r, none⟩) (World.block_lt_of_cell? _ _ Hy.out)).trans Hy.out
                  refine wpOp_plain rfl rfl ?_
                  go_simp
                  exact ⟨⟨by simp [hsz.out], hx.out.same (by decide)⟩, upd z 70 (.int .u8 y), (by unfold Hid; simp [upd, e11]), hz.next apx hsz.out 12 (by decide) _ (fun _ h => Option.some.inj h), hp15.keep (by decide)⟩
                · have e5 : z 63 = .int .u8 x := hz 5 _ (hw 5 (by kernel_rfl)) rfl
                  have e12 : z 70 = .int .u8 y := hz 12 _ (hw 12 (by kernel_rfl)) rfl
                  refine wpOp_plain rfl rfl ?_
                  go_simp
                  exact ⟨⟨by simp [hsz.out], hx.out.same (by decide)⟩, upd z 71 (.int .u8 z0), (by unfold Hid; simp [upd, e5, e12]), hz.next apx hsz.out 13 (by decide) _ (fun _ h => Option.some.inj h), hp15.keep (by decide)⟩
                · have e0 : z 58 = .slice (some ⟨g3, 0, none⟩) mn c3 := hz 0 _ (hw 0 (by kernel_rfl)) rfl
                  have e1 : z 59 = .int .i64 ((j : Nat) : Int) := hz 1 _ (hw 1 (by kernel_rfl)) rfl
                  refine wpOp_plain rfl rfl ?_
                  go_simp
                  exact ⟨⟨by simp [hsz.out], hx.out.same (by decide)⟩, upd z 72 (.pointer (some ⟨g3, j, none⟩)), (by unfold Hid; simp [upd, e0, e1]), hz.next apx hsz.out 14 (by decide) _ (fun _ h => Option.some.inj h), hp15.keep (by decide)⟩
                · have e13 : z 71 = .int .u8 z0 := hz 13 _ (hw 13 (by kernel_rfl)) rfl
                  have e14 : z 72 = .pointer (some ⟨g3, j, none⟩) := hz 14 _ (hw 14 (by kernel_rfl)) rfl
                  have lw := hx.out.low hu
                  have hst := Hst.out wx lw
                  obtain ⟨hcl2, hfz, hpost⟩ := hst
                  refine wpOp_plain rfl rfl ?_
                  go_simp
                  exact ⟨⟨by simp [hsz.out], RC.done (by rw [hsz.out]; decide)⟩, upd z 1015 (undef), (by unfold Hid; simp [upd, e13, e14]), hz.next apx hsz.out 15 (by decide) _ (fun _ h => by cases h), Whn.done (hpost)⟩
              · exact ⟨⟨rfl, RC.start⟩, fun xx => (#[Value.slice (some { block := b0, off := off }) k c, Value.slice (some { block := gB, off := oB }) nb cb, Value.agg #[Value.string s, Value.int IntKind.i64 lv, Value.int IntKind.u64 ((cp : Nat) : Int), Value.int IntKind.u8 ((sc : Nat) : Int)], undef, undef, Value.pointer (some { block := w.heap.size, off := 0 }), Value.bool false, u7, Value.slice none 0 0, Value.int IntKind.i64 ((i : Nat) : Int), Value.slice Bt mn cc, Value.slice (some { block := g3, off := 0 }) mn c3, Value.int IntKind.i64 ((j : Nat) : Int), undef, undef, undef, undef, undef, Value.pointer (some { block := w.heap.size, off := 0 }), Value.string s, Value.int IntKind.i64 ((s.size : Nat) : Int), Value.bool false, undef, Value.int IntKind.i64 ((i : Nat) : Int), Value.slice (some { block := b0, off := off }) k c, Value.int IntKind.i64 ((k : Nat) : Int), Value.bool true, Value.bool true, Value.int IntKind.i64 ((i : Nat) : Int), Value.bool true, Value.bool true, u31, u32, zz 33, zz 34, zz 35, zz 36, zz 37, zz 38, zz 39, zz 40, zz 41, zz 42, zz 43, Value.slice (some { block := w8.heap.size, off := 0 }) 0 0, Value.slice Bt mn cc, Value.slice (some { block := g3, off := 0 }) mn c3, Value.int IntKind.i64 ((j : Nat) : Int), Value.slice (some { block := g3, off := 0 }) mn c3, Value.int IntKind.i64 ((mn : Nat) : Int), Value.bool true, Value.bool true, Value.slice (some { block := gB, off := oB }) nb cb, Value.int IntKind.i64 ((nb : Nat) : Int), Value.bool true, Value.bool true, u56, u57, u58, u59, u60, u61, u62, u63, u64, u65, u66, u67, u68, u69, u70, u71, u72, u73, u74, u75, u76, u77, u78, u79, u80, u81, u82, u83, u84, u85, u86, u87, undef, undef, undef, undef, undef, undef, undef, undef, undef, undef, undef, undef, undef, undef, undef, undef, undef, undef, undef, undef, undef, undef, undef, undef, undef, undef, undef, undef, undef, undef, undef, undef, undef, undef, undef, undef, undef, undef, undef, undef, undef, undef, undef, undef, undef, undef, undef, undef, undef, undef, undef, undef, undef, undef, undef, undef, undef, undef, undef, undef, undef, undef, undef, undef, undef, undef, undef] : Array Value).getD xx undef, rfl, Holding.start, Whn.none (by decide)⟩
            · obtain ⟨M, m1, m2, m3, m4⟩ := HM.out
              have HM1 := Lib.hid (And.intro m1 m2)
              have HM3 := Lib.hid m3
              have HM4 := Lib.hid m4
              have HMB := Lib.hid (Hr.out.1.later m4)
              have HrM := Lib.hid Hr.out.1
              have Hml := Lib.hid Hr.out.2.1
              have Hpr := Lib.hid Hr.out.2.2
              have Hb1 : Hid (∀ W, Calls Tryz.prog 24 #[.int .i64 ((mn : Nat) : Int)] W fun e w' => e = .returned (.int .i64 (Seal.bkt mn : Nat)) ∧ W = w') := fun W => lbucket_any mn (by omega) W
              have Hb2 : Hid (∀ W, Calls Tryz.prog 24 #[.int .i64 (((mn : Nat) : Int) + 1)] W fun e w' => e = .returned (.int .i64 (Seal.bkt (mn + 1) : Nat)) ∧ W = w') := fun W => by
                have := lbucket_any (mn + 1) (by omega) W
                rwa [show (((mn + 1 : Nat)) : Int) = ((mn : Nat) : Int) + 1 by push_cast; rfl] at this
              have hor : ¬ (j : Int) < (mn : Int) ∨ ((j : Int) < (mn : Int) ∧ ¬ (0 : Int) < (nb : Int)) := by omega
              have hbk := Lib.hid (fun e : Seal.bkt mn = Seal.bkt (mn + 1) => e)
              obtain ⟨p, hp⟩ : ∃ p, p = Seal.bkt mn := ⟨_, rfl⟩
              obtain ⟨q, hq⟩ : ∃ q, q = Seal.bkt (mn + 1) := ⟨_, rfl⟩
              rw [← hp] at Hb1
              rw [← hq] at Hb2
              have Hp := Lib.hid hp
              have Hq := Lib.hid hq
              clear HM m1 m2 m3 m4 hp hq hbk Hr HA3
              by_cases hpq : p = q
              · have hpqI : (p : Int) = (q : Int) := by omega
                have Hpr2 : Hid (PRT U (M ++ [1])) := ⟨HUB.out.2, by have := HUl.out; omega, HM1.out.2.append (inB_of (by decide)), by rw [List.length_append, HM1.out.1]; show mn + 1 ≤ 2001; omega, by
                  rw [HUl.out, List.length_take, List.length_append, HM1.out.1]
                  show _ = Seal.bkt (min 2000 (mn + 1))
                  by_cases h2 : mn = 2000
                  · rw [show min 2000 (mn + 1) = mn by omega]
                  · rw [show min 2000 (mn + 1) = mn + 1 by omega, ← Hp.out, ← Hq.out, hpq]⟩
                clear hpq
                rcases hor with hJ | ⟨hJ, hN⟩
                all_goals
                  go_wp2_with (first
                    | (go_at_call 24; refine (Hb1.out _).mono ?_; clear Hb1; rintro e w' ⟨rfl, rfl⟩)
                    | (go_at_call 24; refine (Hb2.out _).mono ?_; clear Hb2; rintro e w' ⟨rfl, rfl⟩)
                    | (at_builtin; refine wpList_append_any rfl (.tmp 81) (.tmp 82) rfl W0.heap.size _ mn M rfl (own_stays HM3.out ((Below.refl _ _).alloc (Nat.le_refl _) _)) _ 1 1 [1] rfl rfl (Str.byt_rowT (l := [1]) (Go.heap_alloc_new _ _) rfl) (by omega) (by rw [World.size_alloc]; have := HM4.out.size; omega) ?_; intro v' w5 ho5 g5; obtain ⟨A5, c5, rfl, _, _⟩ := own_bytB ho5; have Ho5 := Lib.hid ho5; have HMB5 := Lib.hid (HrM.out.later (g5 _ _ (HM4.out.alloc HM4.out.size _) (Nat.le_refl _))); clear ho5 g5 HM3)
                    | (at_builtin; refine wpList_app_mb rfl (.tmp 84) (.tmp 86) rfl HMB5.out A5 (mn + 1) c5 (M ++ [1]) (by rw [List.length_append, HM1.out.1]; rfl) (own_lower Ho5.out HrM.out.low.size) (HM1.out.2.append (inB_of (by decide))) rfl rfl (by have := Hml.out; omega) ?_; intro v6 w6 hw6; have HW6 := Lib.hid hw6; clear hw6))
                  go_roundw
                  case rel => exact ⟨i + 1, by go_num, by omega, by omega, _, _, HW6.out, by rw [List.length_append, Hml.out]; rfl, prt_snoc Hpr.out Hml.out (by rw [← HU.out]; exact Hpr2.out)⟩
                  case measure => simp [intOf]; omega
              · have hpqI : ¬ (p : Int) = (q : Int) := by omega
                have Hpr2 : Hid (PRT U M) := ⟨HUB.out.2, by have := HUl.out; omega, HM1.out.2, by rw [HM1.out.1]; omega, by
                  rw [HUl.out, List.length_take, HM1.out.1, show min 2000 mn = mn by omega]⟩
                clear hpq
                rcases hor with hJ | ⟨hJ, hN⟩
                all_goals
                  go_wp2_with (first
                    | (go_at_call 24; refine (Hb1.out _).mono ?_; clear Hb1; rintro e w' ⟨rfl, rfl⟩)
                    | (go_at_call 24; refine (Hb2.out _).mono ?_; clear Hb2; rintro e w' ⟨rfl, rfl⟩)
                    | (at_builtin; refine wpList_app_mb rfl (.tmp 84) (.tmp 86) rfl HMB.out A3 mn c3 M HM1.out.1 (own_lower HM3.out HrM.out.low.size) HM1.out.2 rfl rfl (by have := Hml.out; omega) ?_; intro v6 w6 hw6; have HW6 := Lib.hid hw6; clear hw6))
                  go_roundw
                  case rel => exact ⟨i + 1, by go_num, by omega, by omega, _, _, HW6.out, by rw [List.length_append, Hml.out]; rfl, prt_snoc Hpr.out Hml.out (by rw [← HU.out]; exact Hpr2.out)⟩
                  case measure => simp [intOf]; omega
          
        · rintro ll aa wx i ⟨hI, z, ha, hz⟩ hi hu hw
          obtain rfl := ha.out
          have hsz := Lib.hid hI.out.1
          have hx := Lib.hid hI.out.2
          clear ha hI
          have hin : i < 12 := hi
          obtain rfl | rfl | rfl | rfl | rfl | rfl | rfl | rfl | rfl | rfl | rfl | rfl : i = 0 ∨ i = 1 ∨ i = 2 ∨ i = 3 ∨ i = 4 ∨ i = 5 ∨ i = 6 ∨ i = 7 ∨ i = 8 ∨ i = 9 ∨ i = 10 ∨ i = 11 := by omega
          · refine wpOp_plain rfl rfl ?_
            go_simp
            exact ⟨⟨by simp [hsz.out], hx.out⟩, upd z 33 (.slice (some ⟨b0, off, none⟩) k c), (by unfold Hid; simp [upd]), hz.next apx hsz.out 0 (by decide) _ (fun _ h => Option.some.inj h)⟩
          · refine wpOp_plain rfl rfl ?_
            go_simp
            exact ⟨⟨by simp [hsz.out], hx.out⟩, upd z 34 (.int .i64 ((i : Nat) : Int)), (by unfold Hid; simp [upd]), hz.next apx hsz.out 1 (by decide) _ (fun _ h => Option.some.inj h)⟩
          · have e0 : z 33 = .slice (some ⟨b0, off, none⟩) k c := hz 0 _ (hw 0 (by kernel_rfl)) rfl
            have e1 : z 34 = .int .i64 ((i : Nat) : Int) := hz 1 _ (hw 1 (by kernel_rfl)) rfl
            refine wpOp_plain rfl rfl ?_
            go_simp
            exact ⟨⟨by simp [hsz.out], hx.out⟩, upd z 35 (.pointer (some ⟨b0, off + i, none⟩)), (by unfold Hid; simp [upd, e0, e1]), hz.next apx hsz.out 2 (by decide) _ (fun _ h => Option.some.inj h)⟩
          · have e2 : z 35 = .pointer (some ⟨b0, off + i, none⟩) := hz 2 _ (hw 2 (by kernel_rfl)) rfl
            have cl : wx.cell? ⟨b0, off + i, none⟩ = some (.slice Bt m cc) := (hx.out.cell (p := ⟨b0, off + i, none⟩) (World.block_lt_of_cell? _ _ Hc0.out)).trans Hc0.out
            refine wpOp_plain rfl rfl ?_
            go_simp
            exact ⟨⟨by simp [hsz.out], hx.out⟩, upd z 36 (.slice Bt m cc), (by unfold Hid; simp [upd, e2]), hz.next apx hsz.out 3 (by decide) _ (fun _ h => Option.some.inj h)⟩
          · refine wpOp_plain rfl rfl ?_
            go_simp
            exact ⟨⟨by simp [hsz.out], hx.out⟩, upd z 37 (.slice (some ⟨b0, off, none⟩) k c), (by unfold Hid; simp [upd]), hz.next apx hsz.out 4 (by decide) _ (fun _ h => Option.some.inj h)⟩
          · refine wpOp_plain rfl rfl ?_
            go_simp
            exact ⟨⟨by simp [hsz.out], hx.out⟩, upd z 38 (.int .i64 ((i : Nat) : Int)), (by unfold Hid; simp [upd]), hz.next apx hsz.out 5 (by decide) _ (fun _ h => Option.some.inj h)⟩
          · have e4 : z 37 = .slice (some ⟨b0, off, none⟩) k c := hz 4 _ (hw 4 (by kernel_rfl)) rfl
            have e5 : z 38 = .int .i64 ((i : Nat) : Int) := hz 5 _ (hw 5 (by kernel_rfl)) rfl
            refine wpOp_plain rfl rfl ?_
            go_simp
            exact ⟨⟨by simp [hsz.out], hx.out⟩, upd z 39 (.pointer (some ⟨b0, off + i, none⟩)), (by unfold Hid; simp [upd, e4, e5]), hz.next apx hsz.out 6 (by decide) _ (fun _ h => Option.some.inj h)⟩
          · have e6 : z 39 = .pointer (some ⟨b0, off + i, none⟩) := hz 6 _ (hw 6 (by kernel_rfl)) rfl
            have cl : wx.cell? ⟨b0, off + i, none⟩ = some (.slice Bt m cc) := (hx.out.cell (p := ⟨b0, off + i, none⟩) (World.block_lt_of_cell? _ _ Hc0.out)).trans Hc0.out
            refine wpOp_plain rfl rfl ?_
            go_simp
            exact ⟨⟨by simp [hsz.out], hx.out⟩, upd z 40 (.slice Bt m cc), (by unfold Hid; simp [upd, e6]), hz.next apx hsz.out 7 (by decide) _ (fun _ h => Option.some.inj h)⟩
          · have e7 : z 40 = .slice Bt m cc := hz 7 _ (hw 7 (by kernel_rfl)) rfl
            refine wpOp_plain rfl rfl ?_
            go_simp
            exact ⟨⟨by simp [hsz.out], hx.out⟩, upd z 41 (.int .i64 ((m : Nat) : Int)), (by unfold Hid; simp [upd, e7]), hz.next apx hsz.out 8 (by decide) _ (fun _ h => Option.some.inj h)⟩
          · have e8 : z 41 = .int .i64 ((m : Nat) : Int) := hz 8 _ (hw 8 (by kernel_rfl)) rfl
            refine wpOp_plain rfl rfl ?_
            go_simp
            exact ⟨⟨by simp [hsz.out], hx.out⟩, upd z 42 (.int .i64 ((mn : Nat) : Int)), (by unfold Hid; simp [upd, e8]), hz.next apx hsz.out 9 (by decide) _ (fun _ h => Option.some.inj h)⟩
          · have e3 : z 36 = .slice Bt m cc := hz 3 _ (hw 3 (by kernel_rfl)) rfl
            have e9 : z 42 = .int .i64 ((mn : Nat) : Int) := hz 9 _ (hw 9 (by kernel_rfl)) rfl
            refine wpOp_plain rfl rfl ?_
            go_simp
            exact ⟨⟨by simp [hsz.out], hx.out⟩, upd z 43 (.slice Bt mn cc), (by unfold Hid; simp [upd, e3, e9]), hz.next apx hsz.out 10 (by decide) _ (fun _ h => Option.some.inj h)⟩
          · have e10 : z 43 = .slice Bt mn cc := hz 10 _ (hw 10 (by kernel_rfl)) rfl
            refine wpOp_plain rfl rfl ?_
            go_simp
            exact ⟨⟨by simp [hsz.out], hx.out⟩, upd z 10 (.slice Bt mn cc), (by unfold Hid; simp [upd, e10]), hz.next apx hsz.out 11 (by decide) _ (fun _ h => Option.some.inj h)⟩
        · exact ⟨⟨rfl, (Below.refl _ _).drew⟩, fun xx => (#[Value.slice (some { block := b0, off := off }) k c, Value.slice B nb cb, Value.agg #[Value.string s, Value.int IntKind.i64 lv, Value.int IntKind.u64 ((cp : Nat) : Int), Value.int IntKind.u8 ((sc : Nat) : Int)], undef, undef, Value.pointer (some { block := w.heap.size, off := 0 }), Value.bool false, u7, Value.slice none 0 0, Value.int IntKind.i64 ((i : Nat) : Int), u10, u11, u12, undef, undef, undef, undef, undef, Value.pointer (some { block := w.heap.size, off := 0 }), Value.string s, Value.int IntKind.i64 ((s.size : Nat) : Int), Value.bool false, undef, Value.int IntKind.i64 ((i : Nat) : Int), Value.slice (some { block := b0, off := off }) k c, Value.int IntKind.i64 ((k : Nat) : Int), Value.bool true, Value.bool true, Value.int IntKind.i64 ((i : Nat) : Int), Value.bool true, Value.bool true, u31, u32, u33, u34, u35, u36, u37, u38, u39, u40, u41, u42, u43, u44, u45, u46, u47, u48, u49, u50, u51, u52, u53, u54, u55, u56, u57, u58, u59, u60, u61, u62, u63, u64, u65, u66, u67, u68, u69, u70, u71, u72, u73, u74, u75, u76, u77, u78, u79, u80, u81, u82, u83, u84, u85, u86, u87, undef, undef, undef, undef, undef, undef, undef, undef, undef, undef, undef, undef, undef, undef, undef, undef, undef, undef, undef, undef, undef, undef, undef, undef, undef, undef, undef, undef, undef, undef, undef, undef, undef, undef, undef, undef, undef, undef, undef, undef, undef, undef, undef, undef, undef, undef, undef, undef, undef, undef, undef, undef, undef, undef, undef, undef, undef, undef, undef, undef, undef, undef, undef, undef, undef, undef, undef] : Array Value).getD xx undef, rfl, Holding.start⟩
      · have hor : ¬ (i : Int) < (k : Int) ∨ ((i : Int) < (k : Int) ∧ ¬ (i : Int) < 10) := by omega
        have hiu : i = us.length := by rw [Hul.out]; omega
        obtain ⟨hMB, hml, hpr⟩ := hr.out
        obtain ⟨Am, cm, rfl, hTx⟩ := hMB.tx
        rw [hml]
        obtain ⟨n, hn⟩ : ∃ n, n = 9 + sc % 64 := ⟨_, rfl⟩
        have Hn9 : Hid (9 ≤ n ∧ n ≤ 72) := ⟨by omega, by omega⟩
        have Hpairs := Lib.hid (pairs_of hpr hiu.symm hml hi10)
        have HMl := Lib.hid hMB.low
        have hmlen : ∀ t ∈ ms, t.length ≤ 9223372036854775807 := fun t ht => by
          obtain ⟨j, hj, rfl⟩ := List.getElem_of_mem ht
          have := (hpr j (by omega)).2.2.2.1
          rw [List.getD_eq_getElem?_getD, List.getElem?_eq_getElem hj, Option.getD_some] at this
          omega
        have Hf1 : Hid (∀ W, Below w1.heap.size w1 W → Calls Tryz.prog 13 #[.slice A k c, .agg #[.int .u8 7, .int .u8 0, .int .u8 0, .int .u8 0, .int .u8 0, .int .u8 0, .int .u8 0, .int .u8 0, .int .u8 0, .int .u8 0, .int .u8 0, .int .u8 0, .int .u8 0, .int .u8 0, .int .u8 0, .int .u8 0, .int .u8 0, .int .u8 0, .int .u8 0, .int .u8 0, .int .u8 0, .int .u8 0, .int .u8 0, .int .u8 0, .int .u8 0, .int .u8 0, .int .u8 0, .int .u8 0, .int .u8 0, .int .u8 0, .int .u8 0, .int .u8 0], .agg #[.string s, .int .i64 lv, .int .u64 (cp : Nat), .int .u8 (sc : Nat)]] W (FillQ W n kSeven (ctxL s lv cp) us)) := fun W hW => by
          have h := filled_any A k c ts kSeven s lv cp sc rfl kSeven_in Hsc.out Hs40.out W (HL1.out.later hW) (HT1.out.later hW) Hkn.out hk9 Hlen.out
          rw [key_lit7, ← hn, ← Hus.out] at h
          exact h
        have Hf2 : Hid (∀ W, Below wr.heap.size wr W → Calls Tryz.prog 13 #[.slice Am i cm, .agg #[.int .u8 8, .int .u8 0, .int .u8 0, .int .u8 0, .int .u8 0, .int .u8 0, .int .u8 0, .int .u8 0, .int .u8 0, .int .u8 0, .int .u8 0, .int .u8 0, .int .u8 0, .int .u8 0, .int .u8 0, .int .u8 0, .int .u8 0, .int .u8 0, .int .u8 0, .int .u8 0, .int .u8 0, .int .u8 0, .int .u8 0, .int .u8 0, .int .u8 0, .int .u8 0, .int .u8 0, .int .u8 0, .int .u8 0, .int .u8 0, .int .u8 0, .int .u8 0], .agg #[.string s, .int .i64 lv, .int .u64 (cp : Nat), .int .u8 (sc : Nat)]] W (FillQ W n kEight (ctxL s lv cp) (cutT ms))) := fun W hW => by
          have h := filled_any Am i cm ms kEight s lv cp sc rfl kEight_in Hsc.out Hs40.out W (HL1.out.later (hMB.low.trans (hW.mono hMB.low.size))) (hTx.later hW) hml (by omega) hmlen
          rw [key_lit8, ← hn] at h
          exact h
        have Hiu := Lib.hid hiu
        clear hr hMB hml hpr hTx hmlen hn hiu
        obtain ⟨_, fW⟩ := Hfac.out wr HMl.out
        rcases hor with hI1 | ⟨hI1, hI2⟩
        · go_upto_region 18 with (go_at_call 13; refine (Hf1.out wr HMl.out).mono ?_; clear Hf1; rintro e w4 ⟨K1, D0, S0, D, S, V, g1, m1, B1, rfl, hm1, hr1, hk1, hB1, hsd1, hf01, hfl1⟩; have Hm1 := Lib.hid hm1; have Hr1 := Lib.hid hr1; have Hsd1 := Lib.hid hsd1; have Hf01 := Lib.hid hf01; have Hfl1 := Lib.hid hfl1; clear hm1 hr1 hk1 hB1 hsd1 hf01 hfl1 fW)
          have hlow4 := HMl.out.trans (Hsd1.out.low.mono HMl.out.size)
          obtain ⟨_, fW⟩ := Hfac.out w4 hlow4
          clear hlow4
          go_upto_region 19 with (go_at_call 13; refine (Hf2.out w4 Hsd1.out.low).mono ?_; clear Hf2; rintro e w5 ⟨K2, E0, T0, E, T, U, g2, m2, B2, rfl, hm2, hr2, hk2, hB2, hsd2, hf02, hfl2⟩; have Hm2 := Lib.hid hm2; have Hr2 := Lib.hid hr2; have Hsd2 := Lib.hid hsd2; have Hf02 := Lib.hid hf02; have Hfl2 := Lib.hid hfl2; clear hm2 hr2 hk2 hB2 hsd2 hf02 hfl2 fW)
          obtain ⟨R, Q, bs, hST⟩ := st_fill Hn9.out.1 Hf01.out Hf02.out Hfl1.out Hfl2.out Hpairs.out
          have HF := Lib.hid (FinS.of hST (Hsd1.out.later Hsd2.out.low) Hsd2.out (rows_below Hr1.out Hsd2.out.low) Hr2.out Hm1.out Hm2.out (by rw [Hfl1.out.secs]; exact Hn9.out) (by have := Hfl1.out.tn; rw [← Hiu.out] at this; omega))
          obtain rfl : m1 = m2 := HF.out.lens
          have HB5 := Lib.hid (HMl.out.trans ((Hsd1.out.low.trans (Hsd2.out.low.mono Hsd1.out.low.size)).mono HMl.out.size))
          clear hST Hm1 Hm2 Hr1 Hr2 Hsd1 Hsd2 Hf01 Hf02 Hfl1 Hfl2 Hpairs
          obtain ⟨iI, hiI, hzI, hsI, hbI⟩ := partsK infoInt
          have hm10 : m1 ≤ 10 := HF.out.few
          go_wp2
          go_loopw [8, 17] (fun v8 v17 wr => ∃ j : Nat, v17 = .int .i64 j ∧ j ≤ m1 ∧ Hid (wr.ownsRow w5.heap.size 3 1 v8 j (valsK .i64 ((bs.take j).map fun (b : Nat) => (b : Int))) ∧ Below w5.heap.size w5 wr)) (fun _ v _ => m1 - (intOf v).toNat)
          case atStart => exact ⟨0, rfl, Nat.zero_le _, World.ownsRow_nil _ _ _ _, Below.refl _ _⟩
          case round =>
            obtain ⟨j, rfl, hj, HI⟩ := hrel
            by_cases hjm : j < m1
            · have hjI : (j : Int) < (m1 : Int) := by omega
              obtain ⟨b, lx, ly, X, cx, Y, cy, hx, hy, hbx, hby, hxl, hyl, hnx⟩ := HF.out.at_ j hjm
              have Hcx := Lib.hid ((HI.out.2.cell (p := ⟨g1, j, none⟩) hx.1).trans hx.2)
              have Hcy := Lib.hid ((HI.out.2.cell (p := ⟨g2, j, none⟩) hy.1).trans hy.2)
              have Hbx : Hid (∀ W, Calls Tryz.prog 24 #[.int .i64 ((lx : Nat) : Int)] W fun e w' => e = .returned (.int .i64 ((b : Nat) : Int)) ∧ W = w') := fun W => by rw [hbx]; exact lbucket_any lx hxl W
              have Hby2 : Hid (∀ W, Calls Tryz.prog 24 #[.int .i64 ((ly : Nat) : Int)] W fun e w' => e = .returned (.int .i64 ((b : Nat) : Int)) ∧ W = w') := fun W => by rw [hby]; exact lbucket_any ly hyl W
              have HxB := Lib.hid (fun (W : World) (hW : Below w5.heap.size w5 W) => (hW.cell (p := ⟨g1, j, none⟩) hx.1).trans hx.2)
              have Hnx := Lib.hid hnx
              clear hx hy hbx hby hxl hyl hnx
              go_upto_region 24 with (fail)
              have apx : apartB [121, 122, 123, 124, 125, 126, 127, 128, 129, 130, 131, 132, 133] = true := by decide
              refine wp_region_any (by kernel_rfl) ?_
              change wpAny _ _ _ _ _ _ _ (World.drew _)
              refine wpAny_inv (fun ll aa wx => Hid (ll.size = 13 ∧ Below wr.heap.size wr wx) ∧ ∃ (z : Nat → Value), Hid (aa = ⟨#[Value.slice A k c, Value.slice B nb cb, Value.agg #[Value.string s, Value.int IntKind.i64 lv, Value.int IntKind.u64 ((cp : Nat) : Int), Value.int IntKind.u8 ((sc : Nat) : Int)], undef, undef, Value.pointer (some { block := w.heap.size, off := 0 }), u6, Value.slice Am i cm, u8, Value.int IntKind.i64 ((i : Nat) : Int), u10, u11, u12, Value.pointer (some { block := K1.g, off := 0 }), Value.slice (some { block := g1, off := 0 }) m1 m1, Value.pointer (some { block := K2.g, off := 0 }), Value.slice (some { block := g2, off := 0 }) m1 m1, Value.int IntKind.i64 ((j : Nat) : Int), Value.pointer (some { block := w.heap.size, off := 0 }), Value.string s, Value.int IntKind.i64 ((s.size : Nat) : Int), Value.bool false, undef, Value.int IntKind.i64 ((i : Nat) : Int), Value.slice A k c, Value.int IntKind.i64 ((k : Nat) : Int), Value.bool false, Value.bool false, undef, undef, Value.bool false, u31, u32, u33, u34, u35, u36, u37, u38, u39, u40, u41, u42, u43, u44, u45, u46, u47, u48, u49, u50, u51, u52, u53, u54, u55, u56, u57, u58, u59, u60, u61, u62, u63, u64, u65, u66, u67, u68, u69, u70, u71, u72, u73, u74, u75, u76, u77, u78, u79, u80, u81, u82, u83, u84, u85, u86, u87, Value.tuple #[Value.pointer (some { block := K1.g, off := 0 }), Value.slice (some { block := g1, off := 0 }) m1 m1], Value.slice A k c, Value.agg #[Value.int IntKind.u8 7, Value.int IntKind.u8 0, Value.int IntKind.u8 0, Value.int IntKind.u8 0, Value.int IntKind.u8 0, Value.int IntKind.u8 0, Value.int IntKind.u8 0, Value.int IntKind.u8 0, Value.int IntKind.u8 0, Value.int IntKind.u8 0, Value.int IntKind.u8 0, Value.int IntKind.u8 0, Value.int IntKind.u8 0, Value.int IntKind.u8 0, Value.int IntKind.u8 0, Value.int IntKind.u8 0, Value.int IntKind.u8 0, Value.int IntKind.u8 0, Value.int IntKind.u8 0, Value.int IntKind.u8 0, Value.int IntKind.u8 0, Value.int IntKind.u8 0, Value.int IntKind.u8 0, Value.int IntKind.u8 0, Value.int IntKind.u8 0, Value.int IntKind.u8 0, Value.int IntKind.u8 0, Value.int IntKind.u8 0, Value.int IntKind.u8 0, Value.int IntKind.u8 0, Value.int IntKind.u8 0, Value.int IntKind.u8 0], Value.agg #[Value.string s, Value.int IntKind.i64 lv, Value.int IntKind.u64 ((cp : Nat) : Int), Value.int IntKind.u8 ((sc : Nat) : Int)], Value.tuple #[Value.pointer (some { block := K1.g, off := 0 }), Value.slice (some { block := g1, off := 0 }) m1 m1], Value.pointer (some { block := K1.g, off := 0 }), Value.slice (some { block := g1, off := 0 }) m1 m1, Value.tuple #[Value.pointer (some { block := K2.g, off := 0 }), Value.slice (some { block := g2, off := 0 }) m1 m1], Value.slice Am i cm, Value.agg #[Value.int IntKind.u8 8, Value.int IntKind.u8 0, Value.int IntKind.u8 0, Value.int IntKind.u8 0, Value.int IntKind.u8 0, Value.int IntKind.u8 0, Value.int IntKind.u8 0, Value.int IntKind.u8 0, Value.int IntKind.u8 0, Value.int IntKind.u8 0, Value.int IntKind.u8 0, Value.int IntKind.u8 0, Value.int IntKind.u8 0, Value.int IntKind.u8 0, Value.int IntKind.u8 0, Value.int IntKind.u8 0, Value.int IntKind.u8 0, Value.int IntKind.u8 0, Value.int IntKind.u8 0, Value.int IntKind.u8 0, Value.int IntKind.u8 0, Value.int IntKind.u8 0, Value.int IntKind.u8 0, Value.int IntKind.u8 0, Value.int IntKind.u8 0, Value.int IntKind.u8 0, Value.int IntKind.u8 0, Value.int IntKind.u8 0, Value.int IntKind.u8 0, Value.int IntKind.u8 0, Value.int IntKind.u8 0, Value.int IntKind.u8 0], Value.agg #[Value.string s, Value.int IntKind.i64 lv, Value.int IntKind.u64 ((cp : Nat) : Int), Value.int IntKind.u8 ((sc : Nat) : Int)], Value.tuple #[Value.pointer (some { block := K2.g, off := 0 }), Value.slice (some { block := g2, off := 0 }) m1 m1], Value.pointer (some { block := K2.g, off := 0 }), Value.slice (some { block := g2, off := 0 }) m1 m1, Value.pointer (some { block := K1.g, off := 0 }), Value.bool false, Value.bool false, Value.pointer (some { block := K2.g, off := 0 }), Value.bool false, Value.bool false, Value.bool false, Value.slice (some { block := g1, off := 0 }) m1 m1, Value.int IntKind.i64 ((m1 : Nat) : Int), Value.slice (some { block := g2, off := 0 }) m1 m1, Value.int IntKind.i64 ((m1 : Nat) : Int), Value.bool false, Value.bool false, Value.int IntKind.i64 ((j : Nat) : Int), Value.slice (some { block := g1, off := 0 }) m1 m1, Value.int IntKind.i64 ((m1 : Nat) : Int), Value.bool true, u119, u120, z 121, z 122, z 123, z 124, z 125, z 126, z 127, z 128, z 129, z 130, z 131, z 132, z 133, u134, u135, u136, u137, u138, u139, u140, u141, u142, undef, undef, undef, undef, undef, undef, undef, undef, undef, undef, undef, undef], []⟩) ∧ Holding [121, 122, 123, 124, 125, 126, 127, 128, 129, 130, 131, 132, 133] [some (.slice (some ⟨g1, 0, none⟩) m1 m1), some (.int .i64 ((j : Nat) : Int)), some (.pointer (some ⟨g1, j, none⟩)), some (.slice X lx cx), some (.int .i64 ((lx : Nat) : Int)), some (.int .i64 ((b : Nat) : Int)), some (.slice (some ⟨g2, 0, none⟩) m1 m1), some (.int .i64 ((j : Nat) : Int)), some (.pointer (some ⟨g2, j, none⟩)), some (.slice Y ly cy), some (.int .i64 ((ly : Nat) : Int)), some (.int .i64 ((b : Nat) : Int)), some (.bool false)] ll z) ?_ (by kernel_rfl) ?_ ?_ _ _ _ _ (unlisted_none _) ?_
              · rintro ll aa wx ⟨hI, _⟩
                exact hI.out.1
              · rintro ll aa wx ⟨hI, z, ha, hz⟩ hall
                have hx := Lib.hid hI.out.2
                have e0 : z 121 = .slice (some ⟨g1, 0, none⟩) m1 m1 := hz 0 _ (hall 0 (by decide)) rfl
                have e1 : z 122 = .int .i64 ((j : Nat) : Int) := hz 1 _ (hall 1 (by decide)) rfl
                have e2 : z 123 = .pointer (some ⟨g1, j, none⟩) := hz 2 _ (hall 2 (by decide)) rfl
                have e3 : z 124 = .slice X lx cx := hz 3 _ (hall 3 (by decide)) rfl
                have e4 : z 125 = .int .i64 ((lx : Nat) : Int) := hz 4 _ (hall 4 (by decide)) rfl
                have e5 : z 126 = .int .i64 ((b : Nat) : Int) := hz 5 _ (hall 5 (by decide)) rfl
                have e6 : z 127 = .slice (some ⟨g2, 0, none⟩) m1 m1 := hz 6 _ (hall 6 (by decide)) rfl
                have e7 : z 128 = .int .i64 ((j : Nat) : Int) := hz 7 _ (hall 7 (by decide)) rfl
                have e8 : z 129 = .pointer (some ⟨g2, j, none⟩) := hz 8 _ (hall 8 (by decide)) rfl
                have e9 : z 130 = .slice Y ly cy := hz 9 _ (hall 9 (by decide)) rfl
                have e10 : z 131 = .int .i64 ((ly : Nat) : Int) := hz 10 _ (hall 10 (by decide)) rfl
                have e11 : z 132 = .int .i64 ((b : Nat) : Int) := hz 11 _ (hall 11 (by decide)) rfl
                have e12 : z 133 = .bool false := hz 12 _ (hall 12 (by decide)) rfl
                clear hall hz hI 
                obtain rfl := ha.out
                clear ha
                clear apx
                have E := Lib.hid e12
                have HX4 := Lib.hid hx.out
                clear e0 e1 e2 e3 e4 e5 e6 e7 e8 e9 e10 e11 e12 hx
                rw [E.out]
                rename World => w6
                rename Nat → Value => zz
                have hI6 := HI.out.2.trans (HX4.out.mono HI.out.2.size)
                have HI6 := Lib.hid (And.intro (own_stays HI.out.1 HX4.out) hI6)
                have hcx6 := HxB.out w6 hI6
                clear hI6 HI Hcx Hcy
                go_wp2_with (first
                  | (go_at_call 24; refine (Hbx.out _).mono ?_; clear Hbx; rintro e w' ⟨rfl, rfl⟩)
                  | (at_builtin; refine wpList_append_mine rfl (.tmp 134) (.tmp 141) 66 rfl w5.heap.size 3 iI (.int .i64 0) 8 Tryz.underlying66 hiI hzI hsI hbI rfl (by decide) _ j _ ((b : Nat) : Int) rfl HI6.out.1 rfl (by omega) HI6.out.2.size ?_; intro v' w7 hG; have HG := Lib.hid hG; clear hG))
                go_roundw
                case rel => exact ⟨j + 1, by go_num, by omega, by rw [Hnx.out, List.map_append]; exact HG.out.own, HG.out.low _ _ HI6.out.2 (Nat.le_refl _)⟩
                case measure => simp [intOf]; omega
                
              · rintro ll aa wx i ⟨hI, z, ha, hz⟩ hi hu hw
                obtain rfl := ha.out
                have hsz := Lib.hid hI.out.1
                have hx := Lib.hid hI.out.2
                clear ha hI
                have hin : i < 13 := hi
                obtain rfl | rfl | rfl | rfl | rfl | rfl | rfl | rfl | rfl | rfl | rfl | rfl | rfl : i = 0 ∨ i = 1 ∨ i = 2 ∨ i = 3 ∨ i = 4 ∨ i = 5 ∨ i = 6 ∨ i = 7 ∨ i = 8 ∨ i = 9 ∨ i = 10 ∨ i = 11 ∨ i = 12 := by omega
                · refine wpOp_plain rfl rfl ?_
                  go_simp
                  exact ⟨⟨by simp [hsz.out], hx.out⟩, upd z 121 (.slice (some ⟨g1, 0, none⟩) m1 m1), (by unfold Hid; simp [upd]), hz.next apx hsz.out 0 (by decide) _ (fun _ h => Option.some.inj h)⟩
                · refine wpOp_plain rfl rfl ?_
                  go_simp
                  exact ⟨⟨by simp [hsz.out], hx.out⟩, upd z 122 (.int .i64 ((j : Nat) : Int)), (by unfold Hid; simp [upd]), hz.next apx hsz.out 1 (by decide) _ (fun _ h => Option.some.inj h)⟩
                · have e0 : z 121 = .slice (some ⟨g1, 0, none⟩) m1 m1 := hz 0 _ (hw 0 (by kernel_rfl)) rfl
                  have e1 : z 122 = .int .i64 ((j : Nat) : Int) := hz 1 _ (hw 1 (by kernel_rfl)) rfl
                  refine wpOp_plain rfl rfl ?_
                  go_simp
                  exact ⟨⟨by simp [hsz.out], hx.out⟩, upd z 123 (.pointer (some ⟨g1, j, none⟩)), (by unfold Hid; simp [upd, e0, e1]), hz.next apx hsz.out 2 (by decide) _ (fun _ h => Option.some.inj h)⟩
                · have e2 : z 123 = .pointer (some ⟨g1, j, none⟩) := hz 2 _ (hw 2 (by kernel_rfl)) rfl
                  have cl : wx.cell? ⟨g1, j, none⟩ = some (.slice X lx cx) := (hx.out.cell (p := ⟨g1, j, none⟩) (World.block_lt_of_cell? _ _ Hcx.out)).trans Hcx.out
                  refine wpOp_plain rfl rfl ?_
                  go_simp
                  exact ⟨⟨by simp [hsz.out], hx.out⟩, upd z 124 (.slice X lx cx), (by unfold Hid; simp [upd, e2]), hz.next apx hsz.out 3 (by decide) _ (fun _ h => Option.some.inj h)⟩
                · have e3 : z 124 = .slice X lx cx := hz 3 _ (hw 3 (by kernel_rfl)) rfl
                  refine wpOp_plain rfl rfl ?_
                  go_simp
                  exact ⟨⟨by simp [hsz.out], hx.out⟩, upd z 125 (.int .i64 ((lx : Nat) : Int)), (by unfold Hid; simp [upd, e3]), hz.next apx hsz.out 4 (by decide) _ (fun _ h => Option.some.inj h)⟩
                · have e4 : z 125 = .int .i64 ((lx : Nat) : Int) := hz 4 _ (hw 4 (by kernel_rfl)) rfl
                  refine wpOp_plain rfl rfl ?_
                  go_simp
                  go_at_call 24
                  refine (Hbx.out _).mono ?_
                  rintro e w' ⟨rfl, rfl⟩
                  exact ⟨⟨by simp [hsz.out], hx.out⟩, upd z 126 (.int .i64 ((b : Nat) : Int)), (by unfold Hid; simp [upd, e4]), hz.next apx hsz.out 5 (by decide) _ (fun _ h => Option.some.inj h)⟩
                · refine wpOp_plain rfl rfl ?_
                  go_simp
                  exact ⟨⟨by simp [hsz.out], hx.out⟩, upd z 127 (.slice (some ⟨g2, 0, none⟩) m1 m1), (by unfold Hid; simp [upd]), hz.next apx hsz.out 6 (by decide) _ (fun _ h => Option.some.inj h)⟩
                · refine wpOp_plain rfl rfl ?_
                  go_simp
                  exact ⟨⟨by simp [hsz.out], hx.out⟩, upd z 128 (.int .i64 ((j : Nat) : Int)), (by unfold Hid; simp [upd]), hz.next apx hsz.out 7 (by decide) _ (fun _ h => Option.some.inj h)⟩
                · have e6 : z 127 = .slice (some ⟨g2, 0, none⟩) m1 m1 := hz 6 _ (hw 6 (by kernel_rfl)) rfl
                  have e7 : z 128 = .int .i64 ((j : Nat) : Int) := hz 7 _ (hw 7 (by kernel_rfl)) rfl
                  refine wpOp_plain rfl rfl ?_
                  go_simp
                  exact ⟨⟨by simp [hsz.out], hx.out⟩, upd z 129 (.pointer (some ⟨g2, j, none⟩)), (by unfold Hid; simp [upd, e6, e7]), hz.next apx hsz.out 8 (by decide) _ (fun _ h => Option.some.inj h)⟩
                · have e8 : z 129 = .pointer (some ⟨g2, j, none⟩) := hz 8 _ (hw 8 (by kernel_rfl)) rfl
                  have cl : wx.cell? ⟨g2, j, none⟩ = some (.slice Y ly cy) := (hx.out.cell (p := ⟨g2, j, none⟩) (World.block_lt_of_cell? _ _ Hcy.out)).trans Hcy.out
                  refine wpOp_plain rfl rfl ?_
                  go_simp
                  exact ⟨⟨by simp [hsz.out], hx.out⟩, upd z 130 (.slice Y ly cy), (by unfold Hid; simp [upd, e8]), hz.next apx hsz.out 9 (by decide) _ (fun _ h => Option.some.inj h)⟩
                · have e9 : z 130 = .slice Y ly cy := hz 9 _ (hw 9 (by kernel_rfl)) rfl
                  refine wpOp_plain rfl rfl ?_
                  go_simp
                  exact ⟨⟨by simp [hsz.out], hx.out⟩, upd z 131 (.int .i64 ((ly : Nat) : Int)), (by unfold Hid; simp [upd, e9]), hz.next apx hsz.out 10 (by decide) _ (fun _ h => Option.some.inj h)⟩
                · have e10 : z 131 = .int .i64 ((ly : Nat) : Int) := hz 10 _ (hw 10 (by kernel_rfl)) rfl
                  refine wpOp_plain rfl rfl ?_
                  go_simp
                  go_at_call 24
                  refine (Hby2.out _).mono ?_
                  rintro e w' ⟨rfl, rfl⟩
                  exact ⟨⟨by simp [hsz.out], hx.out⟩, upd z 132 (.int .i64 ((b : Nat) : Int)), (by unfold Hid; simp [upd, e10]), hz.next apx hsz.out 11 (by decide) _ (fun _ h => Option.some.inj h)⟩
                · have e5 : z 126 = .int .i64 ((b : Nat) : Int) := hz 5 _ (hw 5 (by kernel_rfl)) rfl
                  have e11 : z 132 = .int .i64 ((b : Nat) : Int) := hz 11 _ (hw 11 (by kernel_rfl)) rfl
                  refine wpOp_plain rfl rfl ?_
                  go_simp
                  exact ⟨⟨by simp [hsz.out], hx.out⟩, upd z 133 (.bool false), (by unfold Hid; simp [upd, e5, e11]), hz.next apx hsz.out 12 (by decide) _ (fun _ h => Option.some.inj h)⟩
              · exact ⟨⟨rfl, (Below.refl _ _).drew⟩, fun xx => (#[Value.slice A k c, Value.slice B nb cb, Value.agg #[Value.string s, Value.int IntKind.i64 lv, Value.int IntKind.u64 ((cp : Nat) : Int), Value.int IntKind.u8 ((sc : Nat) : Int)], undef, undef, Value.pointer (some { block := w.heap.size, off := 0 }), u6, Value.slice Am i cm, u8, Value.int IntKind.i64 ((i : Nat) : Int), u10, u11, u12, Value.pointer (some { block := K1.g, off := 0 }), Value.slice (some { block := g1, off := 0 }) m1 m1, Value.pointer (some { block := K2.g, off := 0 }), Value.slice (some { block := g2, off := 0 }) m1 m1, Value.int IntKind.i64 ((j : Nat) : Int), Value.pointer (some { block := w.heap.size, off := 0 }), Value.string s, Value.int IntKind.i64 ((s.size : Nat) : Int), Value.bool false, undef, Value.int IntKind.i64 ((i : Nat) : Int), Value.slice A k c, Value.int IntKind.i64 ((k : Nat) : Int), Value.bool false, Value.bool false, undef, undef, Value.bool false, u31, u32, u33, u34, u35, u36, u37, u38, u39, u40, u41, u42, u43, u44, u45, u46, u47, u48, u49, u50, u51, u52, u53, u54, u55, u56, u57, u58, u59, u60, u61, u62, u63, u64, u65, u66, u67, u68, u69, u70, u71, u72, u73, u74, u75, u76, u77, u78, u79, u80, u81, u82, u83, u84, u85, u86, u87, Value.tuple #[Value.pointer (some { block := K1.g, off := 0 }), Value.slice (some { block := g1, off := 0 }) m1 m1], Value.slice A k c, Value.agg #[Value.int IntKind.u8 7, Value.int IntKind.u8 0, Value.int IntKind.u8 0, Value.int IntKind.u8 0, Value.int IntKind.u8 0, Value.int IntKind.u8 0, Value.int IntKind.u8 0, Value.int IntKind.u8 0, Value.int IntKind.u8 0, Value.int IntKind.u8 0, Value.int IntKind.u8 0, Value.int IntKind.u8 0, Value.int IntKind.u8 0, Value.int IntKind.u8 0, Value.int IntKind.u8 0, Value.int IntKind.u8 0, Value.int IntKind.u8 0, Value.int IntKind.u8 0, Value.int IntKind.u8 0, Value.int IntKind.u8 0, Value.int IntKind.u8 0, Value.int IntKind.u8 0, Value.int IntKind.u8 0, Value.int IntKind.u8 0, Value.int IntKind.u8 0, Value.int IntKind.u8 0, Value.int IntKind.u8 0, Value.int IntKind.u8 0, Value.int IntKind.u8 0, Value.int IntKind.u8 0, Value.int IntKind.u8 0, Value.int IntKind.u8 0], Value.agg #[Value.string s, Value.int IntKind.i64 lv, Value.int IntKind.u64 ((cp : Nat) : Int), Value.int IntKind.u8 ((sc : Nat) : Int)], Value.tuple #[Value.pointer (some { block := K1.g, off := 0 }), Value.slice (some { block := g1, off := 0 }) m1 m1], Value.pointer (some { block := K1.g, off := 0 }), Value.slice (some { block := g1, off := 0 }) m1 m1, Value.tuple #[Value.pointer (some { block := K2.g, off := 0 }), Value.slice (some { block := g2, off := 0 }) m1 m1], Value.slice Am i cm, Value.agg #[Value.int IntKind.u8 8, Value.int IntKind.u8 0, Value.int IntKind.u8 0, Value.int IntKind.u8 0, Value.int IntKind.u8 0, Value.int IntKind.u8 0, Value.int IntKind.u8 0, Value.int IntKind.u8 0, Value.int IntKind.u8 0, Value.int IntKind.u8 0, Value.int IntKind.u8 0, Value.int IntKind.u8 0, Value.int IntKind.u8 0, Value.int IntKind.u8 0, Value.int IntKind.u8 0, Value.int IntKind.u8 0, Value.int IntKind.u8 0, Value.int IntKind.u8 0, Value.int IntKind.u8 0, Value.int IntKind.u8 0, Value.int IntKind.u8 0, Value.int IntKind.u8 0, Value.int IntKind.u8 0, Value.int IntKind.u8 0, Value.int IntKind.u8 0, Value.int IntKind.u8 0, Value.int IntKind.u8 0, Value.int IntKind.u8 0, Value.int IntKind.u8 0, Value.int IntKind.u8 0, Value.int IntKind.u8 0, Value.int IntKind.u8 0], Value.agg #[Value.string s, Value.int IntKind.i64 lv, Value.int IntKind.u64 ((cp : Nat) : Int), Value.int IntKind.u8 ((sc : Nat) : Int)], Value.tuple #[Value.pointer (some { block := K2.g, off := 0 }), Value.slice (some { block := g2, off := 0 }) m1 m1], Value.pointer (some { block := K2.g, off := 0 }), Value.slice (some { block := g2, off := 0 }) m1 m1, Value.pointer (some { block := K1.g, off := 0 }), Value.bool false, Value.bool false, Value.pointer (some { block := K2.g, off := 0 }), Value.bool false, Value.bool false, Value.bool false, Value.slice (some { block := g1, off := 0 }) m1 m1, Value.int IntKind.i64 ((m1 : Nat) : Int), Value.slice (some { block := g2, off := 0 }) m1 m1, Value.int IntKind.i64 ((m1 : Nat) : Int), Value.bool false, Value.bool false, Value.int IntKind.i64 ((j : Nat) : Int), Value.slice (some { block := g1, off := 0 }) m1 m1, Value.int IntKind.i64 ((m1 : Nat) : Int), Value.bool true, u119, u120, u121, u122, u123, u124, u125, u126, u127, u128, u129, u130, u131, u132, u133, u134, u135, u136, u137, u138, u139, u140, u141, u142, undef, undef, undef, undef, undef, undef, undef, undef, undef, undef, undef, undef] : Array Value).getD xx undef, rfl, Holding.start⟩
            · have hjI : ¬ (j : Int) < (m1 : Int) := by omega
              have hjl : bs.take j = bs := List.take_of_length_le (by rw [HF.out.blen]; omega)
              have hrd : RdI bs u8 wr := by
                have h := HI.out.1
                rw [hjl] at h
                exact rdI_of h (by rw [HF.out.blen]; omega)
              have HRd := Lib.hid hrd
              have HFw := Lib.hid (HF.out.later HI.out.2)
              have HB6 := Lib.hid (HB5.out.trans (HI.out.2.mono HB5.out.size))
              obtain ⟨Z, hZ⟩ : ∃ Z, Z = zsL D.data (inZ 1024 bs) := ⟨_, rfl⟩
              have Hsh1 : Hid (∀ W, Below wr.heap.size wr W → Calls Tryz.prog 25 #[.pointer (some ⟨K1.g, 0, none⟩), u8] W fun e w' => ∃ z, e = .returned z ∧ SlB Z z w' ∧ Below W.heap.size W w') := fun W hW => by rw [hZ]; exact HFw.out.shape1 (RdI.later HRd.out hW) hW
              have Hsh2 : Hid (∀ W, Below wr.heap.size wr W → Calls Tryz.prog 25 #[.pointer (some ⟨K2.g, 0, none⟩), u8] W fun e w' => ∃ z, e = .returned z ∧ SlB Z z w' ∧ Below W.heap.size W w') := fun W hW => by rw [hZ]; exact HFw.out.shape2 (RdI.later HRd.out hW) hW
              obtain ⟨sz, hsz⟩ : ∃ sz, sz = strOfNums Z := ⟨_, rfl⟩
              have Hcv : Hid (∀ W z, SlB Z z W → (convert 38 9 z).run Tryz.prog W = .ok (.string sz) W) := fun W z ⟨Az, cz, hz, hB⟩ => by rw [hz, hsz]; exact Str.conv_any hB rfl
              have Hwk6 : Hid (∀ W, Below wr.heap.size wr W → Calls Tryz.prog 8 #[] W fun e w' => e = .returned (.bool true) ∧ Below W.heap.size W w') := fun W hW => Hwk.out W (HB6.out.trans (hW.mono HB6.out.size))
              clear hrd hZ hsz HI hjl
              go_upto_region 27 with (fail)
              have apx : apartB [143, 144, 145, 146, 147, 148, 149, 150, 151, 152, 153, 154, 6] = true := by decide
              refine wp_region_any (by kernel_rfl) ?_
              change wpAny _ _ _ _ _ _ _ (World.drew _)
              refine wpAny_inv (fun ll aa wx => Hid (ll.size = 13 ∧ Below wr.heap.size wr wx) ∧ ∃ (z : Nat → Value), Hid (aa = ⟨#[Value.slice A k c, Value.slice B nb cb, Value.agg #[Value.string s, Value.int IntKind.i64 lv, Value.int IntKind.u64 ((cp : Nat) : Int), Value.int IntKind.u8 ((sc : Nat) : Int)], undef, undef, Value.pointer (some { block := w.heap.size, off := 0 }), z 6, Value.slice Am i cm, u8, Value.int IntKind.i64 ((i : Nat) : Int), u10, u11, u12, Value.pointer (some { block := K1.g, off := 0 }), Value.slice (some { block := g1, off := 0 }) m1 m1, Value.pointer (some { block := K2.g, off := 0 }), Value.slice (some { block := g2, off := 0 }) m1 m1, Value.int IntKind.i64 ((j : Nat) : Int), Value.pointer (some { block := w.heap.size, off := 0 }), Value.string s, Value.int IntKind.i64 ((s.size : Nat) : Int), Value.bool false, undef, Value.int IntKind.i64 ((i : Nat) : Int), Value.slice A k c, Value.int IntKind.i64 ((k : Nat) : Int), Value.bool false, Value.bool false, undef, undef, Value.bool false, u31, u32, u33, u34, u35, u36, u37, u38, u39, u40, u41, u42, u43, u44, u45, u46, u47, u48, u49, u50, u51, u52, u53, u54, u55, u56, u57, u58, u59, u60, u61, u62, u63, u64, u65, u66, u67, u68, u69, u70, u71, u72, u73, u74, u75, u76, u77, u78, u79, u80, u81, u82, u83, u84, u85, u86, u87, Value.tuple #[Value.pointer (some { block := K1.g, off := 0 }), Value.slice (some { block := g1, off := 0 }) m1 m1], Value.slice A k c, Value.agg #[Value.int IntKind.u8 7, Value.int IntKind.u8 0, Value.int IntKind.u8 0, Value.int IntKind.u8 0, Value.int IntKind.u8 0, Value.int IntKind.u8 0, Value.int IntKind.u8 0, Value.int IntKind.u8 0, Value.int IntKind.u8 0, Value.int IntKind.u8 0, Value.int IntKind.u8 0, Value.int IntKind.u8 0, Value.int IntKind.u8 0, Value.int IntKind.u8 0, Value.int IntKind.u8 0, Value.int IntKind.u8 0, Value.int IntKind.u8 0, Value.int IntKind.u8 0, Value.int IntKind.u8 0, Value.int IntKind.u8 0, Value.int IntKind.u8 0, Value.int IntKind.u8 0, Value.int IntKind.u8 0, Value.int IntKind.u8 0, Value.int IntKind.u8 0, Value.int IntKind.u8 0, Value.int IntKind.u8 0, Value.int IntKind.u8 0, Value.int IntKind.u8 0, Value.int IntKind.u8 0, Value.int IntKind.u8 0, Value.int IntKind.u8 0], Value.agg #[Value.string s, Value.int IntKind.i64 lv, Value.int IntKind.u64 ((cp : Nat) : Int), Value.int IntKind.u8 ((sc : Nat) : Int)], Value.tuple #[Value.pointer (some { block := K1.g, off := 0 }), Value.slice (some { block := g1, off := 0 }) m1 m1], Value.pointer (some { block := K1.g, off := 0 }), Value.slice (some { block := g1, off := 0 }) m1 m1, Value.tuple #[Value.pointer (some { block := K2.g, off := 0 }), Value.slice (some { block := g2, off := 0 }) m1 m1], Value.slice Am i cm, Value.agg #[Value.int IntKind.u8 8, Value.int IntKind.u8 0, Value.int IntKind.u8 0, Value.int IntKind.u8 0, Value.int IntKind.u8 0, Value.int IntKind.u8 0, Value.int IntKind.u8 0, Value.int IntKind.u8 0, Value.int IntKind.u8 0, Value.int IntKind.u8 0, Value.int IntKind.u8 0, Value.int IntKind.u8 0, Value.int IntKind.u8 0, Value.int IntKind.u8 0, Value.int IntKind.u8 0, Value.int IntKind.u8 0, Value.int IntKind.u8 0, Value.int IntKind.u8 0, Value.int IntKind.u8 0, Value.int IntKind.u8 0, Value.int IntKind.u8 0, Value.int IntKind.u8 0, Value.int IntKind.u8 0, Value.int IntKind.u8 0, Value.int IntKind.u8 0, Value.int IntKind.u8 0, Value.int IntKind.u8 0, Value.int IntKind.u8 0, Value.int IntKind.u8 0, Value.int IntKind.u8 0, Value.int IntKind.u8 0, Value.int IntKind.u8 0], Value.agg #[Value.string s, Value.int IntKind.i64 lv, Value.int IntKind.u64 ((cp : Nat) : Int), Value.int IntKind.u8 ((sc : Nat) : Int)], Value.tuple #[Value.pointer (some { block := K2.g, off := 0 }), Value.slice (some { block := g2, off := 0 }) m1 m1], Value.pointer (some { block := K2.g, off := 0 }), Value.slice (some { block := g2, off := 0 }) m1 m1, Value.pointer (some { block := K1.g, off := 0 }), Value.bool false, Value.bool false, Value.pointer (some { block := K2.g, off := 0 }), Value.bool false, Value.bool false, Value.bool false, Value.slice (some { block := g1, off := 0 }) m1 m1, Value.int IntKind.i64 ((m1 : Nat) : Int), Value.slice (some { block := g2, off := 0 }) m1 m1, Value.int IntKind.i64 ((m1 : Nat) : Int), Value.bool false, Value.bool false, Value.int IntKind.i64 ((j : Nat) : Int), Value.slice (some { block := g1, off := 0 }) m1 m1, Value.int IntKind.i64 ((m1 : Nat) : Int), Value.bool false, u119, u120, u121, u122, u123, u124, u125, u126, u127, u128, u129, u130, u131, u132, u133, u134, u135, u136, u137, u138, u139, u140, u141, u142, z 143, z 144, z 145, z 146, z 147, z 148, z 149, z 150, z 151, z 152, z 153, z 154], []⟩) ∧ Holding [143, 144, 145, 146, 147, 148, 149, 150, 151, 152, 153, 154, 6] [some (.pointer (some ⟨K1.g, 0, none⟩)), some (u8), none, some (.string sz), some (.pointer (some ⟨K2.g, 0, none⟩)), some (u8), none, some (.string sz), some (.bool true), some (.bool true), some (.bool true), some (.bool true), some (.bool true)] ll z ∧ Whn ll 2 (fun z w => SlB Z z w) (z 145) wx ∧ Whn ll 6 (fun z w => SlB Z z w) (z 149) wx) ?_ (by kernel_rfl) ?_ ?_ _ _ _ _ (unlisted_none _) ?_
              · rintro ll aa wx ⟨hI, _⟩
                exact hI.out.1
              · rintro ll aa wx ⟨hI, z, ha, hz, hp2, hp6⟩ hall
                have hx := Lib.hid hI.out.2
                have e0 : z 143 = .pointer (some ⟨K1.g, 0, none⟩) := hz 0 _ (hall 0 (by decide)) rfl
                have e1 : z 144 = u8 := hz 1 _ (hall 1 (by decide)) rfl
                have e3 : z 146 = .string sz := hz 3 _ (hall 3 (by decide)) rfl
                have e4 : z 147 = .pointer (some ⟨K2.g, 0, none⟩) := hz 4 _ (hall 4 (by decide)) rfl
                have e5 : z 148 = u8 := hz 5 _ (hall 5 (by decide)) rfl
                have e7 : z 150 = .string sz := hz 7 _ (hall 7 (by decide)) rfl
                have e8 : z 151 = .bool true := hz 8 _ (hall 8 (by decide)) rfl
                have e9 : z 152 = .bool true := hz 9 _ (hall 9 (by decide)) rfl
                have e10 : z 153 = .bool true := hz 10 _ (hall 10 (by decide)) rfl
                have e11 : z 154 = .bool true := hz 11 _ (hall 11 (by decide)) rfl
                have e12 : z 6 = .bool true := hz 12 _ (hall 12 (by decide)) rfl
                have p2 := hp2.get (hall 2 (by decide))
                have p6 := hp6.get (hall 6 (by decide))
                clear hall hz hI hp2 hp6
                obtain rfl := ha.out
                clear ha
                clear apx
                have E := Lib.hid e12
                have HX7 := Lib.hid hx.out
                clear e0 e1 e3 e4 e5 e7 e8 e9 e10 e11 e12 hx p2 p6
                rw [E.out]
                go_wp2
                go_ret
                exact ⟨rfl, HB1.out.trans ((HB6.out.trans (HX7.out.mono HB6.out.size)).mono HB1.out.size)⟩
              · rintro ll aa wx i ⟨hI, z, ha, hz, hp2, hp6⟩ hi hu hw
                obtain rfl := ha.out
                have hsz := Lib.hid hI.out.1
                have hx := Lib.hid hI.out.2
                clear ha hI
                have hin : i < 13 := hi
                obtain rfl | rfl | rfl | rfl | rfl | rfl | rfl | rfl | rfl | rfl | rfl | rfl | rfl : i = 0 ∨ i = 1 ∨ i = 2 ∨ i = 3 ∨ i = 4 ∨ i = 5 ∨ i = 6 ∨ i = 7 ∨ i = 8 ∨ i = 9 ∨ i = 10 ∨ i = 11 ∨ i = 12 := by omega
                · refine wpOp_plain rfl rfl ?_
                  go_simp
                  exact ⟨⟨by simp [hsz.out], hx.out⟩, upd z 143 (.pointer (some ⟨K1.g, 0, none⟩)), (by unfold Hid; simp [upd]), hz.next apx hsz.out 0 (by decide) _ (fun _ h => Option.some.inj h), hp2.keep (by decide), hp6.keep (by decide)⟩
                · refine wpOp_plain rfl rfl ?_
                  go_simp
                  exact ⟨⟨by simp [hsz.out], hx.out⟩, upd z 144 (u8), (by unfold Hid; simp [upd]), hz.next apx hsz.out 1 (by decide) _ (fun _ h => Option.some.inj h), hp2.keep (by decide), hp6.keep (by decide)⟩
                · have e0 : z 143 = .pointer (some ⟨K1.g, 0, none⟩) := hz 0 _ (hw 0 (by kernel_rfl)) rfl
                  have e1 : z 144 = u8 := hz 1 _ (hw 1 (by kernel_rfl)) rfl
                  refine wpOp_plain rfl rfl ?_
                  go_simp
                  go_at_call 25
                  refine (Hsh1.out wx hx.out).mono ?_
                  rintro e w' ⟨vr, rfl, hsl, hlo⟩
                  exact ⟨⟨by simp [hsz.out], hx.out.trans (hlo.mono hx.out.size)⟩, upd z 145 (vr), (by unfold Hid; simp [upd, e0, e1]), hz.next apx hsz.out 2 (by decide) _ (fun _ h => by cases h), Whn.done (hsl), (hp6.keep (by decide)).map (fun h => h.later hlo)⟩
                · have p2 := hp2.get (hw 2 (by kernel_rfl))
                  have hcv := Hcv.out wx _ p2
                  refine wpOp_plain rfl rfl ?_
                  go_simp
                  exact ⟨⟨by simp [hsz.out], hx.out⟩, upd z 146 (.string sz), (by unfold Hid; simp [upd]), hz.next apx hsz.out 3 (by decide) _ (fun _ h => Option.some.inj h), hp2.keep (by decide), hp6.keep (by decide)⟩
                · refine wpOp_plain rfl rfl ?_
                  go_simp
                  exact ⟨⟨by simp [hsz.out], hx.out⟩, upd z 147 (.pointer (some ⟨K2.g, 0, none⟩)), (by unfold Hid; simp [upd]), hz.next apx hsz.out 4 (by decide) _ (fun _ h => Option.some.inj h), hp2.keep (by decide), hp6.keep (by decide)⟩
                · refine wpOp_plain rfl rfl ?_
                  go_simp
                  exact ⟨⟨by simp [hsz.out], hx.out⟩, upd z 148 (u8), (by unfold Hid; simp [upd]), hz.next apx hsz.out 5 (by decide) _ (fun _ h => Option.some.inj h), hp2.keep (by decide), hp6.keep (by decide)⟩
                · have e4 : z 147 = .pointer (some ⟨K2.g, 0, none⟩) := hz 4 _ (hw 4 (by kernel_rfl)) rfl
                  have e5 : z 148 = u8 := hz 5 _ (hw 5 (by kernel_rfl)) rfl
                  refine wpOp_plain rfl rfl ?_
                  go_simp
                  go_at_call 25
                  refine (Hsh2.out wx hx.out).mono ?_
                  rintro e w' ⟨vr, rfl, hsl, hlo⟩
                  exact ⟨⟨by simp [hsz.out], hx.out.trans (hlo.mono hx.out.size)⟩, upd z 149 (vr), (by unfold Hid; simp [upd, e4, e5]), hz.next apx hsz.out 6 (by decide) _ (fun _ h => by cases h), (hp2.keep (by decide)).map (fun h => h.later hlo), Whn.done (hsl)⟩
                · have p6 := hp6.get (hw 6 (by kernel_rfl))
                  have hcv := Hcv.out wx _ p6
                  refine wpOp_plain rfl rfl ?_
                  go_simp
                  exact ⟨⟨by simp [hsz.out], hx.out⟩, upd z 150 (.string sz), (by unfold Hid; simp [upd]), hz.next apx hsz.out 7 (by decide) _ (fun _ h => Option.some.inj h), hp2.keep (by decide), hp6.keep (by decide)⟩
                · have e3 : z 146 = .string sz := hz 3 _ (hw 3 (by kernel_rfl)) rfl
                  have e7 : z 150 = .string sz := hz 7 _ (hw 7 (by kernel_rfl)) rfl
                  refine wpOp_plain rfl rfl ?_
                  go_simp
                  exact ⟨⟨by simp [hsz.out], hx.out⟩, upd z 151 (.bool true), (by unfold Hid; simp [upd, e3, e7]), hz.next apx hsz.out 8 (by decide) _ (fun _ h => Option.some.inj h), hp2.keep (by decide), hp6.keep (by decide)⟩
                · have e8 : z 151 = .bool true := hz 8 _ (hw 8 (by kernel_rfl)) rfl
                  refine wpOp_plain rfl rfl ?_
                  go_simp
                  exact ⟨⟨by simp [hsz.out], hx.out⟩, upd z 152 (.bool true), (by unfold Hid; simp [upd, e8]), hz.next apx hsz.out 9 (by decide) _ (fun _ h => Option.some.inj h), hp2.keep (by decide), hp6.keep (by decide)⟩
                · have e9 : z 152 = .bool true := hz 9 _ (hw 9 (by kernel_rfl)) rfl
                  refine wpOp_want rfl (by simp [Region.wanted, yielded, e9]) ?_
                  go_simp
                  go_at_call 8
                  refine (Hwk6.out wx hx.out).mono ?_
                  rintro e w' ⟨rfl, hlo⟩
                  exact ⟨⟨by simp [hsz.out], hx.out.trans (hlo.mono hx.out.size)⟩, upd z 153 (.bool true), (by unfold Hid; simp [upd, e9]), hz.next apx hsz.out 10 (by decide) _ (fun _ h => Option.some.inj h), (hp2.keep (by decide)).map (fun h => h.later hlo), (hp6.keep (by decide)).map (fun h => h.later hlo)⟩
                · have e9 : z 152 = .bool true := hz 9 _ (hw 9 (by kernel_rfl)) rfl
                  have e10 : z 153 = .bool true := hz 10 _ (hw 10 (by kernel_rfl)) rfl
                  refine wpOp_plain rfl rfl ?_
                  go_simp
                  exact ⟨⟨by simp [hsz.out], hx.out⟩, upd z 154 (.bool true), (by unfold Hid; simp [upd, e9, e10]), hz.next apx hsz.out 11 (by decide) _ (fun _ h => Option.some.inj h), hp2.keep (by decide), hp6.keep (by decide)⟩
                · have e11 : z 154 = .bool true := hz 11 _ (hw 11 (by kernel_rfl)) rfl
                  refine wpOp_plain rfl rfl ?_
                  go_simp
                  exact ⟨⟨by simp [hsz.out], hx.out⟩, upd z 6 (.bool true), (by unfold Hid; simp [upd, e11]), hz.next apx hsz.out 12 (by decide) _ (fun _ h => Option.some.inj h), hp2.keep (by decide), hp6.keep (by decide)⟩
              · exact ⟨⟨rfl, (Below.refl _ _).drew⟩, fun xx => (#[Value.slice A k c, Value.slice B nb cb, Value.agg #[Value.string s, Value.int IntKind.i64 lv, Value.int IntKind.u64 ((cp : Nat) : Int), Value.int IntKind.u8 ((sc : Nat) : Int)], undef, undef, Value.pointer (some { block := w.heap.size, off := 0 }), u6, Value.slice Am i cm, u8, Value.int IntKind.i64 ((i : Nat) : Int), u10, u11, u12, Value.pointer (some { block := K1.g, off := 0 }), Value.slice (some { block := g1, off := 0 }) m1 m1, Value.pointer (some { block := K2.g, off := 0 }), Value.slice (some { block := g2, off := 0 }) m1 m1, Value.int IntKind.i64 ((j : Nat) : Int), Value.pointer (some { block := w.heap.size, off := 0 }), Value.string s, Value.int IntKind.i64 ((s.size : Nat) : Int), Value.bool false, undef, Value.int IntKind.i64 ((i : Nat) : Int), Value.slice A k c, Value.int IntKind.i64 ((k : Nat) : Int), Value.bool false, Value.bool false, undef, undef, Value.bool false, u31, u32, u33, u34, u35, u36, u37, u38, u39, u40, u41, u42, u43, u44, u45, u46, u47, u48, u49, u50, u51, u52, u53, u54, u55, u56, u57, u58, u59, u60, u61, u62, u63, u64, u65, u66, u67, u68, u69, u70, u71, u72, u73, u74, u75, u76, u77, u78, u79, u80, u81, u82, u83, u84, u85, u86, u87, Value.tuple #[Value.pointer (some { block := K1.g, off := 0 }), Value.slice (some { block := g1, off := 0 }) m1 m1], Value.slice A k c, Value.agg #[Value.int IntKind.u8 7, Value.int IntKind.u8 0, Value.int IntKind.u8 0, Value.int IntKind.u8 0, Value.int IntKind.u8 0, Value.int IntKind.u8 0, Value.int IntKind.u8 0, Value.int IntKind.u8 0, Value.int IntKind.u8 0, Value.int IntKind.u8 0, Value.int IntKind.u8 0, Value.int IntKind.u8 0, Value.int IntKind.u8 0, Value.int IntKind.u8 0, Value.int IntKind.u8 0, Value.int IntKind.u8 0, Value.int IntKind.u8 0, Value.int IntKind.u8 0, Value.int IntKind.u8 0, Value.int IntKind.u8 0, Value.int IntKind.u8 0, Value.int IntKind.u8 0, Value.int IntKind.u8 0, Value.int IntKind.u8 0, Value.int IntKind.u8 0, Value.int IntKind.u8 0, Value.int IntKind.u8 0, Value.int IntKind.u8 0, Value.int IntKind.u8 0, Value.int IntKind.u8 0, Value.int IntKind.u8 0, Value.int IntKind.u8 0], Value.agg #[Value.string s, Value.int IntKind.i64 lv, Value.int IntKind.u64 ((cp : Nat) : Int), Value.int IntKind.u8 ((sc : Nat) : Int)], Value.tuple #[Value.pointer (some { block := K1.g, off := 0 }), Value.slice (some { block := g1, off := 0 }) m1 m1], Value.pointer (some { block := K1.g, off := 0 }), Value.slice (some { block := g1, off := 0 }) m1 m1, Value.tuple #[Value.pointer (some { block := K2.g, off := 0 }), Value.slice (some { block := g2, off := 0 }) m1 m1], Value.slice Am i cm, Value.agg #[Value.int IntKind.u8 8, Value.int IntKind.u8 0, Value.int IntKind.u8 0, Value.int IntKind.u8 0, Value.int IntKind.u8 0, Value.int IntKind.u8 0, Value.int IntKind.u8 0, Value.int IntKind.u8 0, Value.int IntKind.u8 0, Value.int IntKind.u8 0, Value.int IntKind.u8 0, Value.int IntKind.u8 0, Value.int IntKind.u8 0, Value.int IntKind.u8 0, Value.int IntKind.u8 0, Value.int IntKind.u8 0, Value.int IntKind.u8 0, Value.int IntKind.u8 0, Value.int IntKind.u8 0, Value.int IntKind.u8 0, Value.int IntKind.u8 0, Value.int IntKind.u8 0, Value.int IntKind.u8 0, Value.int IntKind.u8 0, Value.int IntKind.u8 0, Value.int IntKind.u8 0, Value.int IntKind.u8 0, Value.int IntKind.u8 0, Value.int IntKind.u8 0, Value.int IntKind.u8 0, Value.int IntKind.u8 0, Value.int IntKind.u8 0], Value.agg #[Value.string s, Value.int IntKind.i64 lv, Value.int IntKind.u64 ((cp : Nat) : Int), Value.int IntKind.u8 ((sc : Nat) : Int)], Value.tuple #[Value.pointer (some { block := K2.g, off := 0 }), Value.slice (some { block := g2, off := 0 }) m1 m1], Value.pointer (some { block := K2.g, off := 0 }), Value.slice (some { block := g2, off := 0 }) m1 m1, Value.pointer (some { block := K1.g, off := 0 }), Value.bool false, Value.bool false, Value.pointer (some { block := K2.g, off := 0 }), Value.bool false, Value.bool false, Value.bool false, Value.slice (some { block := g1, off := 0 }) m1 m1, Value.int IntKind.i64 ((m1 : Nat) : Int), Value.slice (some { block := g2, off := 0 }) m1 m1, Value.int IntKind.i64 ((m1 : Nat) : Int), Value.bool false, Value.bool false, Value.int IntKind.i64 ((j : Nat) : Int), Value.slice (some { block := g1, off := 0 }) m1 m1, Value.int IntKind.i64 ((m1 : Nat) : Int), Value.bool false, u119, u120, u121, u122, u123, u124, u125, u126, u127, u128, u129, u130, u131, u132, u133, u134, u135, u136, u137, u138, u139, u140, u141, u142, undef, undef, undef, undef, undef, undef, undef, undef, undef, undef, undef, undef] : Array Value).getD xx undef, rfl, Holding.start, Whn.none (by decide), Whn.none (by decide)⟩
        · go_upto_region 18 with (go_at_call 13; refine (Hf1.out wr HMl.out).mono ?_; clear Hf1; rintro e w4 ⟨K1, D0, S0, D, S, V, g1, m1, B1, rfl, hm1, hr1, hk1, hB1, hsd1, hf01, hfl1⟩; have Hm1 := Lib.hid hm1; have Hr1 := Lib.hid hr1; have Hsd1 := Lib.hid hsd1; have Hf01 := Lib.hid hf01; have Hfl1 := Lib.hid hfl1; clear hm1 hr1 hk1 hB1 hsd1 hf01 hfl1 fW)
          have hlow4 := HMl.out.trans (Hsd1.out.low.mono HMl.out.size)
          obtain ⟨_, fW⟩ := Hfac.out w4 hlow4
          clear hlow4
          go_upto_region 19 with (go_at_call 13; refine (Hf2.out w4 Hsd1.out.low).mono ?_; clear Hf2; rintro e w5 ⟨K2, E0, T0, E, T, U, g2, m2, B2, rfl, hm2, hr2, hk2, hB2, hsd2, hf02, hfl2⟩; have Hm2 := Lib.hid hm2; have Hr2 := Lib.hid hr2; have Hsd2 := Lib.hid hsd2; have Hf02 := Lib.hid hf02; have Hfl2 := Lib.hid hfl2; clear hm2 hr2 hk2 hB2 hsd2 hf02 hfl2 fW)
          obtain ⟨R, Q, bs, hST⟩ := st_fill Hn9.out.1 Hf01.out Hf02.out Hfl1.out Hfl2.out Hpairs.out
          have HF := Lib.hid (FinS.of hST (Hsd1.out.later Hsd2.out.low) Hsd2.out (rows_below Hr1.out Hsd2.out.low) Hr2.out Hm1.out Hm2.out (by rw [Hfl1.out.secs]; exact Hn9.out) (by have := Hfl1.out.tn; rw [← Hiu.out] at this; omega))
          obtain rfl : m1 = m2 := HF.out.lens
          have HB5 := Lib.hid (HMl.out.trans ((Hsd1.out.low.trans (Hsd2.out.low.mono Hsd1.out.low.size)).mono HMl.out.size))
          clear hST Hm1 Hm2 Hr1 Hr2 Hsd1 Hsd2 Hf01 Hf02 Hfl1 Hfl2 Hpairs
          obtain ⟨iI, hiI, hzI, hsI, hbI⟩ := partsK infoInt
          have hm10 : m1 ≤ 10 := HF.out.few
          go_wp2
          go_loopw [8, 17] (fun v8 v17 wr => ∃ j : Nat, v17 = .int .i64 j ∧ j ≤ m1 ∧ Hid (wr.ownsRow w5.heap.size 3 1 v8 j (valsK .i64 ((bs.take j).map fun (b : Nat) => (b : Int))) ∧ Below w5.heap.size w5 wr)) (fun _ v _ => m1 - (intOf v).toNat)
          case atStart => exact ⟨0, rfl, Nat.zero_le _, World.ownsRow_nil _ _ _ _, Below.refl _ _⟩
          case round =>
            obtain ⟨j, rfl, hj, HI⟩ := hrel
            by_cases hjm : j < m1
            · have hjI : (j : Int) < (m1 : Int) := by omega
              obtain ⟨b, lx, ly, X, cx, Y, cy, hx, hy, hbx, hby, hxl, hyl, hnx⟩ := HF.out.at_ j hjm
              have Hcx := Lib.hid ((HI.out.2.cell (p := ⟨g1, j, none⟩) hx.1).trans hx.2)
              have Hcy := Lib.hid ((HI.out.2.cell (p := ⟨g2, j, none⟩) hy.1).trans hy.2)
              have Hbx : Hid (∀ W, Calls Tryz.prog 24 #[.int .i64 ((lx : Nat) : Int)] W fun e w' => e = .returned (.int .i64 ((b : Nat) : Int)) ∧ W = w') := fun W => by rw [hbx]; exact lbucket_any lx hxl W
              have Hby2 : Hid (∀ W, Calls Tryz.prog 24 #[.int .i64 ((ly : Nat) : Int)] W fun e w' => e = .returned (.int .i64 ((b : Nat) : Int)) ∧ W = w') := fun W => by rw [hby]; exact lbucket_any ly hyl W
              have HxB := Lib.hid (fun (W : World) (hW : Below w5.heap.size w5 W) => (hW.cell (p := ⟨g1, j, none⟩) hx.1).trans hx.2)
              have Hnx := Lib.hid hnx
              clear hx hy hbx hby hxl hyl hnx
              go_upto_region 24 with (fail)
              have apx : apartB [121, 122, 123, 124, 125, 126, 127, 128, 129, 130, 131, 132, 133] = true := by decide
              refine wp_region_any (by kernel_rfl) ?_
              change wpAny _ _ _ _ _ _ _ (World.drew _)
              refine wpAny_inv (fun ll aa wx => Hid (ll.size = 13 ∧ Below wr.heap.size wr wx) ∧ ∃ (z : Nat → Value), Hid (aa = ⟨#[Value.slice A k c, Value.slice B nb cb, Value.agg #[Value.string s, Value.int IntKind.i64 lv, Value.int IntKind.u64 ((cp : Nat) : Int), Value.int IntKind.u8 ((sc : Nat) : Int)], undef, undef, Value.pointer (some { block := w.heap.size, off := 0 }), u6, Value.slice Am i cm, u8, Value.int IntKind.i64 ((i : Nat) : Int), u10, u11, u12, Value.pointer (some { block := K1.g, off := 0 }), Value.slice (some { block := g1, off := 0 }) m1 m1, Value.pointer (some { block := K2.g, off := 0 }), Value.slice (some { block := g2, off := 0 }) m1 m1, Value.int IntKind.i64 ((j : Nat) : Int), Value.pointer (some { block := w.heap.size, off := 0 }), Value.string s, Value.int IntKind.i64 ((s.size : Nat) : Int), Value.bool false, undef, Value.int IntKind.i64 ((i : Nat) : Int), Value.slice A k c, Value.int IntKind.i64 ((k : Nat) : Int), Value.bool true, Value.bool true, Value.int IntKind.i64 ((i : Nat) : Int), Value.bool false, Value.bool false, u31, u32, u33, u34, u35, u36, u37, u38, u39, u40, u41, u42, u43, u44, u45, u46, u47, u48, u49, u50, u51, u52, u53, u54, u55, u56, u57, u58, u59, u60, u61, u62, u63, u64, u65, u66, u67, u68, u69, u70, u71, u72, u73, u74, u75, u76, u77, u78, u79, u80, u81, u82, u83, u84, u85, u86, u87, Value.tuple #[Value.pointer (some { block := K1.g, off := 0 }), Value.slice (some { block := g1, off := 0 }) m1 m1], Value.slice A k c, Value.agg #[Value.int IntKind.u8 7, Value.int IntKind.u8 0, Value.int IntKind.u8 0, Value.int IntKind.u8 0, Value.int IntKind.u8 0, Value.int IntKind.u8 0, Value.int IntKind.u8 0, Value.int IntKind.u8 0, Value.int IntKind.u8 0, Value.int IntKind.u8 0, Value.int IntKind.u8 0, Value.int IntKind.u8 0, Value.int IntKind.u8 0, Value.int IntKind.u8 0, Value.int IntKind.u8 0, Value.int IntKind.u8 0, Value.int IntKind.u8 0, Value.int IntKind.u8 0, Value.int IntKind.u8 0, Value.int IntKind.u8 0, Value.int IntKind.u8 0, Value.int IntKind.u8 0, Value.int IntKind.u8 0, Value.int IntKind.u8 0, Value.int IntKind.u8 0, Value.int IntKind.u8 0, Value.int IntKind.u8 0, Value.int IntKind.u8 0, Value.int IntKind.u8 0, Value.int IntKind.u8 0, Value.int IntKind.u8 0, Value.int IntKind.u8 0], Value.agg #[Value.string s, Value.int IntKind.i64 lv, Value.int IntKind.u64 ((cp : Nat) : Int), Value.int IntKind.u8 ((sc : Nat) : Int)], Value.tuple #[Value.pointer (some { block := K1.g, off := 0 }), Value.slice (some { block := g1, off := 0 }) m1 m1], Value.pointer (some { block := K1.g, off := 0 }), Value.slice (some { block := g1, off := 0 }) m1 m1, Value.tuple #[Value.pointer (some { block := K2.g, off := 0 }), Value.slice (some { block := g2, off := 0 }) m1 m1], Value.slice Am i cm, Value.agg #[Value.int IntKind.u8 8, Value.int IntKind.u8 0, Value.int IntKind.u8 0, Value.int IntKind.u8 0, Value.int IntKind.u8 0, Value.int IntKind.u8 0, Value.int IntKind.u8 0, Value.int IntKind.u8 0, Value.int IntKind.u8 0, Value.int IntKind.u8 0, Value.int IntKind.u8 0, Value.int IntKind.u8 0, Value.int IntKind.u8 0, Value.int IntKind.u8 0, Value.int IntKind.u8 0, Value.int IntKind.u8 0, Value.int IntKind.u8 0, Value.int IntKind.u8 0, Value.int IntKind.u8 0, Value.int IntKind.u8 0, Value.int IntKind.u8 0, Value.int IntKind.u8 0, Value.int IntKind.u8 0, Value.int IntKind.u8 0, Value.int IntKind.u8 0, Value.int IntKind.u8 0, Value.int IntKind.u8 0, Value.int IntKind.u8 0, Value.int IntKind.u8 0, Value.int IntKind.u8 0, Value.int IntKind.u8 0, Value.int IntKind.u8 0], Value.agg #[Value.string s, Value.int IntKind.i64 lv, Value.int IntKind.u64 ((cp : Nat) : Int), Value.int IntKind.u8 ((sc : Nat) : Int)], Value.tuple #[Value.pointer (some { block := K2.g, off := 0 }), Value.slice (some { block := g2, off := 0 }) m1 m1], Value.pointer (some { block := K2.g, off := 0 }), Value.slice (some { block := g2, off := 0 }) m1 m1, Value.pointer (some { block := K1.g, off := 0 }), Value.bool false, Value.bool false, Value.pointer (some { block := K2.g, off := 0 }), Value.bool false, Value.bool false, Value.bool false, Value.slice (some { block := g1, off := 0 }) m1 m1, Value.int IntKind.i64 ((m1 : Nat) : Int), Value.slice (some { block := g2, off := 0 }) m1 m1, Value.int IntKind.i64 ((m1 : Nat) : Int), Value.bool false, Value.bool false, Value.int IntKind.i64 ((j : Nat) : Int), Value.slice (some { block := g1, off := 0 }) m1 m1, Value.int IntKind.i64 ((m1 : Nat) : Int), Value.bool true, u119, u120, z 121, z 122, z 123, z 124, z 125, z 126, z 127, z 128, z 129, z 130, z 131, z 132, z 133, u134, u135, u136, u137, u138, u139, u140, u141, u142, undef, undef, undef, undef, undef, undef, undef, undef, undef, undef, undef, undef], []⟩) ∧ Holding [121, 122, 123, 124, 125, 126, 127, 128, 129, 130, 131, 132, 133] [some (.slice (some ⟨g1, 0, none⟩) m1 m1), some (.int .i64 ((j : Nat) : Int)), some (.pointer (some ⟨g1, j, none⟩)), some (.slice X lx cx), some (.int .i64 ((lx : Nat) : Int)), some (.int .i64 ((b : Nat) : Int)), some (.slice (some ⟨g2, 0, none⟩) m1 m1), some (.int .i64 ((j : Nat) : Int)), some (.pointer (some ⟨g2, j, none⟩)), some (.slice Y ly cy), some (.int .i64 ((ly : Nat) : Int)), some (.int .i64 ((b : Nat) : Int)), some (.bool false)] ll z) ?_ (by kernel_rfl) ?_ ?_ _ _ _ _ (unlisted_none _) ?_
              · rintro ll aa wx ⟨hI, _⟩
                exact hI.out.1
              · rintro ll aa wx ⟨hI, z, ha, hz⟩ hall
                have hx := Lib.hid hI.out.2
                have e0 : z 121 = .slice (some ⟨g1, 0, none⟩) m1 m1 := hz 0 _ (hall 0 (by decide)) rfl
                have e1 : z 122 = .int .i64 ((j : Nat) : Int) := hz 1 _ (hall 1 (by decide)) rfl
                have e2 : z 123 = .pointer (some ⟨g1, j, none⟩) := hz 2 _ (hall 2 (by decide)) rfl
                have e3 : z 124 = .slice X lx cx := hz 3 _ (hall 3 (by decide)) rfl
                have e4 : z 125 = .int .i64 ((lx : Nat) : Int) := hz 4 _ (hall 4 (by decide)) rfl
                have e5 : z 126 = .int .i64 ((b : Nat) : Int) := hz 5 _ (hall 5 (by decide)) rfl
                have e6 : z 127 = .slice (some ⟨g2, 0, none⟩) m1 m1 := hz 6 _ (hall 6 (by decide)) rfl
                have e7 : z 128 = .int .i64 ((j : Nat) : Int) := hz 7 _ (hall 7 (by decide)) rfl
                have e8 : z 129 = .pointer (some ⟨g2, j, none⟩) := hz 8 _ (hall 8 (by decide)) rfl
                have e9 : z 130 = .slice Y ly cy := hz 9 _ (hall 9 (by decide)) rfl
                have e10 : z 131 = .int .i64 ((ly : Nat) : Int) := hz 10 _ (hall 10 (by decide)) rfl
                have e11 : z 132 = .int .i64 ((b : Nat) : Int) := hz 11 _ (hall 11 (by decide)) rfl
                have e12 : z 133 = .bool false := hz 12 _ (hall 12 (by decide)) rfl
                clear hall hz hI 
                obtain rfl := ha.out
                clear ha
                clear apx
                have E := Lib.hid e12
                have HX4 := Lib.hid hx.out
                clear e0 e1 e2 e3 e4 e5 e6 e7 e8 e9 e10 e11 e12 hx
                rw [E.out]
                rename World => w6
                rename Nat → Value => zz
                have hI6 := HI.out.2.trans (HX4.out.mono HI.out.2.size)
                have HI6 := Lib.hid (And.intro (own_stays HI.out.1 HX4.out) hI6)
                have hcx6 := HxB.out w6 hI6
                clear hI6 HI Hcx Hcy
                go_wp2_with (first
                  | (go_at_call 24; refine (Hbx.out _).mono ?_; clear Hbx; rintro e w' ⟨rfl, rfl⟩)
                  | (at_builtin; refine wpList_append_mine rfl (.tmp 134) (.tmp 141) 66 rfl w5.heap.size 3 iI (.int .i64 0) 8 Tryz.underlying66 hiI hzI hsI hbI rfl (by decide) _ j _ ((b : Nat) : Int) rfl HI6.out.1 rfl (by omega) HI6.out.2.size ?_; intro v' w7 hG; have HG := Lib.hid hG; clear hG))
                go_roundw
                case rel => exact ⟨j + 1, by go_num, by omega, by rw [Hnx.out, List.map_append]; exact HG.out.own, HG.out.low _ _ HI6.out.2 (Nat.le_refl _)⟩
                case measure => simp [intOf]; omega
                
              · rintro ll aa wx i ⟨hI, z, ha, hz⟩ hi hu hw
                obtain rfl := ha.out
                have hsz := Lib.hid hI.out.1
                have hx := Lib.hid hI.out.2
                clear ha hI
                have hin : i < 13 := hi
                obtain rfl | rfl | rfl | rfl | rfl | rfl | rfl | rfl | rfl | rfl | rfl | rfl | rfl : i = 0 ∨ i = 1 ∨ i = 2 ∨ i = 3 ∨ i = 4 ∨ i = 5 ∨ i = 6 ∨ i = 7 ∨ i = 8 ∨ i = 9 ∨ i = 10 ∨ i = 11 ∨ i = 12 := by omega
                · refine wpOp_plain rfl rfl ?_
                  go_simp
                  exact ⟨⟨by simp [hsz.out], hx.out⟩, upd z 121 (.slice (some ⟨g1, 0, none⟩) m1 m1), (by unfold Hid; simp [upd]), hz.next apx hsz.out 0 (by decide) _ (fun _ h => Option.some.inj h)⟩
                · refine wpOp_plain rfl rfl ?_
                  go_simp
                  exact ⟨⟨by simp [hsz.out], hx.out⟩, upd z 122 (.int .i64 ((j : Nat) : Int)), (by unfold Hid; simp [upd]), hz.next apx hsz.out 1 (by decide) _ (fun _ h => Option.some.inj h)⟩
                · have e0 : z 121 = .slice (some ⟨g1, 0, none⟩) m1 m1 := hz 0 _ (hw 0 (by kernel_rfl)) rfl
                  have e1 : z 122 = .int .i64 ((j : Nat) : Int) := hz 1 _ (hw 1 (by kernel_rfl)) rfl
                  refine wpOp_plain rfl rfl ?_
                  go_simp
                  exact ⟨⟨by simp [hsz.out], hx.out⟩, upd z 123 (.pointer (some ⟨g1, j, none⟩)), (by unfold Hid; simp [upd, e0, e1]), hz.next apx hsz.out 2 (by decide) _ (fun _ h => Option.some.inj h)⟩
                · have e2 : z 123 = .pointer (some ⟨g1, j, none⟩) := hz 2 _ (hw 2 (by kernel_rfl)) rfl
                  have cl : wx.cell? ⟨g1, j, none⟩ = some (.slice X lx cx) := (hx.out.cell (p := ⟨g1, j, none⟩) (World.block_lt_of_cell? _ _ Hcx.out)).trans Hcx.out
                  refine wpOp_plain rfl rfl ?_
                  go_simp
                  exact ⟨⟨by simp [hsz.out], hx.out⟩, upd z 124 (.slice X lx cx), (by unfold Hid; simp [upd, e2]), hz.next apx hsz.out 3 (by decide) _ (fun _ h => Option.some.inj h)⟩
                · have e3 : z 124 = .slice X lx cx := hz 3 _ (hw 3 (by kernel_rfl)) rfl
                  refine wpOp_plain rfl rfl ?_
                  go_simp
                  exact ⟨⟨by simp [hsz.out], hx.out⟩, upd z 125 (.int .i64 ((lx : Nat) : Int)), (by unfold Hid; simp [upd, e3]), hz.next apx hsz.out 4 (by decide) _ (fun _ h => Option.some.inj h)⟩
                · have e4 : z 125 = .int .i64 ((lx : Nat) : Int) := hz 4 _ (hw 4 (by kernel_rfl)) rfl
                  refine wpOp_plain rfl rfl ?_
                  go_simp
                  go_at_call 24
                  refine (Hbx.out _).mono ?_
                  rintro e w' ⟨rfl, rfl⟩
                  exact ⟨⟨by simp [hsz.out], hx.out⟩, upd z 126 (.int .i64 ((b : Nat) : Int)), (by unfold Hid; simp [upd, e4]), hz.next apx hsz.out 5 (by decide) _ (fun _ h => Option.some.inj h)⟩
                · refine wpOp_plain rfl rfl ?_
                  go_simp
                  exact ⟨⟨by simp [hsz.out], hx.out⟩, upd z 127 (.slice (some ⟨g2, 0, none⟩) m1 m1), (by unfold Hid; simp [upd]), hz.next apx hsz.out 6 (by decide) _ (fun _ h => Option.some.inj h)⟩
                · refine wpOp_plain rfl rfl ?_
                  go_simp
                  exact ⟨⟨by simp [hsz.out], hx.out⟩, upd z 128 (.int .i64 ((j : Nat) : Int)), (by unfold Hid; simp [upd]), hz.next apx hsz.out 7 (by decide) _ (fun _ h => Option.some.inj h)⟩
                · have e6 : z 127 = .slice (some ⟨g2, 0, none⟩) m1 m1 := hz 6 _ (hw 6 (by kernel_rfl)) rfl
                  have e7 : z 128 = .int .i64 ((j : Nat) : Int) := hz 7 _ (hw 7 (by kernel_rfl)) rfl
                  refine wpOp_plain rfl rfl ?_
                  go_simp
                  exact ⟨⟨by simp [hsz.out], hx.out⟩, upd z 129 (.pointer (some ⟨g2, j, none⟩)), (by unfold Hid; simp [upd, e6, e7]), hz.next apx hsz.out 8 (by decide) _ (fun _ h => Option.some.inj h)⟩
                · have e8 : z 129 = .pointer (some ⟨g2, j, none⟩) := hz 8 _ (hw 8 (by kernel_rfl)) rfl
                  have cl : wx.cell? ⟨g2, j, none⟩ = some (.slice Y ly cy) := (hx.out.cell (p := ⟨g2, j, none⟩) (World.block_lt_of_cell? _ _ Hcy.out)).trans Hcy.out
                  refine wpOp_plain rfl rfl ?_
                  go_simp
                  exact ⟨⟨by simp [hsz.out], hx.out⟩, upd z 130 (.slice Y ly cy), (by unfold Hid; simp [upd, e8]), hz.next apx hsz.out 9 (by decide) _ (fun _ h => Option.some.inj h)⟩
                · have e9 : z 130 = .slice Y ly cy := hz 9 _ (hw 9 (by kernel_rfl)) rfl
                  refine wpOp_plain rfl rfl ?_
                  go_simp
                  exact ⟨⟨by simp [hsz.out], hx.out⟩, upd z 131 (.int .i64 ((ly : Nat) : Int)), (by unfold Hid; simp [upd, e9]), hz.next apx hsz.out 10 (by decide) _ (fun _ h => Option.some.inj h)⟩
                · have e10 : z 131 = .int .i64 ((ly : Nat) : Int) := hz 10 _ (hw 10 (by kernel_rfl)) rfl
                  refine wpOp_plain rfl rfl ?_
                  go_simp
                  go_at_call 24
                  refine (Hby2.out _).mono ?_
                  rintro e w' ⟨rfl, rfl⟩
                  exact ⟨⟨by simp [hsz.out], hx.out⟩, upd z 132 (.int .i64 ((b : Nat) : Int)), (by unfold Hid; simp [upd, e10]), hz.next apx hsz.out 11 (by decide) _ (fun _ h => Option.some.inj h)⟩
                · have e5 : z 126 = .int .i64 ((b : Nat) : Int) := hz 5 _ (hw 5 (by kernel_rfl)) rfl
                  have e11 : z 132 = .int .i64 ((b : Nat) : Int) := hz 11 _ (hw 11 (by kernel_rfl)) rfl
                  refine wpOp_plain rfl rfl ?_
                  go_simp
                  exact ⟨⟨by simp [hsz.out], hx.out⟩, upd z 133 (.bool false), (by unfold Hid; simp [upd, e5, e11]), hz.next apx hsz.out 12 (by decide) _ (fun _ h => Option.some.inj h)⟩
              · exact ⟨⟨rfl, (Below.refl _ _).drew⟩, fun xx => (#[Value.slice A k c, Value.slice B nb cb, Value.agg #[Value.string s, Value.int IntKind.i64 lv, Value.int IntKind.u64 ((cp : Nat) : Int), Value.int IntKind.u8 ((sc : Nat) : Int)], undef, undef, Value.pointer (some { block := w.heap.size, off := 0 }), u6, Value.slice Am i cm, u8, Value.int IntKind.i64 ((i : Nat) : Int), u10, u11, u12, Value.pointer (some { block := K1.g, off := 0 }), Value.slice (some { block := g1, off := 0 }) m1 m1, Value.pointer (some { block := K2.g, off := 0 }), Value.slice (some { block := g2, off := 0 }) m1 m1, Value.int IntKind.i64 ((j : Nat) : Int), Value.pointer (some { block := w.heap.size, off := 0 }), Value.string s, Value.int IntKind.i64 ((s.size : Nat) : Int), Value.bool false, undef, Value.int IntKind.i64 ((i : Nat) : Int), Value.slice A k c, Value.int IntKind.i64 ((k : Nat) : Int), Value.bool true, Value.bool true, Value.int IntKind.i64 ((i : Nat) : Int), Value.bool false, Value.bool false, u31, u32, u33, u34, u35, u36, u37, u38, u39, u40, u41, u42, u43, u44, u45, u46, u47, u48, u49, u50, u51, u52, u53, u54, u55, u56, u57, u58, u59, u60, u61, u62, u63, u64, u65, u66, u67, u68, u69, u70, u71, u72, u73, u74, u75, u76, u77, u78, u79, u80, u81, u82, u83, u84, u85, u86, u87, Value.tuple #[Value.pointer (some { block := K1.g, off := 0 }), Value.slice (some { block := g1, off := 0 }) m1 m1], Value.slice A k c, Value.agg #[Value.int IntKind.u8 7, Value.int IntKind.u8 0, Value.int IntKind.u8 0, Value.int IntKind.u8 0, Value.int IntKind.u8 0, Value.int IntKind.u8 0, Value.int IntKind.u8 0, Value.int IntKind.u8 0, Value.int IntKind.u8 0, Value.int IntKind.u8 0, Value.int IntKind.u8 0, Value.int IntKind.u8 0, Value.int IntKind.u8 0, Value.int IntKind.u8 0, Value.int IntKind.u8 0, Value.int IntKind.u8 0, Value.int IntKind.u8 0, Value.int IntKind.u8 0, Value.int IntKind.u8 0, Value.int IntKind.u8 0, Value.int IntKind.u8 0, Value.int IntKind.u8 0, Value.int IntKind.u8 0, Value.int IntKind.u8 0, Value.int IntKind.u8 0, Value.int IntKind.u8 0, Value.int IntKind.u8 0, Value.int IntKind.u8 0, Value.int IntKind.u8 0, Value.int IntKind.u8 0, Value.int IntKind.u8 0, Value.int IntKind.u8 0], Value.agg #[Value.string s, Value.int IntKind.i64 lv, Value.int IntKind.u64 ((cp : Nat) : Int), Value.int IntKind.u8 ((sc : Nat) : Int)], Value.tuple #[Value.pointer (some { block := K1.g, off := 0 }), Value.slice (some { block := g1, off := 0 }) m1 m1], Value.pointer (some { block := K1.g, off := 0 }), Value.slice (some { block := g1, off := 0 }) m1 m1, Value.tuple #[Value.pointer (some { block := K2.g, off := 0 }), Value.slice (some { block := g2, off := 0 }) m1 m1], Value.slice Am i cm, Value.agg #[Value.int IntKind.u8 8, Value.int IntKind.u8 0, Value.int IntKind.u8 0, Value.int IntKind.u8 0, Value.int IntKind.u8 0, Value.int IntKind.u8 0, Value.int IntKind.u8 0, Value.int IntKind.u8 0, Value.int IntKind.u8 0, Value.int IntKind.u8 0, Value.int IntKind.u8 0, Value.int IntKind.u8 0, Value.int IntKind.u8 0, Value.int IntKind.u8 0, Value.int IntKind.u8 0, Value.int IntKind.u8 0, Value.int IntKind.u8 0, Value.int IntKind.u8 0, Value.int IntKind.u8 0, Value.int IntKind.u8 0, Value.int IntKind.u8 0, Value.int IntKind.u8 0, Value.int IntKind.u8 0, Value.int IntKind.u8 0, Value.int IntKind.u8 0, Value.int IntKind.u8 0, Value.int IntKind.u8 0, Value.int IntKind.u8 0, Value.int IntKind.u8 0, Value.int IntKind.u8 0, Value.int IntKind.u8 0, Value.int IntKind.u8 0], Value.agg #[Value.string s, Value.int IntKind.i64 lv, Value.int IntKind.u64 ((cp : Nat) : Int), Value.int IntKind.u8 ((sc : Nat) : Int)], Value.tuple #[Value.pointer (some { block := K2.g, off := 0 }), Value.slice (some { block := g2, off := 0 }) m1 m1], Value.pointer (some { block := K2.g, off := 0 }), Value.slice (some { block := g2, off := 0 }) m1 m1, Value.pointer (some { block := K1.g, off := 0 }), Value.bool false, Value.bool false, Value.pointer (some { block := K2.g, off := 0 }), Value.bool false, Value.bool false, Value.bool false, Value.slice (some { block := g1, off := 0 }) m1 m1, Value.int IntKind.i64 ((m1 : Nat) : Int), Value.slice (some { block := g2, off := 0 }) m1 m1, Value.int IntKind.i64 ((m1 : Nat) : Int), Value.bool false, Value.bool false, Value.int IntKind.i64 ((j : Nat) : Int), Value.slice (some { block := g1, off := 0 }) m1 m1, Value.int IntKind.i64 ((m1 : Nat) : Int), Value.bool true, u119, u120, u121, u122, u123, u124, u125, u126, u127, u128, u129, u130, u131, u132, u133, u134, u135, u136, u137, u138, u139, u140, u141, u142, undef, undef, undef, undef, undef, undef, undef, undef, undef, undef, undef, undef] : Array Value).getD xx undef, rfl, Holding.start⟩
            · have hjI : ¬ (j : Int) < (m1 : Int) := by omega
              have hjl : bs.take j = bs := List.take_of_length_le (by rw [HF.out.blen]; omega)
              have hrd : RdI bs u8 wr := by
                have h := HI.out.1
                rw [hjl] at h
                exact rdI_of h (by rw [HF.out.blen]; omega)
              have HRd := Lib.hid hrd
              have HFw := Lib.hid (HF.out.later HI.out.2)
              have HB6 := Lib.hid (HB5.out.trans (HI.out.2.mono HB5.out.size))
              obtain ⟨Z, hZ⟩ : ∃ Z, Z = zsL D.data (inZ 1024 bs) := ⟨_, rfl⟩
              have Hsh1 : Hid (∀ W, Below wr.heap.size wr W → Calls Tryz.prog 25 #[.pointer (some ⟨K1.g, 0, none⟩), u8] W fun e w' => ∃ z, e = .returned z ∧ SlB Z z w' ∧ Below W.heap.size W w') := fun W hW => by rw [hZ]; exact HFw.out.shape1 (RdI.later HRd.out hW) hW
              have Hsh2 : Hid (∀ W, Below wr.heap.size wr W → Calls Tryz.prog 25 #[.pointer (some ⟨K2.g, 0, none⟩), u8] W fun e w' => ∃ z, e = .returned z ∧ SlB Z z w' ∧ Below W.heap.size W w') := fun W hW => by rw [hZ]; exact HFw.out.shape2 (RdI.later HRd.out hW) hW
              obtain ⟨sz, hsz⟩ : ∃ sz, sz = strOfNums Z := ⟨_, rfl⟩
              have Hcv : Hid (∀ W z, SlB Z z W → (convert 38 9 z).run Tryz.prog W = .ok (.string sz) W) := fun W z ⟨Az, cz, hz, hB⟩ => by rw [hz, hsz]; exact Str.conv_any hB rfl
              have Hwk6 : Hid (∀ W, Below wr.heap.size wr W → Calls Tryz.prog 8 #[] W fun e w' => e = .returned (.bool true) ∧ Below W.heap.size W w') := fun W hW => Hwk.out W (HB6.out.trans (hW.mono HB6.out.size))
              clear hrd hZ hsz HI hjl
              go_upto_region 27 with (fail)
              have apx : apartB [143, 144, 145, 146, 147, 148, 149, 150, 151, 152, 153, 154, 6] = true := by decide
              refine wp_region_any (by kernel_rfl) ?_
              change wpAny _ _ _ _ _ _ _ (World.drew _)
              refine wpAny_inv (fun ll aa wx => Hid (ll.size = 13 ∧ Below wr.heap.size wr wx) ∧ ∃ (z : Nat → Value), Hid (aa = ⟨#[Value.slice A k c, Value.slice B nb cb, Value.agg #[Value.string s, Value.int IntKind.i64 lv, Value.int IntKind.u64 ((cp : Nat) : Int), Value.int IntKind.u8 ((sc : Nat) : Int)], undef, undef, Value.pointer (some { block := w.heap.size, off := 0 }), z 6, Value.slice Am i cm, u8, Value.int IntKind.i64 ((i : Nat) : Int), u10, u11, u12, Value.pointer (some { block := K1.g, off := 0 }), Value.slice (some { block := g1, off := 0 }) m1 m1, Value.pointer (some { block := K2.g, off := 0 }), Value.slice (some { block := g2, off := 0 }) m1 m1, Value.int IntKind.i64 ((j : Nat) : Int), Value.pointer (some { block := w.heap.size, off := 0 }), Value.string s, Value.int IntKind.i64 ((s.size : Nat) : Int), Value.bool false, undef, Value.int IntKind.i64 ((i : Nat) : Int), Value.slice A k c, Value.int IntKind.i64 ((k : Nat) : Int), Value.bool true, Value.bool true, Value.int IntKind.i64 ((i : Nat) : Int), Value.bool false, Value.bool false, u31, u32, u33, u34, u35, u36, u37, u38, u39, u40, u41, u42, u43, u44, u45, u46, u47, u48, u49, u50, u51, u52, u53, u54, u55, u56, u57, u58, u59, u60, u61, u62, u63, u64, u65, u66, u67, u68, u69, u70, u71, u72, u73, u74, u75, u76, u77, u78, u79, u80, u81, u82, u83, u84, u85, u86, u87, Value.tuple #[Value.pointer (some { block := K1.g, off := 0 }), Value.slice (some { block := g1, off := 0 }) m1 m1], Value.slice A k c, Value.agg #[Value.int IntKind.u8 7, Value.int IntKind.u8 0, Value.int IntKind.u8 0, Value.int IntKind.u8 0, Value.int IntKind.u8 0, Value.int IntKind.u8 0, Value.int IntKind.u8 0, Value.int IntKind.u8 0, Value.int IntKind.u8 0, Value.int IntKind.u8 0, Value.int IntKind.u8 0, Value.int IntKind.u8 0, Value.int IntKind.u8 0, Value.int IntKind.u8 0, Value.int IntKind.u8 0, Value.int IntKind.u8 0, Value.int IntKind.u8 0, Value.int IntKind.u8 0, Value.int IntKind.u8 0, Value.int IntKind.u8 0, Value.int IntKind.u8 0, Value.int IntKind.u8 0, Value.int IntKind.u8 0, Value.int IntKind.u8 0, Value.int IntKind.u8 0, Value.int IntKind.u8 0, Value.int IntKind.u8 0, Value.int IntKind.u8 0, Value.int IntKind.u8 0, Value.int IntKind.u8 0, Value.int IntKind.u8 0, Value.int IntKind.u8 0], Value.agg #[Value.string s, Value.int IntKind.i64 lv, Value.int IntKind.u64 ((cp : Nat) : Int), Value.int IntKind.u8 ((sc : Nat) : Int)], Value.tuple #[Value.pointer (some { block := K1.g, off := 0 }), Value.slice (some { block := g1, off := 0 }) m1 m1], Value.pointer (some { block := K1.g, off := 0 }), Value.slice (some { block := g1, off := 0 }) m1 m1, Value.tuple #[Value.pointer (some { block := K2.g, off := 0 }), Value.slice (some { block := g2, off := 0 }) m1 m1], Value.slice Am i cm, Value.agg #[Value.int IntKind.u8 8, Value.int IntKind.u8 0, Value.int IntKind.u8 0, Value.int IntKind.u8 0, Value.int IntKind.u8 0, Value.int IntKind.u8 0, Value.int IntKind.u8 0, Value.int IntKind.u8 0, Value.int IntKind.u8 0, Value.int IntKind.u8 0, Value.int IntKind.u8 0, Value.int IntKind.u8 0, Value.int IntKind.u8 0, Value.int IntKind.u8 0, Value.int IntKind.u8 0, Value.int IntKind.u8 0, Value.int IntKind.u8 0, Value.int IntKind.u8 0, Value.int IntKind.u8 0, Value.int IntKind.u8 0, Value.int IntKind.u8 0, Value.int IntKind.u8 0, Value.int IntKind.u8 0, Value.int IntKind.u8 0, Value.int IntKind.u8 0, Value.int IntKind.u8 0, Value.int IntKind.u8 0, Value.int IntKind.u8 0, Value.int IntKind.u8 0, Value.int IntKind.u8 0, Value.int IntKind.u8 0, Value.int IntKind.u8 0], Value.agg #[Value.string s, Value.int IntKind.i64 lv, Value.int IntKind.u64 ((cp : Nat) : Int), Value.int IntKind.u8 ((sc : Nat) : Int)], Value.tuple #[Value.pointer (some { block := K2.g, off := 0 }), Value.slice (some { block := g2, off := 0 }) m1 m1], Value.pointer (some { block := K2.g, off := 0 }), Value.slice (some { block := g2, off := 0 }) m1 m1, Value.pointer (some { block := K1.g, off := 0 }), Value.bool false, Value.bool false, Value.pointer (some { block := K2.g, off := 0 }), Value.bool false, Value.bool false, Value.bool false, Value.slice (some { block := g1, off := 0 }) m1 m1, Value.int IntKind.i64 ((m1 : Nat) : Int), Value.slice (some { block := g2, off := 0 }) m1 m1, Value.int IntKind.i64 ((m1 : Nat) : Int), Value.bool false, Value.bool false, Value.int IntKind.i64 ((j : Nat) : Int), Value.slice (some { block := g1, off := 0 }) m1 m1, Value.int IntKind.i64 ((m1 : Nat) : Int), Value.bool false, u119, u120, u121, u122, u123, u124, u125, u126, u127, u128, u129, u130, u131, u132, u133, u134, u135, u136, u137, u138, u139, u140, u141, u142, z 143, z 144, z 145, z 146, z 147, z 148, z 149, z 150, z 151, z 152, z 153, z 154], []⟩) ∧ Holding [143, 144, 145, 146, 147, 148, 149, 150, 151, 152, 153, 154, 6] [some (.pointer (some ⟨K1.g, 0, none⟩)), some (u8), none, some (.string sz), some (.pointer (some ⟨K2.g, 0, none⟩)), some (u8), none, some (.string sz), some (.bool true), some (.bool true), some (.bool true), some (.bool true), some (.bool true)] ll z ∧ Whn ll 2 (fun z w => SlB Z z w) (z 145) wx ∧ Whn ll 6 (fun z w => SlB Z z w) (z 149) wx) ?_ (by kernel_rfl) ?_ ?_ _ _ _ _ (unlisted_none _) ?_
              · rintro ll aa wx ⟨hI, _⟩
                exact hI.out.1
              · rintro ll aa wx ⟨hI, z, ha, hz, hp2, hp6⟩ hall
                have hx := Lib.hid hI.out.2
                have e0 : z 143 = .pointer (some ⟨K1.g, 0, none⟩) := hz 0 _ (hall 0 (by decide)) rfl
                have e1 : z 144 = u8 := hz 1 _ (hall 1 (by decide)) rfl
                have e3 : z 146 = .string sz := hz 3 _ (hall 3 (by decide)) rfl
                have e4 : z 147 = .pointer (some ⟨K2.g, 0, none⟩) := hz 4 _ (hall 4 (by decide)) rfl
                have e5 : z 148 = u8 := hz 5 _ (hall 5 (by decide)) rfl
                have e7 : z 150 = .string sz := hz 7 _ (hall 7 (by decide)) rfl
                have e8 : z 151 = .bool true := hz 8 _ (hall 8 (by decide)) rfl
                have e9 : z 152 = .bool true := hz 9 _ (hall 9 (by decide)) rfl
                have e10 : z 153 = .bool true := hz 10 _ (hall 10 (by decide)) rfl
                have e11 : z 154 = .bool true := hz 11 _ (hall 11 (by decide)) rfl
                have e12 : z 6 = .bool true := hz 12 _ (hall 12 (by decide)) rfl
                have p2 := hp2.get (hall 2 (by decide))
                have p6 := hp6.get (hall 6 (by decide))
                clear hall hz hI hp2 hp6
                obtain rfl := ha.out
                clear ha
                clear apx
                have E := Lib.hid e12
                have HX7 := Lib.hid hx.out
                clear e0 e1 e3 e4 e5 e7 e8 e9 e10 e11 e12 hx p2 p6
                rw [E.out]
                go_wp2
                go_ret
                exact ⟨rfl, HB1.out.trans ((HB6.out.trans (HX7.out.mono HB6.out.size)).mono HB1.out.size)⟩
              · rintro ll aa wx i ⟨hI, z, ha, hz, hp2, hp6⟩ hi hu hw
                obtain rfl := ha.out
                have hsz := Lib.hid hI.out.1
                have hx := Lib.hid hI.out.2
                clear ha hI
                have hin : i < 13 := hi
                obtain rfl | rfl | rfl | rfl | rfl | rfl | rfl | rfl | rfl | rfl | rfl | rfl | rfl : i = 0 ∨ i = 1 ∨ i = 2 ∨ i = 3 ∨ i = 4 ∨ i = 5 ∨ i = 6 ∨ i = 7 ∨ i = 8 ∨ i = 9 ∨ i = 10 ∨ i = 11 ∨ i = 12 := by omega
                · refine wpOp_plain rfl rfl ?_
                  go_simp
                  exact ⟨⟨by simp [hsz.out], hx.out⟩, upd z 143 (.pointer (some ⟨K1.g, 0, none⟩)), (by unfold Hid; simp [upd]), hz.next apx hsz.out 0 (by decide) _ (fun _ h => Option.some.inj h), hp2.keep (by decide), hp6.keep (by decide)⟩
                · refine wpOp_plain rfl rfl ?_
                  go_simp
                  exact ⟨⟨by simp [hsz.out], hx.out⟩, upd z 144 (u8), (by unfold Hid; simp [upd]), hz.next apx hsz.out 1 (by decide) _ (fun _ h => Option.some.inj h), hp2.keep (by decide), hp6.keep (by decide)⟩
                · have e0 : z 143 = .pointer (some ⟨K1.g, 0, none⟩) := hz 0 _ (hw 0 (by kernel_rfl)) rfl
                  have e1 : z 144 = u8 := hz 1 _ (hw 1 (by kernel_rfl)) rfl
                  refine wpOp_plain rfl rfl ?_
                  go_simp
                  go_at_call 25
                  refine (Hsh1.out wx hx.out).mono ?_
                  rintro e w' ⟨vr, rfl, hsl, hlo⟩
                  exact ⟨⟨by simp [hsz.out], hx.out.trans (hlo.mono hx.out.size)⟩, upd z 145 (vr), (by unfold Hid; simp [upd, e0, e1]), hz.next apx hsz.out 2 (by decide) _ (fun _ h => by cases h), Whn.done (hsl), (hp6.keep (by decide)).map (fun h => h.later hlo)⟩
                · have p2 := hp2.get (hw 2 (by kernel_rfl))
                  have hcv := Hcv.out wx _ p2
                  refine wpOp_plain rfl rfl ?_
                  go_simp
                  exact ⟨⟨by simp [hsz.out], hx.out⟩, upd z 146 (.string sz), (by unfold Hid; simp [upd]), hz.next apx hsz.out 3 (by decide) _ (fun _ h => Option.some.inj h), hp2.keep (by decide), hp6.keep (by decide)⟩
                · refine wpOp_plain rfl rfl ?_
                  go_simp
                  exact ⟨⟨by simp [hsz.out], hx.out⟩, upd z 147 (.pointer (some ⟨K2.g, 0, none⟩)), (by unfold Hid; simp [upd]), hz.next apx hsz.out 4 (by decide) _ (fun _ h => Option.some.inj h), hp2.keep (by decide), hp6.keep (by decide)⟩
                · refine wpOp_plain rfl rfl ?_
                  go_simp
                  exact ⟨⟨by simp [hsz.out], hx.out⟩, upd z 148 (u8), (by unfold Hid; simp [upd]), hz.next apx hsz.out 5 (by decide) _ (fun _ h => Option.some.inj h), hp2.keep (by decide), hp6.keep (by decide)⟩
                · have e4 : z 147 = .pointer (some ⟨K2.g, 0, none⟩) := hz 4 _ (hw 4 (by kernel_rfl)) rfl
                  have e5 : z 148 = u8 := hz 5 _ (hw 5 (by kernel_rfl)) rfl
                  refine wpOp_plain rfl rfl ?_
                  go_simp
                  go_at_call 25
                  refine (Hsh2.out wx hx.out).mono ?_
                  rintro e w' ⟨vr, rfl, hsl, hlo⟩
                  exact ⟨⟨by simp [hsz.out], hx.out.trans (hlo.mono hx.out.size)⟩, upd z 149 (vr), (by unfold Hid; simp [upd, e4, e5]), hz.next apx hsz.out 6 (by decide) _ (fun _ h => by cases h), (hp2.keep (by decide)).map (fun h => h.later hlo), Whn.done (hsl)⟩
                · have p6 := hp6.get (hw 6 (by kernel_rfl))
                  have hcv := Hcv.out wx _ p6
                  refine wpOp_plain rfl rfl ?_
                  go_simp
                  exact ⟨⟨by simp [hsz.out], hx.out⟩, upd z 150 (.string sz), (by unfold Hid; simp [upd]), hz.next apx hsz.out 7 (by decide) _ (fun _ h => Option.some.inj h), hp2.keep (by decide), hp6.keep (by decide)⟩
                · have e3 : z 146 = .string sz := hz 3 _ (hw 3 (by kernel_rfl)) rfl
                  have e7 : z 150 = .string sz := hz 7 _ (hw 7 (by kernel_rfl)) rfl
                  refine wpOp_plain rfl rfl ?_
                  go_simp
                  exact ⟨⟨by simp [hsz.out], hx.out⟩, upd z 151 (.bool true), (by unfold Hid; simp [upd, e3, e7]), hz.next apx hsz.out 8 (by decide) _ (fun _ h => Option.some.inj h), hp2.keep (by decide), hp6.keep (by decide)⟩
                · have e8 : z 151 = .bool true := hz 8 _ (hw 8 (by kernel_rfl)) rfl
                  refine wpOp_plain rfl rfl ?_
                  go_simp
                  exact ⟨⟨by simp [hsz.out], hx.out⟩, upd z 152 (.bool true), (by unfold Hid; simp [upd, e8]), hz.next apx hsz.out 9 (by decide) _ (fun _ h => Option.some.inj h), hp2.keep (by decide), hp6.keep (by decide)⟩
                · have e9 : z 152 = .bool true := hz 9 _ (hw 9 (by kernel_rfl)) rfl
                  refine wpOp_want rfl (by simp [Region.wanted, yielded, e9]) ?_
                  go_simp
                  go_at_call 8
                  refine (Hwk6.out wx hx.out).mono ?_
                  rintro e w' ⟨rfl, hlo⟩
                  exact ⟨⟨by simp [hsz.out], hx.out.trans (hlo.mono hx.out.size)⟩, upd z 153 (.bool true), (by unfold Hid; simp [upd, e9]), hz.next apx hsz.out 10 (by decide) _ (fun _ h => Option.some.inj h), (hp2.keep (by decide)).map (fun h => h.later hlo), (hp6.keep (by decide)).map (fun h => h.later hlo)⟩
                · have e9 : z 152 = .bool true := hz 9 _ (hw 9 (by kernel_rfl)) rfl
                  have e10 : z 153 = .bool true := hz 10 _ (hw 10 (by kernel_rfl)) rfl
                  refine wpOp_plain rfl rfl ?_
                  go_simp
                  exact ⟨⟨by simp [hsz.out], hx.out⟩, upd z 154 (.bool true), (by unfold Hid; simp [upd, e9, e10]), hz.next apx hsz.out 11 (by decide) _ (fun _ h => Option.some.inj h), hp2.keep (by decide), hp6.keep (by decide)⟩
                · have e11 : z 154 = .bool true := hz 11 _ (hw 11 (by kernel_rfl)) rfl
                  refine wpOp_plain rfl rfl ?_
                  go_simp
                  exact ⟨⟨by simp [hsz.out], hx.out⟩, upd z 6 (.bool true), (by unfold Hid; simp [upd, e11]), hz.next apx hsz.out 12 (by decide) _ (fun _ h => Option.some.inj h), hp2.keep (by decide), hp6.keep (by decide)⟩
              · exact ⟨⟨rfl, (Below.refl _ _).drew⟩, fun xx => (#[Value.slice A k c, Value.slice B nb cb, Value.agg #[Value.string s, Value.int IntKind.i64 lv, Value.int IntKind.u64 ((cp : Nat) : Int), Value.int IntKind.u8 ((sc : Nat) : Int)], undef, undef, Value.pointer (some { block := w.heap.size, off := 0 }), u6, Value.slice Am i cm, u8, Value.int IntKind.i64 ((i : Nat) : Int), u10, u11, u12, Value.pointer (some { block := K1.g, off := 0 }), Value.slice (some { block := g1, off := 0 }) m1 m1, Value.pointer (some { block := K2.g, off := 0 }), Value.slice (some { block := g2, off := 0 }) m1 m1, Value.int IntKind.i64 ((j : Nat) : Int), Value.pointer (some { block := w.heap.size, off := 0 }), Value.string s, Value.int IntKind.i64 ((s.size : Nat) : Int), Value.bool false, undef, Value.int IntKind.i64 ((i : Nat) : Int), Value.slice A k c, Value.int IntKind.i64 ((k : Nat) : Int), Value.bool true, Value.bool true, Value.int IntKind.i64 ((i : Nat) : Int), Value.bool false, Value.bool false, u31, u32, u33, u34, u35, u36, u37, u38, u39, u40, u41, u42, u43, u44, u45, u46, u47, u48, u49, u50, u51, u52, u53, u54, u55, u56, u57, u58, u59, u60, u61, u62, u63, u64, u65, u66, u67, u68, u69, u70, u71, u72, u73, u74, u75, u76, u77, u78, u79, u80, u81, u82, u83, u84, u85, u86, u87, Value.tuple #[Value.pointer (some { block := K1.g, off := 0 }), Value.slice (some { block := g1, off := 0 }) m1 m1], Value.slice A k c, Value.agg #[Value.int IntKind.u8 7, Value.int IntKind.u8 0, Value.int IntKind.u8 0, Value.int IntKind.u8 0, Value.int IntKind.u8 0, Value.int IntKind.u8 0, Value.int IntKind.u8 0, Value.int IntKind.u8 0, Value.int IntKind.u8 0, Value.int IntKind.u8 0, Value.int IntKind.u8 0, Value.int IntKind.u8 0, Value.int IntKind.u8 0, Value.int IntKind.u8 0, Value.int IntKind.u8 0, Value.int IntKind.u8 0, Value.int IntKind.u8 0, Value.int IntKind.u8 0, Value.int IntKind.u8 0, Value.int IntKind.u8 0, Value.int IntKind.u8 0, Value.int IntKind.u8 0, Value.int IntKind.u8 0, Value.int IntKind.u8 0, Value.int IntKind.u8 0, Value.int IntKind.u8 0, Value.int IntKind.u8 0, Value.int IntKind.u8 0, Value.int IntKind.u8 0, Value.int IntKind.u8 0, Value.int IntKind.u8 0, Value.int IntKind.u8 0], Value.agg #[Value.string s, Value.int IntKind.i64 lv, Value.int IntKind.u64 ((cp : Nat) : Int), Value.int IntKind.u8 ((sc : Nat) : Int)], Value.tuple #[Value.pointer (some { block := K1.g, off := 0 }), Value.slice (some { block := g1, off := 0 }) m1 m1], Value.pointer (some { block := K1.g, off := 0 }), Value.slice (some { block := g1, off := 0 }) m1 m1, Value.tuple #[Value.pointer (some { block := K2.g, off := 0 }), Value.slice (some { block := g2, off := 0 }) m1 m1], Value.slice Am i cm, Value.agg #[Value.int IntKind.u8 8, Value.int IntKind.u8 0, Value.int IntKind.u8 0, Value.int IntKind.u8 0, Value.int IntKind.u8 0, Value.int IntKind.u8 0, Value.int IntKind.u8 0, Value.int IntKind.u8 0, Value.int IntKind.u8 0, Value.int IntKind.u8 0, Value.int IntKind.u8 0, Value.int IntKind.u8 0, Value.int IntKind.u8 0, Value.int IntKind.u8 0, Value.int IntKind.u8 0, Value.int IntKind.u8 0, Value.int IntKind.u8 0, Value.int IntKind.u8 0, Value.int IntKind.u8 0, Value.int IntKind.u8 0, Value.int IntKind.u8 0, Value.int IntKind.u8 0, Value.int IntKind.u8 0, Value.int IntKind.u8 0, Value.int IntKind.u8 0, Value.int IntKind.u8 0, Value.int IntKind.u8 0, Value.int IntKind.u8 0, Value.int IntKind.u8 0, Value.int IntKind.u8 0, Value.int IntKind.u8 0, Value.int IntKind.u8 0], Value.agg #[Value.string s, Value.int IntKind.i64 lv, Value.int IntKind.u64 ((cp : Nat) : Int), Value.int IntKind.u8 ((sc : Nat) : Int)], Value.tuple #[Value.pointer (some { block := K2.g, off := 0 }), Value.slice (some { block := g2, off := 0 }) m1 m1], Value.pointer (some { block := K2.g, off := 0 }), Value.slice (some { block := g2, off := 0 }) m1 m1, Value.pointer (some { block := K1.g, off := 0 }), Value.bool false, Value.bool false, Value.pointer (some { block := K2.g, off := 0 }), Value.bool false, Value.bool false, Value.bool false, Value.slice (some { block := g1, off := 0 }) m1 m1, Value.int IntKind.i64 ((m1 : Nat) : Int), Value.slice (some { block := g2, off := 0 }) m1 m1, Value.int IntKind.i64 ((m1 : Nat) : Int), Value.bool false, Value.bool false, Value.int IntKind.i64 ((j : Nat) : Int), Value.slice (some { block := g1, off := 0 }) m1 m1, Value.int IntKind.i64 ((m1 : Nat) : Int), Value.bool false, u119, u120, u121, u122, u123, u124, u125, u126, u127, u128, u129, u130, u131, u132, u133, u134, u135, u136, u137, u138, u139, u140, u141, u142, undef, undef, undef, undef, undef, undef, undef, undef, undef, undef, undef, undef] : Array Value).getD xx undef, rfl, Holding.start, Whn.none (by decide), Whn.none (by decide)⟩
end Go.Proofs.YtkjhoanlkkcfkaaGreatDoor.Sgm
