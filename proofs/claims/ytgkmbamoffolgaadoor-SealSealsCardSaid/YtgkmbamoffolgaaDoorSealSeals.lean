/- DERIVED. The walk of SealSeals. -/
import Derived.Test.YtgkmbamoffolgaaDoorRefSealSeal
namespace Go.Proofs.YtgkmbamoffolgaaDoor.Seal
open Go.RowKit
set_option maxRecDepth 100000 in
set_option maxHeartbeats 4000000 in
theorem seals_long (k : List Int) (A A2 : Option Addr) (n c m c2 pos ep : Nat) (w : World) (hl : 3000 < m ∨ 200 < n) (hLd : SLaid w) : Calls Tryd.prog 3 #[.agg (u8s k), .agg #[.slice A n c, .int .u64 (pos : Nat), .int .u32 (ep : Nat)], .slice A2 m c2] w fun e w' => e = .returned (.bool true) ∧ Below w.heap.size w w' := by
  have HLg := Lib.hid (long_yes (A := A) (A2 := A2) (c := c) (c2 := c2) (pos := .int .u64 (pos : Nat)) (ep := .int .u32 (ep : Nat)) hl)
  have HX := Lib.hid (BX.start (k := k) (C := #[.slice A n c, .int .u64 (pos : Nat), .int .u32 (ep : Nat)]) (w := w) (.cells #[.slice A2 m c2] 24))
  have HLD := Lib.hid hLd
  clear hl hLd
  go_enter Tryd.func3, Tryd.ntmps3
  go_wp2_with (first
    | (go_at_call 9; refine (HLg.out _ _ (cell_row (three_new w _ _ _).2.2 0)).mono ?_; rintro e w1 ⟨rfl, hb1⟩; have Hb1 := Lib.hid (HX.out.later hb1); clear hb1)
    | (go_at_call 10; refine (awake_any _ (HLD.out.later Hb1.out.low)).mono ?_; rintro e w2 ⟨rfl, hb2⟩; have Hb2 := Lib.hid hb2; clear hb2))
  go_ret
  exact ⟨rfl, Hb1.out.low.trans (Hb2.out.mono Hb1.out.low.size)⟩
/-- the answer's cells, that the loop changes. -/
def XC (g m : Nat) (wx : World) : Prop := ∀ j, j < m → (∃ y, wx.cell? ⟨g, j, none⟩ = some (.int .u8 y)) ∧ wx.frozen? ⟨g, j, none⟩ = false
theorem XC.set {g m : Nat} {wx : World} (h : XC g m wx) (k : Nat) (v : Int) : XC g m (wx.setCell ⟨g, k, none⟩ (.int .u8 v)) := fun j hj => by
  obtain ⟨⟨y, hy⟩, hf⟩ := h j hj
  refine ⟨?_, by rw [World.frozen?_setCell]; exact hf⟩
  by_cases e : k = j
  · subst e
    exact ⟨v, World.cell?_setCell_same _ _ _ hy⟩
  · exact ⟨y, by rw [World.cell?_setCell_other wx ⟨g, k, none⟩ ⟨g, j, none⟩ _ (fun h0 => e (by injection h0))]; exact hy⟩
theorem XC.of_own {w : World} {B n : Nat} {L : List Int} {v : Value} (h : OwnB B L v w) (hl : L.length = n) (h0 : 0 < n) : ∃ g c, v = .slice (some ⟨g, 0, none⟩) n c ∧ B ≤ g ∧ XC g n w ∧ g < w.heap.size := by
  subst hl
  obtain ⟨_, h⟩ := h
  rcases h with ⟨_, h1⟩ | ⟨g, cap, cur, hv, hB, hh, hcap, _, hs, ht⟩
  · omega
  · refine ⟨g, cap, hv, hB, fun j hj => ⟨⟨L.getD j 0, ?_⟩, free_row hh j⟩, (Array.getElem?_eq_some_iff.1 hh).1⟩
    rw [cell_row hh]
    have h2 : cur[j]? = cur.toList[j]? := by simp
    have h3 : (cur.toList.take (L.length * 1))[j]? = cur.toList[j]? := by rw [List.getElem?_take, if_pos (by omega)]
    rw [h2, ← h3, ht]
    simp [vals, hj]
theorem XC.later {g m : Nat} {w w' : World} (h : XC g m w) (hg : g < w.heap.size) (hb : Below w.heap.size w w') : XC g m w' := fun j hj => by
  have hbl := hb.block g hg
  obtain ⟨⟨y, hy⟩, hf⟩ := h j hj
  exact ⟨⟨y, (World.cell?_of_block hbl).trans hy⟩, (World.frozen?_of_block hbl).trans hf⟩
set_option maxRecDepth 100000 in
set_option maxHeartbeats 4000000 in
theorem seals_few (k C L : List Int) (pos ep : Nat) (A A2 : Option Addr) (n c m c2 : Nat) (w : World) (hk : k.length = 32) (hkb : InB k) (hC : C.length = n) (hCin : InB C) (hL : L.length = m) (hLin : InB L) (hp : pos < 18446744073709551616 ∧ ep < 4294967296) (hCb : Byt w A c C) (hLb : Byt w A2 c2 L) (hLd : SLaid w) (hl : ¬ (3000 < m ∨ 200 < n)) : Calls Tryd.prog 3 #[.agg (u8s k), .agg #[.slice A n c, .int .u64 (pos : Nat), .int .u32 (ep : Nat)], .slice A2 m c2] w fun e w' => e = .returned (.bool true) ∧ Below w.heap.size w w' := by
  have HLg := Lib.hid (long_not (A := A) (A2 := A2) (c := c) (c2 := c2) (pos := .int .u64 (pos : Nat)) (ep := .int .u32 (ep : Nat)) hl)
  have HX := Lib.hid (BX.start (k := k) (C := #[.slice A n c, .int .u64 (pos : Nat), .int .u32 (ep : Nat)]) (w := w) (.cells #[.slice A2 m c2] 24))
  have hm : m ≤ 3000 := by omega
  have hn : n ≤ 200 := by omega
  obtain ⟨S, hS⟩ : ∃ S, S = sealL k C pos ep L := ⟨_, rfl⟩
  obtain ⟨B, hB⟩ : ∃ B, B = bkt m := ⟨_, rfl⟩
  have hBle := bkt_le (n := m) (by omega)
  rw [← hB] at hBle
  obtain ⟨q, hq⟩ : ∃ q, q = 36 + B := ⟨_, rfl⟩
  have hSl : S.length = q := by rw [hS, sealL_length _ _ _ _ (by omega), hL, hq, hB]
  have HS : Hid (S.length = q ∧ InB S ∧ q ≤ 200000 ∧ 0 < q) := ⟨hSl, by rw [hS]; exact sealL_in hLin, by omega, by omega⟩
  have Hs : Hid (sealL k C pos ep L = S) := hS.symm
  have HbB : Hid (∀ w, Calls Tryd.prog 13 #[.int .i64 (m : Nat)] w fun e w' => e = .returned (.int .i64 (B : Nat)) ∧ w = w') := fun w => by
    have h := bucket_any (m : Nat) w
    rwa [show bktI (m : Nat) = (B : Nat) by unfold bktI; rw [if_neg (by omega), Int.toNat_natCast, hB]] at h
  have HbR : Hid (∀ w, Calls Tryd.prog 14 #[.int .i64 (m : Nat)] w fun e w' => e = .returned (.int .i64 (B : Nat)) ∧ w = w') := fun w => by
    have h := rbucket_any (m : Nat) w
    rwa [show bktI (m : Nat) = (B : Nat) by unfold bktI; rw [if_neg (by omega), Int.toNat_natCast, hB]] at h
  have HK : Hid (k.length = 32 ∧ InB k) := ⟨hk, hkb⟩
  have HC : Hid (C.length = n ∧ InB C ∧ n ≤ 1000) := ⟨hC, hCin, by omega⟩
  have HLL : Hid (L.length = m ∧ InB L ∧ m ≤ 3000) := ⟨hL, hLin, by omega⟩
  have HP := Lib.hid hp
  have HCb := Lib.hid hCb
  have HLb := Lib.hid hLb
  have HLD := Lib.hid hLd
  have HsK0 : Hid ((Tryd.prog.info? 23).map (·.size) = some (u8s k).size) := by show _ = _; rw [u8s_size, hk]; exact infoH
  clear hl hS hB hBle hq hSl hk hkb hC hCin hL hLin hp hCb hLb hLd hm hn
  go_enter Tryd.func3, Tryd.ntmps3
  go_upto_region 3 with (go_at_call 9; refine (HLg.out _ _ (cell_row (three_new w _ _ _).2.2 0)).mono ?_; rintro e w1 ⟨rfl, hb1⟩; have H1 := Lib.hid (HX.out.later hb1); clear hb1)
  clear HX HLg
  have hmade := World.ownsRow_made w1 (base := w1.heap.size) (e := 5) (size := 1) #[] 0 (Nat.le_refl _) (by unfold maxLen; omega) rfl
  have Hmade := Lib.hid hmade
  clear hmade
  go_upto_region 4 with (at_builtin; refine wpList_append_any rfl (.tmp 19) (.tmp 20) rfl w1.heap.size _ 0 [] rfl Hmade.out A2 m c2 L rfl HLL.out.1 (HLb.out.below (H1.out.low.trans (((Below.refl _ _).alloc (Nat.le_refl _) _).mono H1.out.low.size)) (Nat.le_refl _)) (by have := HLL.out.2.2; omega) (by rw [World.size_alloc]; omega) ?_; intro v2 w2 own2 low2; have h2 : OwnB w1.heap.size L v2 w2 := own_app (L := []) (n := 0) rfl HLL.out.1 own2; have hb2 := low2 _ _ ((Below.refl w1.heap.size w1).alloc (Nat.le_refl _) _) (Nat.le_refl _); obtain ⟨A7, c7, rfl, b7⟩ := h2.sl; rw [HLL.out.1]; have Hs7 := Lib.hid b7; have H2 := Lib.hid (H1.out.later hb2); clear h2 hb2 b7 own2 low2)
  clear Hmade H1
  go_upto_region 5 with (first
    | (go_at_call 11; refine (seal_ok k C L pos ep A A7 n c m c7 w2 HK.out.1 HK.out.2 HC.out.1 HC.out.2.1 HC.out.2.2 HLL.out.1 HLL.out.2.1 (by have := HLL.out.2.2; omega) HP.out (HCb.out.below H2.out.low (Nat.le_refl _)) Hs7.out (HLD.out.later H2.out.low)).mono ?_; rintro e w3 ⟨v, rfl, ho, hb3⟩; rw [Hs.out] at ho; obtain ⟨g3, c3, rfl, hg3, hx3, hg3l⟩ := XC.of_own ho HS.out.1 HS.out.2.2.2; have Hx3 := Lib.hid (And.intro hx3 (And.intro hg3 hg3l)); obtain ⟨A8, c8, e8, b8⟩ := ho.sl; rw [HS.out.1] at e8; cases e8; have B8 := Lib.hid b8; have Hb3 := Lib.hid hb3; have H3 := Lib.hid (H2.out.later hb3); clear ho hx3 hg3 hg3l b8 hb3)
    | (refine wpList_load_row rfl 23 (.tmp 3) rfl w.heap.size rfl 23 (u8s k) (0, 0) _ H2.out.key Tryd.underlying23 rfl HsK0.out ?_)
    | (refine wpList_load_row rfl 28 (.tmp 4) rfl (w.heap.size + 1) rfl 28 #[.slice A n c, .int .u64 (pos : Nat), .int .u32 (ep : Nat)] (0, 0) _ H2.out.pl Tryd.underlying28 rfl infoP ?_))
  have cP0 := cell_row H3.out.pl 0
  have cP1 := cell_row H3.out.pl 1
  have cP2 := cell_row H3.out.pl 2
  simp only [List.getElem?_toArray, List.getElem?_cons_zero, List.getElem?_cons_succ] at cP0 cP1 cP2
  go_upto_region 6 with (first
    | (go_at_call 12; refine (rseal_any k C L pos ep A A2 n c m c2 w3 HK.out.1 HK.out.2 HC.out.1 HC.out.2.1 HC.out.2.2 HLL.out.1 HLL.out.2.1 (by have := HLL.out.2.2; omega) HP.out (HCb.out.below H3.out.low (Nat.le_refl _)) (HLb.out.below H3.out.low (Nat.le_refl _))).mono ?_; rintro e w4 ⟨v, rfl, ho, hb4⟩; rw [Hs.out] at ho; obtain ⟨A9, c9, rfl, b9⟩ := ho.sl; rw [HS.out.1]; have B9 := Lib.hid b9; have Hb4 := Lib.hid hb4; clear ho b9 hb4)
    | (refine wpList_load_row rfl 23 (.tmp 3) rfl w.heap.size rfl 23 (u8s k) (0, 0) _ H3.out.key Tryd.underlying23 rfl HsK0.out ?_))
  have Hb24 := Lib.hid (Hb3.out.trans (Hb4.out.mono Hb3.out.size))
  have k1 := Cha.conv_any (B8.out.below Hb4.out (Nat.le_refl _)) HS.out.1
  have k2 := Cha.conv_any B9.out HS.out.1
  have k3 := Cha.conv_any (Hs7.out.below Hb24.out (Nat.le_refl _)) HLL.out.1
  have k4 := Cha.conv_any (HLb.out.below (H3.out.low.trans (Hb4.out.mono H3.out.low.size)) (Nat.le_refl _)) HLL.out.1
  have Hxc : Hid (XC g3 q w4) := Hx3.out.1.later Hx3.out.2.2 Hb4.out
  have Hg3 := Lib.hid Hx3.out.2.1
  clear cP0 cP1 cP2 Hx3
  go_upto_region 7 with (fail)
  go_upto_region 8 with (fail)
  clear k1 k2 k3 k4
  go_loopw [13] (fun i wr => ∃ j : Nat, j ≤ q ∧ i = .int .i64 j ∧ Hid (Below w2.heap.size w2 wr ∧ XC g3 q wr)) (fun i _ => q - (intOf i).toNat)
  case atStart => exact ⟨0, Nat.zero_le _, rfl, Hb24.out, Hxc.out⟩
  case round =>
    clear Hxc Hb24
    obtain ⟨j, hj, rfl, hr⟩ := hrel
    by_cases hlt : j < q
    · have hlt' : (j : Int) < (q : Int) := by omega
      have hqI : (q : Int) ≤ 200000 := by have := HS.out.2.2.1; omega
      obtain ⟨⟨y, hy⟩, hf⟩ := hr.out.2 j hlt
      have hset := Lib.hid (hr.out.2.set j (bits .xor .u8 y 255))
      have hlow : Hid (Below w2.heap.size w2 (wr.setCell ⟨g3, j, none⟩ (.int .u8 (bits .xor .u8 y 255)))) := hr.out.1.setCell Hg3.out _
      go_wp2
      go_roundw
      case rel => exact ⟨j + 1, by omega, by go_num, hlow.out, hset.out⟩
      case measure => simp [intOf]; omega
    · have hge : ¬ (j : Int) < (q : Int) := by omega
      have hlow := H2.out.low.trans (hr.out.1.mono H2.out.low.size)
      have k3 := Cha.conv_any (Hs7.out.below hr.out.1 (Nat.le_refl _)) HLL.out.1
      have k4 := Cha.conv_any (HLb.out.below hlow (Nat.le_refl _)) HLL.out.1
      have Hlow := Lib.hid hlow
      have hmI : (m : Int) ≤ 3000 := by have := HLL.out.2.2; omega
      clear hlow hr
      go_wp2_with (first
        | (go_at_call 13; refine (HbB.out _).mono ?_; rintro e w' ⟨rfl, rfl⟩)
        | (go_at_call 14; refine (HbR.out _).mono ?_; rintro e w' ⟨rfl, rfl⟩)
        | (go_at_call 10; refine (awake_any _ (HLD.out.later Hlow.out)).mono ?_; rintro e w9 ⟨rfl, low9⟩; have Low9 := Lib.hid (Hlow.out.trans (low9.mono Hlow.out.size)); clear low9))
      go_ret
      exact ⟨rfl, Low9.out⟩
theorem seals_walk (k C L : List Int) (pos ep : Nat) (A A2 : Option Addr) (n c m c2 : Nat) (w : World) (hk : k.length = 32) (hkb : InB k) (hC : C.length = n) (hCin : InB C) (_hn : n ≤ 9223372036854775807) (hL : L.length = m) (hLin : InB L) (_hm : m ≤ 9223372036854775807) (hp : pos < 18446744073709551616 ∧ ep < 4294967296) (hCb : Byt w A c C) (hLb : Byt w A2 c2 L) (hLd : SLaid w) : Calls Tryd.prog 3 #[.agg (u8s k), .agg #[.slice A n c, .int .u64 (pos : Nat), .int .u32 (ep : Nat)], .slice A2 m c2] w fun e w' => e = .returned (.bool true) ∧ Below w.heap.size w w' := by
  by_cases hl : 3000 < m ∨ 200 < n
  · exact seals_long k A A2 n c m c2 pos ep w hl hLd
  · exact seals_few k C L pos ep A A2 n c m c2 w hk hkb hC hCin hL hLin hp hCb hLb hLd hl
end Go.Proofs.YtgkmbamoffolgaaDoor.Seal
