/- DERIVED. The walk of SealBack. -/
import Derived.Test.YtkbkgbcdmhkicaaDoorMseal14
namespace Go.Proofs.YtkbkgbcdmhkicaaDoor.Seal
open Go.RowKit
set_option maxRecDepth 100000 in
/-- whether there is more than the law looks at. -/
theorem long_any (A A2 : Option Addr) (n c m c2 g : Nat) (pos ep : Value) (w : World) (hg : w.cell? ⟨g, 0, none⟩ = some (.slice A2 m c2)) :
    Calls Tryd.prog 9 #[.agg #[.slice A n c, pos, ep], .slice (some ⟨g, 0, none⟩) 1 1] w fun e w' => e = .returned (.bool (decide (3000 < m ∨ 200 < n))) ∧ Below w.heap.size w w' := by
  have hgl := World.block_lt_of_cell? _ _ hg
  have hg2 : (w.alloc (.cells #[.slice A n c, pos, ep] 28)).cell? ⟨g, 0, none⟩ = some (.slice A2 m c2) := (((Below.refl w.heap.size w).alloc (Nat.le_refl _) _).cell (p := ⟨g, 0, none⟩) hgl).trans hg
  have HX : Hid (Below w.heap.size w (w.alloc (.cells #[.slice A n c, pos, ep] 28))) := (Below.refl _ _).alloc (Nat.le_refl _) _
  have HW := Lib.hid (Go.heap_alloc_new w (.cells #[.slice A n c, pos, ep] 28))
  have hcp := cell_row HW.out 0
  obtain ⟨b, hb⟩ : ∃ b : Bool, b = decide (3000 < m ∨ 200 < n) := ⟨_, rfl⟩
  rw [← hb]
  have Hb := Lib.hid hb
  clear hg hgl hb
  go_enter Tryd.func9, Tryd.ntmps9
  go_wp2
  generalize w.alloc _ = w0 at hg2 HX HW hcp ⊢
  go_loopw [5] (fun v wr => ∃ i : Nat, i ≤ 1 ∧ v = .int .i64 i ∧ (i = 1 → ¬ 3000 < m) ∧ wr = w0) (fun v _ => 1 - (intOf v).toNat)
  case atStart => exact ⟨0, Nat.zero_le _, rfl, (fun h => by cases h), rfl⟩
  case round =>
    obtain ⟨i, hi, rfl, hi1, rfl⟩ := hrel
    obtain rfl | rfl : i = 0 ∨ i = 1 := by omega
    · by_cases h1 : 3000 < m
      · have h1I : (3000 : Int) < m := by omega
        have hbt : b = true := by rw [Hb.out]; exact decide_eq_true (Or.inl h1)
        subst hbt
        clear hi1
        go_wp2
        go_ret
        exact ⟨rfl, HX.out⟩
      · have h1I : ¬ (3000 : Int) < m := by omega
        clear hi1
        go_wp2
        exact ⟨⟨1, Nat.le_refl _, rfl, (fun _ => h1), trivial⟩, by decide⟩
    · have h1 := hi1 rfl
      have hbt : b = decide ((200 : Int) < n) := by
        rw [Hb.out]
        by_cases h2 : 200 < n
        · rw [decide_eq_true (Or.inr h2), decide_eq_true (by omega)]
        · rw [decide_eq_false (by omega), decide_eq_false (by omega)]
      have Hbt := Lib.hid hbt
      clear hbt hi1 h1 Hb
      go_wp2
      go_ret
      exact ⟨by rw [Hbt.out]; rfl, HX.out⟩
theorem long_yes {A A2 : Option Addr} {n c m c2 : Nat} {pos ep : Value} (h : 3000 < m ∨ 200 < n) : ∀ (w : World) (g : Nat), w.cell? ⟨g, 0, none⟩ = some (.slice A2 m c2) → Calls Tryd.prog 9 #[.agg #[.slice A n c, pos, ep], .slice (some ⟨g, 0, none⟩) 1 1] w fun e w' => e = .returned (.bool true) ∧ Below w.heap.size w w' := fun w g hg => by
  have := long_any A A2 n c m c2 g pos ep w hg
  rwa [decide_eq_true h] at this
theorem long_not {A A2 : Option Addr} {n c m c2 : Nat} {pos ep : Value} (h : ¬ (3000 < m ∨ 200 < n)) : ∀ (w : World) (g : Nat), w.cell? ⟨g, 0, none⟩ = some (.slice A2 m c2) → Calls Tryd.prog 9 #[.agg #[.slice A n c, pos, ep], .slice (some ⟨g, 0, none⟩) 1 1] w fun e w' => e = .returned (.bool false) ∧ Below w.heap.size w w' := fun w g hg => by
  have := long_any A A2 n c m c2 g pos ep w hg
  rwa [decide_eq_false h] at this
/-- the parameters' boxes, and what was there. -/
structure BX (k : List Int) (C : Array Value) (w wx : World) : Prop where
  key : wx.heap[w.heap.size]? = some (.cells (u8s k) 23 (0, 0))
  pl : wx.heap[w.heap.size + 1]? = some (.cells C 28 (0, 0))
  low : Below w.heap.size w wx
theorem BX.later {k : List Int} {C : Array Value} {w wx wy : World} (h : BX k C w wx) (hb : Below wx.heap.size wx wy) : BX k C w wy :=
  ⟨(hb.block _ (Array.getElem?_eq_some_iff.1 h.key).1).trans h.key, (hb.block _ (Array.getElem?_eq_some_iff.1 h.pl).1).trans h.pl, h.low.trans (hb.mono h.low.size)⟩
theorem BX.start {k : List Int} {C : Array Value} {w : World} (o : Obj) : BX k C w (((w.alloc (.cells (u8s k) 23)).alloc (.cells C 28)).alloc o) := ⟨(three_new w _ _ _).1, (three_new w _ _ _).2.1, low3 w _ _ _⟩
set_option maxRecDepth 100000 in
set_option maxHeartbeats 4000000 in
theorem back_long (k : List Int) (A A2 : Option Addr) (n c m c2 pos ep : Nat) (w : World) (hl : 3000 < m ∨ 200 < n) (hLd : SLaid w) : Calls Tryd.prog 7 #[.agg (u8s k), .agg #[.slice A n c, .int .u64 (pos : Nat), .int .u32 (ep : Nat)], .slice A2 m c2] w fun e w' => e = .returned (.bool true) ∧ Below w.heap.size w w' := by
  have HLg := Lib.hid (long_yes (A := A) (A2 := A2) (c := c) (c2 := c2) (pos := .int .u64 (pos : Nat)) (ep := .int .u32 (ep : Nat)) hl)
  have HX := Lib.hid (BX.start (k := k) (C := #[.slice A n c, .int .u64 (pos : Nat), .int .u32 (ep : Nat)]) (w := w) (.cells #[.slice A2 m c2] 24))
  have HLD := Lib.hid hLd
  clear hl hLd
  go_enter Tryd.func7, Tryd.ntmps7
  go_wp2_with (first
    | (go_at_call 9; refine (HLg.out _ _ (cell_row (three_new w _ _ _).2.2 0)).mono ?_; rintro e w1 ⟨rfl, hb1⟩; have Hb1 := Lib.hid (HX.out.later hb1); clear hb1)
    | (go_at_call 10; refine (awake_any _ (HLD.out.later Hb1.out.low)).mono ?_; rintro e w2 ⟨rfl, hb2⟩; have Hb2 := Lib.hid hb2; clear hb2))
  go_ret
  exact ⟨rfl, Hb1.out.low.trans (Hb2.out.mono Hb1.out.low.size)⟩
set_option maxRecDepth 100000 in
set_option maxHeartbeats 4000000 in
theorem back_few (k C L : List Int) (pos ep : Nat) (A A2 : Option Addr) (n c m c2 : Nat) (w : World) (hk : k.length = 32) (hkb : InB k) (hC : C.length = n) (hCin : InB C) (hL : L.length = m) (hLin : InB L) (hp : pos < 18446744073709551616 ∧ ep < 4294967296) (hCb : Byt w A c C) (hLb : Byt w A2 c2 L) (hLd : SLaid w) (hl : ¬ (3000 < m ∨ 200 < n)) : Calls Tryd.prog 7 #[.agg (u8s k), .agg #[.slice A n c, .int .u64 (pos : Nat), .int .u32 (ep : Nat)], .slice A2 m c2] w fun e w' => e = .returned (.bool true) ∧ Below w.heap.size w w' := by
  have HLg := Lib.hid (long_not (A := A) (A2 := A2) (c := c) (c2 := c2) (pos := .int .u64 (pos : Nat)) (ep := .int .u32 (ep : Nat)) hl)
  have HX := Lib.hid (BX.start (k := k) (C := #[.slice A n c, .int .u64 (pos : Nat), .int .u32 (ep : Nat)]) (w := w) (.cells #[.slice A2 m c2] 24))
  have hm : m ≤ 3000 := by omega
  have hn : n ≤ 200 := by omega
  obtain ⟨S, hS⟩ : ∃ S, S = sealL k C pos ep L := ⟨_, rfl⟩
  obtain ⟨B, hB⟩ : ∃ B, B = bkt m := ⟨_, rfl⟩
  obtain ⟨ep1, hep1⟩ : ∃ ep1 : Nat, ep1 = (ep + 1) % 4294967296 := ⟨_, rfl⟩
  have hBle := bkt_le (n := m) (by omega)
  rw [← hB] at hBle
  have hSl : S.length = 36 + B := by rw [hS, sealL_length _ _ _ _ (by omega), hL, hB]
  have HS : Hid (S.length = 36 + B ∧ InB S ∧ 36 + B ≤ 200000) := ⟨hSl, by rw [hS]; exact sealL_in hLin, by omega⟩
  have HO : Hid (openL k C pos S = some (L, ep)) := by rw [hS]; exact open_seal k C L pos ep hLin (by omega) hp.2
  have Hs := Lib.hid hS
  have HE1 : Hid (((ep : Int) + 1) % 4294967296 = (ep1 : Nat)) := by show _ = _; omega
  have HbB : Hid (∀ w, Calls Tryd.prog 13 #[.int .i64 (m : Nat)] w fun e w' => e = .returned (.int .i64 (B : Nat)) ∧ w = w') := fun w => by
    have h := bucket_any (m : Nat) w
    rwa [show bktI (m : Nat) = (B : Nat) by unfold bktI; rw [if_neg (by omega), Int.toNat_natCast, hB]] at h
  have HK : Hid (k.length = 32 ∧ InB k) := ⟨hk, hkb⟩
  have HC : Hid (C.length = n ∧ InB C ∧ n ≤ 1000) := ⟨hC, hCin, by omega⟩
  have HLL : Hid (L.length = m ∧ InB L ∧ m ≤ 131068) := ⟨hL, hLin, by omega⟩
  have HP := Lib.hid hp
  have HCb := Lib.hid hCb
  have HLb := Lib.hid hLb
  have HLD := Lib.hid hLd
  have HsK0 : Hid ((Tryd.prog.info? 23).map (·.size) = some (u8s k).size) := by show _ = _; rw [u8s_size, hk]; exact infoH
  clear hl hS hB hep1 hBle hSl hk hkb hC hCin hL hLin hp hCb hLb hLd hm hn
  go_enter Tryd.func7, Tryd.ntmps7
  go_upto_region 3 with (go_at_call 9; refine (HLg.out _ _ (cell_row (three_new w _ _ _).2.2 0)).mono ?_; rintro e w1 ⟨rfl, hb1⟩; have H1 := Lib.hid (HX.out.later hb1); clear hb1)
  clear HX HLg
  go_upto_region 4 with (first
    | (go_at_call 11; refine (seal_ok k C L pos ep A A2 n c m c2 w1 HK.out.1 HK.out.2 HC.out.1 HC.out.2.1 HC.out.2.2 HLL.out.1 HLL.out.2.1 HLL.out.2.2 HP.out (HCb.out.below H1.out.low (Nat.le_refl _)) (HLb.out.below H1.out.low (Nat.le_refl _)) (HLD.out.later H1.out.low)).mono ?_; rintro e w2 ⟨v, rfl, ho, hb2⟩; rw [← Hs.out] at ho; obtain ⟨A3, c3, rfl, hs3⟩ := ho.sl; rw [HS.out.1]; have Hs3 := Lib.hid hs3; have H2 := Lib.hid (H1.out.later hb2); clear ho hs3 hb2)
    | (refine wpList_load_row rfl 23 (.tmp 3) rfl w.heap.size rfl 23 (u8s k) (0, 0) _ H1.out.key Tryd.underlying23 rfl HsK0.out ?_)
    | (refine wpList_load_row rfl 28 (.tmp 4) rfl (w.heap.size + 1) rfl 28 #[.slice A n c, .int .u64 (pos : Nat), .int .u32 (ep : Nat)] (0, 0) _ H1.out.pl Tryd.underlying28 rfl infoP ?_))
  clear H1 Hs
  go_upto_region 5 with (refine wpList_load_row rfl 28 (.tmp 4) rfl (w.heap.size + 1) rfl 28 #[.slice A n c, .int .u64 (pos : Nat), .int .u32 (ep : Nat)] (0, 0) _ H2.out.pl Tryd.underlying28 rfl infoP ?_)
  have h3 : BX k #[.slice A n c, .int .u64 (pos : Nat), .int .u32 (ep : Nat)] w (w2.alloc (.cells #[.slice A n c, .int .u64 (pos : Nat), .int .u32 (ep : Nat)] 28)) := H2.out.later ((Below.refl _ _).alloc (Nat.le_refl _) _)
  have cP := cell_row h3.pl 2
  simp only [List.getElem?_toArray, List.getElem?_cons_zero, List.getElem?_cons_succ] at cP
  have he1 := HE1.out
  clear h3
  go_upto_region 6 with (fail)
  have h4 : BX k #[.slice A n c, .int .u64 (pos : Nat), .int .u32 (ep : Nat)] w (w2.alloc (.cells #[.slice A n c, .int .u64 (pos : Nat), .int .u32 (ep1 : Nat)] 28)) := H2.out.later ((Below.refl _ _).alloc (Nat.le_refl _) _)
  have H4 := Lib.hid h4
  have HN4 := Lib.hid (Go.heap_alloc_new w2 (.cells #[.slice A n c, .int .u64 (pos : Nat), .int .u32 (ep1 : Nat)] 28))
  have Hs4 := Lib.hid (Hs3.out.alloc (.cells #[.slice A n c, .int .u64 (pos : Nat), .int .u32 (ep1 : Nat)] 28))
  clear h4 cP he1 Hs3 H2
  go_upto_region 7 with (first
    | (go_at_call 15; refine (open_any k C S pos ep1 A A3 n c (36 + B) c3 _ HK.out.1 HK.out.2 HC.out.1 HC.out.2.1 HC.out.2.2 HS.out.1 HS.out.2.1 HS.out.2.2 HP.out.1 (HCb.out.below H4.out.low (Nat.le_refl _)) Hs4.out (HLD.out.later H4.out.low)).mono ?_; rintro e w5 ⟨he, hb5⟩; rw [HO.out] at he; obtain ⟨v5, rfl, A5, c5, rfl, hy5⟩ := he; rw [HLL.out.1]; have Hy5 := Lib.hid hy5; have H5 := Lib.hid (H4.out.later hb5); clear hy5 hb5)
    | (refine wpList_load_row rfl 23 (.tmp 3) rfl w.heap.size rfl 23 (u8s k) (0, 0) _ H4.out.key Tryd.underlying23 rfl HsK0.out ?_)
    | (refine wpList_load_row rfl 28 (.tmp 9) rfl w2.heap.size rfl 28 #[.slice A n c, .int .u64 (pos : Nat), .int .u32 (ep1 : Nat)] (0, 0) _ HN4.out Tryd.underlying28 rfl infoP ?_))
  have cP := cell_row H5.out.pl 2
  simp only [List.getElem?_toArray, List.getElem?_cons_zero, List.getElem?_cons_succ] at cP
  have k1 := Cha.conv_any Hy5.out HLL.out.1
  have k2 := Cha.conv_any (HLb.out.below H5.out.low (Nat.le_refl _)) HLL.out.1
  clear H4 HN4 Hs4
  have hBI : 36 + (B : Int) ≤ 200000 := by have := HS.out.2.2; omega
  have hmI : (m : Int) ≤ 131068 := by have := HLL.out.2.2; omega
  go_wp2_with (first
    | (go_at_call 13; refine (HbB.out _).mono ?_; rintro e w' ⟨rfl, rfl⟩)
    | (go_at_call 10; refine (awake_any _ (HLD.out.later H5.out.low)).mono ?_; rintro e w6 ⟨rfl, hb6⟩; have Hb6 := Lib.hid hb6; clear hb6))
  go_ret
  exact ⟨rfl, H5.out.low.trans (Hb6.out.mono H5.out.low.size)⟩
theorem back_walk (k C L : List Int) (pos ep : Nat) (A A2 : Option Addr) (n c m c2 : Nat) (w : World) (hk : k.length = 32) (hkb : InB k) (hC : C.length = n) (hCin : InB C) (_hn : n ≤ 9223372036854775807) (hL : L.length = m) (hLin : InB L) (_hm : m ≤ 9223372036854775807) (hp : pos < 18446744073709551616 ∧ ep < 4294967296) (hCb : Byt w A c C) (hLb : Byt w A2 c2 L) (hLd : SLaid w) : Calls Tryd.prog 7 #[.agg (u8s k), .agg #[.slice A n c, .int .u64 (pos : Nat), .int .u32 (ep : Nat)], .slice A2 m c2] w fun e w' => e = .returned (.bool true) ∧ Below w.heap.size w w' := by
  by_cases hl : 3000 < m ∨ 200 < n
  · exact back_long k A A2 n c m c2 pos ep w hl hLd
  · exact back_few k C L pos ep A A2 n c m c2 w hk hkb hC hCin hL hLin hp hCb hLb hLd hl
end Go.Proofs.YtkbkgbcdmhkicaaDoor.Seal
