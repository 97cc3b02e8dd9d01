/- DERIVED. Texts of ours, merged: XSealBack XRefSealNum XRef1Math XOwn XRef1Primes. -/
import Derived.Test.YtgkmbamoffolgaaDoorMseal17
import Derived.Test.YtgkmbamoffolgaaDoorMseal2
import Derived.Test.YtgkmbamoffolgaaDoorMseal5
import Derived.Maps.AppendAt
import Derived.OwnWalk
import Derived.Deep.DeepCutAuto
import Derived.Test.YtgkmbamoffolgaaDoorProg
import Derived.Deep.QuietTactic
import Derived.BigQuiet
/- DERIVED. The walk of SealBack. -/
namespace Go.Proofs.YtgkmbamoffolgaaDoor.Seal
open Go.RowKit
set_option maxRecDepth 100000 in
/-- whether there is more than the law looks at. -/
theorem long_any (A A2 : Option Addr) (n c m c2 g : Nat) (pos ep : Value) (w : World) (hg : w.cell? ⟨g, 0, none⟩ = some (.slice A2 m c2)) :
    Calls Tryd.prog 9 #[.agg #[.slice A n c, pos, ep], .slice (some ⟨g, 0, none⟩) 1 1] w fun e w' => e = .returned (.bool (decide (3000 < m ∨ 200 < n))) ∧ Below w.heap.size w w' := by
  have hgl := World.block_lt_of_cell? _ _ hg
  have hg2 : (w.alloc (.cells #[.slice A n c, pos, ep] 28)).cell? ⟨g, 0, none⟩ = some (.slice A2 m c2) := (((Below.refl w.heap.size w).alloc (Nat.le_refl _) _).cell (p := ⟨g, 0, none⟩) hgl).trans hg
  have HX : Hid (Below w.heap.size w (w.alloc (.cells #[.slice A n c, pos, ep] 28))) := (Below.refl _ _).alloc (Nat.le_refl _) _
  have HW := Lib.hid (Go.heap_alloc_new w (.cells #[.slice A n c, pos, ep] 28))
  have hcp := cell_row HW.out 0
  obtain ⟨b, hb⟩ : ∃ b : Bool, b = decide (3000 < m ∨ 200 < n) := ⟨_, rfl⟩
  rw [← hb]
  have Hb := Lib.hid hb
  clear hg hgl hb
  go_enter Tryd.func9, Tryd.ntmps9
  go_wp2
  generalize w.alloc _ = w0 at hg2 HX HW hcp ⊢
  go_loopw [5] (fun v wr => ∃ i : Nat, i ≤ 1 ∧ v = .int .i64 i ∧ (i = 1 → ¬ 3000 < m) ∧ wr = w0) (fun v _ => 1 - (intOf v).toNat)
  case atStart => exact ⟨0, Nat.zero_le _, rfl, (fun h => by cases h), rfl⟩
  case round =>
    obtain ⟨i, hi, rfl, hi1, rfl⟩ := hrel
    obtain rfl | rfl : i = 0 ∨ i = 1 := by omega
    · by_cases h1 : 3000 < m
      · have h1I : (3000 : Int) < m := by omega
        have hbt : b = true := by rw [Hb.out]; exact decide_eq_true (Or.inl h1)
        subst hbt
        clear hi1
        go_wp2
        go_ret
        exact ⟨rfl, HX.out⟩
      · have h1I : ¬ (3000 : Int) < m := by omega
        clear hi1
        go_wp2
        exact ⟨⟨1, Nat.le_refl _, rfl, (fun _ => h1), trivial⟩, by decide⟩
    · have h1 := hi1 rfl
      have hbt : b = decide ((200 : Int) < n) := by
        rw [Hb.out]
        by_cases h2 : 200 < n
        · rw [decide_eq_true (Or.inr h2), decide_eq_true (by omega)]
        · rw [decide_eq_false (by omega), decide_eq_false (by omega)]
      have Hbt := Lib.hid hbt
      clear hbt hi1 h1 Hb
      go_wp2
      go_ret
      exact ⟨by rw [Hbt.out]; rfl, HX.out⟩
theorem long_yes {A A2 : Option Addr} {n c m c2 : Nat} {pos ep : Value} (h : 3000 < m ∨ 200 < n) : ∀ (w : World) (g : Nat), w.cell? ⟨g, 0, none⟩ = some (.slice A2 m c2) → Calls Tryd.prog 9 #[.agg #[.slice A n c, pos, ep], .slice (some ⟨g, 0, none⟩) 1 1] w fun e w' => e = .returned (.bool true) ∧ Below w.heap.size w w' := fun w g hg => by
  have := long_any A A2 n c m c2 g pos ep w hg
  rwa [decide_eq_true h] at this
theorem long_not {A A2 : Option Addr} {n c m c2 : Nat} {pos ep : Value} (h : ¬ (3000 < m ∨ 200 < n)) : ∀ (w : World) (g : Nat), w.cell? ⟨g, 0, none⟩ = some (.slice A2 m c2) → Calls Tryd.prog 9 #[.agg #[.slice A n c, pos, ep], .slice (some ⟨g, 0, none⟩) 1 1] w fun e w' => e = .returned (.bool false) ∧ Below w.heap.size w w' := fun w g hg => by
  have := long_any A A2 n c m c2 g pos ep w hg
  rwa [decide_eq_false h] at this
/-- the parameters' boxes, and what was there. -/
structure BX (k : List Int) (C : Array Value) (w wx : World) : Prop where
  key : wx.heap[w.heap.size]? = some (.cells (u8s k) 23 (0, 0))
  pl : wx.heap[w.heap.size + 1]? = some (.cells C 28 (0, 0))
  low : Below w.heap.size w wx
theorem BX.later {k : List Int} {C : Array Value} {w wx wy : World} (h : BX k C w wx) (hb : Below wx.heap.size wx wy) : BX k C w wy :=
  ⟨(hb.block _ (Array.getElem?_eq_some_iff.1 h.key).1).trans h.key, (hb.block _ (Array.getElem?_eq_some_iff.1 h.pl).1).trans h.pl, h.low.trans (hb.mono h.low.size)⟩
theorem BX.start {k : List Int} {C : Array Value} {w : World} (o : Obj) : BX k C w (((w.alloc (.cells (u8s k) 23)).alloc (.cells C 28)).alloc o) := ⟨(three_new w _ _ _).1, (three_new w _ _ _).2.1, low3 w _ _ _⟩
set_option maxRecDepth 100000 in
set_option maxHeartbeats 4000000 in
theorem back_long (k : List Int) (A A2 : Option Addr) (n c m c2 pos ep : Nat) (w : World) (hl : 3000 < m ∨ 200 < n) (hLd : SLaid w) : Calls Tryd.prog 7 #[.agg (u8s k), .agg #[.slice A n c, .int .u64 (pos : Nat), .int .u32 (ep : Nat)], .slice A2 m c2] w fun e w' => e = .returned (.bool true) ∧ Below w.heap.size w w' := by
  have HLg := Lib.hid (long_yes (A := A) (A2 := A2) (c := c) (c2 := c2) (pos := .int .u64 (pos : Nat)) (ep := .int .u32 (ep : Nat)) hl)
  have HX := Lib.hid (BX.start (k := k) (C := #[.slice A n c, .int .u64 (pos : Nat), .int .u32 (ep : Nat)]) (w := w) (.cells #[.slice A2 m c2] 24))
  have HLD := Lib.hid hLd
  clear hl hLd
  go_enter Tryd.func7, Tryd.ntmps7
  go_wp2_with (first
    | (go_at_call 9; refine (HLg.out _ _ (cell_row (three_new w _ _ _).2.2 0)).mono ?_; rintro e w1 ⟨rfl, hb1⟩; have Hb1 := Lib.hid (HX.out.later hb1); clear hb1)
    | (go_at_call 10; refine (awake_any _ (HLD.out.later Hb1.out.low)).mono ?_; rintro e w2 ⟨rfl, hb2⟩; have Hb2 := Lib.hid hb2; clear hb2))
  go_ret
  exact ⟨rfl, Hb1.out.low.trans (Hb2.out.mono Hb1.out.low.size)⟩
set_option maxRecDepth 100000 in
set_option maxHeartbeats 4000000 in
theorem back_few (k C L : List Int) (pos ep : Nat) (A A2 : Option Addr) (n c m c2 : Nat) (w : World) (hk : k.length = 32) (hkb : InB k) (hC : C.length = n) (hCin : InB C) (hL : L.length = m) (hLin : InB L) (hp : pos < 18446744073709551616 ∧ ep < 4294967296) (hCb : Byt w A c C) (hLb : Byt w A2 c2 L) (hLd : SLaid w) (hl : ¬ (3000 < m ∨ 200 < n)) : Calls Tryd.prog 7 #[.agg (u8s k), .agg #[.slice A n c, .int .u64 (pos : Nat), .int .u32 (ep : Nat)], .slice A2 m c2] w fun e w' => e = .returned (.bool true) ∧ Below w.heap.size w w' := by
  have HLg := Lib.hid (long_not (A := A) (A2 := A2) (c := c) (c2 := c2) (pos := .int .u64 (pos : Nat)) (ep := .int .u32 (ep : Nat)) hl)
  have HX := Lib.hid (BX.start (k := k) (C := #[.slice A n c, .int .u64 (pos : Nat), .int .u32 (ep : Nat)]) (w := w) (.cells #[.slice A2 m c2] 24))
  have hm : m ≤ 3000 := by omega
  have hn : n ≤ 200 := by omega
  obtain ⟨S, hS⟩ : ∃ S, S = sealL k C pos ep L := ⟨_, rfl⟩
  obtain ⟨B, hB⟩ : ∃ B, B = bkt m := ⟨_, rfl⟩
  obtain ⟨ep1, hep1⟩ : ∃ ep1 : Nat, ep1 = (ep + 1) % 4294967296 := ⟨_, rfl⟩
  have hBle := bkt_le (n := m) (by omega)
  rw [← hB] at hBle
  have hSl : S.length = 36 + B := by rw [hS, sealL_length _ _ _ _ (by omega), hL, hB]
  have HS : Hid (S.length = 36 + B ∧ InB S ∧ 36 + B ≤ 200000) := ⟨hSl, by rw [hS]; exact sealL_in hLin, by omega⟩
  have HO : Hid (openL k C pos S = some (L, ep)) := by rw [hS]; exact open_seal k C L pos ep hLin (by omega) hp.2
  have Hs := Lib.hid hS
  have HE1 : Hid (((ep : Int) + 1) % 4294967296 = (ep1 : Nat)) := by show _ = _; omega
  have HbB : Hid (∀ w, Calls Tryd.prog 13 #[.int .i64 (m : Nat)] w fun e w' => e = .returned (.int .i64 (B : Nat)) ∧ w = w') := fun w => by
    have h := bucket_any (m : Nat) w
    rwa [show bktI (m : Nat) = (B : Nat) by unfold bktI; rw [if_neg (by omega), Int.toNat_natCast, hB]] at h
  have HK : Hid (k.length = 32 ∧ InB k) := ⟨hk, hkb⟩
  have HC : Hid (C.length = n ∧ InB C ∧ n ≤ 1000) := ⟨hC, hCin, by omega⟩
  have HLL : Hid (L.length = m ∧ InB L ∧ m ≤ 131068) := ⟨hL, hLin, by omega⟩
  have HP := Lib.hid hp
  have HCb := Lib.hid hCb
  have HLb := Lib.hid hLb
  have HLD := Lib.hid hLd
  have HsK0 : Hid ((Tryd.prog.info? 23).map (·.size) = some (u8s k).size) := by show _ = _; rw [u8s_size, hk]; exact infoH
  clear hl hS hB hep1 hBle hSl hk hkb hC hCin hL hLin hp hCb hLb hLd hm hn
  go_enter Tryd.func7, Tryd.ntmps7
  go_upto_region 3 with (go_at_call 9; refine (HLg.out _ _ (cell_row (three_new w _ _ _).2.2 0)).mono ?_; rintro e w1 ⟨rfl, hb1⟩; have H1 := Lib.hid (HX.out.later hb1); clear hb1)
  clear HX HLg
  go_upto_region 4 with (first
    | (go_at_call 11; refine (seal_ok k C L pos ep A A2 n c m c2 w1 HK.out.1 HK.out.2 HC.out.1 HC.out.2.1 HC.out.2.2 HLL.out.1 HLL.out.2.1 HLL.out.2.2 HP.out (HCb.out.below H1.out.low (Nat.le_refl _)) (HLb.out.below H1.out.low (Nat.le_refl _)) (HLD.out.later H1.out.low)).mono ?_; rintro e w2 ⟨v, rfl, ho, hb2⟩; rw [← Hs.out] at ho; obtain ⟨A3, c3, rfl, hs3⟩ := ho.sl; rw [HS.out.1]; have Hs3 := Lib.hid hs3; have H2 := Lib.hid (H1.out.later hb2); clear ho hs3 hb2)
    | (refine wpList_load_row rfl 23 (.tmp 3) rfl w.heap.size rfl 23 (u8s k) (0, 0) _ H1.out.key Tryd.underlying23 rfl HsK0.out ?_)
    | (refine wpList_load_row rfl 28 (.tmp 4) rfl (w.heap.size + 1) rfl 28 #[.slice A n c, .int .u64 (pos : Nat), .int .u32 (ep : Nat)] (0, 0) _ H1.out.pl Tryd.underlying28 rfl infoP ?_))
  clear H1 Hs
  go_upto_region 5 with (refine wpList_load_row rfl 28 (.tmp 4) rfl (w.heap.size + 1) rfl 28 #[.slice A n c, .int .u64 (pos : Nat), .int .u32 (ep : Nat)] (0, 0) _ H2.out.pl Tryd.underlying28 rfl infoP ?_)
  have h3 : BX k #[.slice A n c, .int .u64 (pos : Nat), .int .u32 (ep : Nat)] w (w2.alloc (.cells #[.slice A n c, .int .u64 (pos : Nat), .int .u32 (ep : Nat)] 28)) := H2.out.later ((Below.refl _ _).alloc (Nat.le_refl _) _)
  have cP := cell_row h3.pl 2
  simp only [List.getElem?_toArray, List.getElem?_cons_zero, List.getElem?_cons_succ] at cP
  have he1 := HE1.out
  clear h3
  go_upto_region 6 with (fail)
  have h4 : BX k #[.slice A n c, .int .u64 (pos : Nat), .int .u32 (ep : Nat)] w (w2.alloc (.cells #[.slice A n c, .int .u64 (pos : Nat), .int .u32 (ep1 : Nat)] 28)) := H2.out.later ((Below.refl _ _).alloc (Nat.le_refl _) _)
  have H4 := Lib.hid h4
  have HN4 := Lib.hid (Go.heap_alloc_new w2 (.cells #[.slice A n c, .int .u64 (pos : Nat), .int .u32 (ep1 : Nat)] 28))
  have Hs4 := Lib.hid (Hs3.out.alloc (.cells #[.slice A n c, .int .u64 (pos : Nat), .int .u32 (ep1 : Nat)] 28))
  clear h4 cP he1 Hs3 H2
  go_upto_region 7 with (first
    | (go_at_call 15; refine (open_any k C S pos ep1 A A3 n c (36 + B) c3 _ HK.out.1 HK.out.2 HC.out.1 HC.out.2.1 HC.out.2.2 HS.out.1 HS.out.2.1 HS.out.2.2 HP.out.1 (HCb.out.below H4.out.low (Nat.le_refl _)) Hs4.out (HLD.out.later H4.out.low)).mono ?_; rintro e w5 ⟨he, hb5⟩; rw [HO.out] at he; obtain ⟨v5, rfl, A5, c5, rfl, hy5⟩ := he; rw [HLL.out.1]; have Hy5 := Lib.hid hy5; have H5 := Lib.hid (H4.out.later hb5); clear hy5 hb5)
    | (refine wpList_load_row rfl 23 (.tmp 3) rfl w.heap.size rfl 23 (u8s k) (0, 0) _ H4.out.key Tryd.underlying23 rfl HsK0.out ?_)
    | (refine wpList_load_row rfl 28 (.tmp 9) rfl w2.heap.size rfl 28 #[.slice A n c, .int .u64 (pos : Nat), .int .u32 (ep1 : Nat)] (0, 0) _ HN4.out Tryd.underlying28 rfl infoP ?_))
  have cP := cell_row H5.out.pl 2
  simp only [List.getElem?_toArray, List.getElem?_cons_zero, List.getElem?_cons_succ] at cP
  have k1 := Cha.conv_any Hy5.out HLL.out.1
  have k2 := Cha.conv_any (HLb.out.below H5.out.low (Nat.le_refl _)) HLL.out.1
  clear H4 HN4 Hs4
  have hBI : 36 + (B : Int) ≤ 200000 := by have := HS.out.2.2; omega
  have hmI : (m : Int) ≤ 131068 := by have := HLL.out.2.2; omega
  go_wp2_with (first
    | (go_at_call 13; refine (HbB.out _).mono ?_; rintro e w' ⟨rfl, rfl⟩)
    | (go_at_call 10; refine (awake_any _ (HLD.out.later H5.out.low)).mono ?_; rintro e w6 ⟨rfl, hb6⟩; have Hb6 := Lib.hid hb6; clear hb6))
  go_ret
  exact ⟨rfl, H5.out.low.trans (Hb6.out.mono H5.out.low.size)⟩
theorem back_walk (k C L : List Int) (pos ep : Nat) (A A2 : Option Addr) (n c m c2 : Nat) (w : World) (hk : k.length = 32) (hkb : InB k) (hC : C.length = n) (hCin : InB C) (_hn : n ≤ 9223372036854775807) (hL : L.length = m) (hLin : InB L) (_hm : m ≤ 9223372036854775807) (hp : pos < 18446744073709551616 ∧ ep < 4294967296) (hCb : Byt w A c C) (hLb : Byt w A2 c2 L) (hLd : SLaid w) : Calls Tryd.prog 7 #[.agg (u8s k), .agg #[.slice A n c, .int .u64 (pos : Nat), .int .u32 (ep : Nat)], .slice A2 m c2] w fun e w' => e = .returned (.bool true) ∧ Below w.heap.size w w' := by
  by_cases hl : 3000 < m ∨ 200 < n
  · exact back_long k A A2 n c m c2 pos ep w hl hLd
  · exact back_few k C L pos ep A A2 n c m c2 w hk hkb hC hCin hL hLin hp hCb hLb hLd hl
end Go.Proofs.YtgkmbamoffolgaaDoor.Seal
/- DERIVED. The document's answer of layer 11: Number. -/
namespace Go.Proofs.YtgkmbamoffolgaaDoor.Seal
open Go.RowKit
theorem own_row {w : World} {g k : Nat} {L : List Int} (h : w.heap[g]? = some (.cells (u8s L) 5 (0, 0))) (hl : L.length = k) (hk : k ≤ maxLen) {B : Nat} (hB : B ≤ g) : OwnB B L (.slice (some ⟨g, 0, none⟩) k k) w := by
  subst hl
  exact ⟨by rw [vals_length, Nat.mul_one], .inr ⟨g, L.length, u8s L, rfl, hB, h, Nat.le_refl _, hk, by rw [u8s_size, Nat.mul_one], by rw [Nat.mul_one, show (u8s L).toList = vals L from rfl]; exact List.take_of_length_le (by rw [vals_length]; exact Nat.le_refl _)⟩⟩
theorem div_pow (n j : Nat) : n / 256 ^ j / 256 = n / 256 ^ (j + 1) := by rw [Nat.div_div_eq_div_mul, Nat.pow_succ]
set_option maxRecDepth 100000 in
set_option maxHeartbeats 1000000 in
theorem rnumber_any (n k : Nat) (hk : k ≤ 8) (hn : n < 18446744073709551616) (w : World) : Calls Tryd.prog 27 #[.int .u64 (n : Int), .int .i64 (k : Int)] w fun e w' => ∃ v, e = .returned v ∧ OwnB w.heap.size (numL n k) v w' ∧ Below w.heap.size w w' := by
  have km := mk_any k (by omega) w
  have hkI : (k : Int) ≤ 8 := by omega
  have HN := Lib.hid hn
  clear hn
  go_enter Tryd.func27, Tryd.ntmps27
  go_upto_region 3 with (fail)
  have r0 := Go.heap_alloc_new w (.cells (u8s (zeros k)) 5)
  have b0 : Below w.heap.size w (w.alloc (.cells (u8s (zeros k)) 5)) := (Below.refl _ _).alloc (Nat.le_refl _) _
  clear km
  generalize w.alloc _ = w0 at r0 b0 ⊢
  go_loopw [0, 6] (fun v x wr => ∃ j : Nat, j ≤ k ∧ v = .int .u64 ((n / 256 ^ j : Nat) : Int) ∧ x = .int .i64 ((k : Int) - 1 - j) ∧ Hid (wr.heap[w.heap.size]? = some (.cells (u8s (numI n k j)) 5 (0, 0))) ∧ Hid (Below w.heap.size w wr)) (fun _ x _ => (intOf x + 1).toNat)
  case atStart => exact ⟨0, Nat.zero_le _, by simp, by simp, by show _ = _; rw [r0]; simp [numI, numL], b0⟩
  case round =>
    obtain ⟨j, hj, rfl, rfl, hr, hb⟩ := hrel
    clear r0 b0
    by_cases hlt : j < k
    · obtain ⟨i, hi⟩ : ∃ i, i = k - 1 - j := ⟨_, rfl⟩
      have e : (k : Int) - 1 - (j : Int) = (i : Int) := by omega
      have hik : (i : Int) < (k : Int) := by omega
      have hin : i < k := by omega
      have hset := numI_set (n := n) hlt
      rw [← hi] at hset
      obtain ⟨m, hm⟩ : ∃ m : Nat, m = n / 256 ^ j := ⟨_, rfl⟩
      have hdp := div_pow n j
      rw [← hm] at hset hdp
      have hc := row8_cell hr.out i (by rw [numI_length hj]; exact hin)
      have hf := free_row hr.out i
      have Hr2 := row8_set hr.out i ((m % 256 : Nat) : Int)
      rw [hset] at Hr2
      have HR := Lib.hid Hr2
      have Hdp := Lib.hid hdp
      have Hm2 : Hid (m < 18446744073709551616) := by show _ < _; rw [hm]; exact Nat.lt_of_le_of_lt (Nat.div_le_self _ _) HN.out
      have he : (k : Int) - 1 - ((j + 1 : Nat) : Int) = (i : Int) - 1 := by omega
      have He := Lib.hid he
      rw [e, ← hm]
      clear Hr2 hset hi e hm hdp he
      go_wp2
      have hw : IntKind.u64.wrap ((m : Int) / 256) = ((n / 256 ^ (j + 1) : Nat) : Int) := by
        rw [← Hdp.out]
        have := Hm2.out
        simp [IntKind.wrap, IntKind.bits, IntKind.signed]; omega
      rw [hw]
      have hcast : ((m % 256 : Nat) : Int) = (m : Int) % 256 := by omega
      have hR := HR.out
      rw [hcast] at hR
      exact ⟨⟨j + 1, by omega, rfl, by rw [He.out], hR, Below.setCell (p := ⟨w.heap.size, i, none⟩) hb.out (Nat.le_refl _) _⟩, by simp [intOf]⟩
    · have e : (k : Int) - 1 - (j : Int) = -1 := by omega
      obtain rfl : j = k := by omega
      rw [e]
      clear e
      go_wp2
      go_ret
      refine ⟨_, rfl, own_row (k := j) (by have := hr.out; rwa [numI, Nat.sub_self, zeros, List.replicate_zero, List.nil_append] at this) (numL_length n j) (by unfold maxLen; omega) (Nat.le_refl _), hb.out⟩
end Go.Proofs.YtgkmbamoffolgaaDoor.Seal
/- DERIVED. PLAIN MATHEMATICS: the primes and the roots' digits that the reference of layer 1 looks for, and that what it does step by step ends at them. No program. -/
namespace Go.Proofs.YtgkmbamoffolgaaDoor
/-- the first 64 primes; the roots of the first 8, and the third roots of all, with 32 binary digits behind the point. -/
def PR : List Int := [2, 3, 5, 7, 11, 13, 17, 19, 23, 29, 31, 37, 41, 43, 47, 53, 59, 61, 67, 71, 73, 79, 83, 89, 97, 101, 103, 107, 109, 113, 127, 131, 137, 139, 149, 151, 157, 163, 167, 173, 179, 181, 191, 193, 197, 199, 211, 223, 227, 229, 233, 239, 241, 251, 257, 263, 269, 271, 277, 281, 283, 293, 307, 311]
def R2 : List Int := [6074000999, 7439101573, 9603838834, 11363415354, 14244795007, 15485724812, 17708603819, 18721328409]
def R3 : List Int := [5411319704, 6194414737, 7344290767, 8215976869, 9551921755, 10098905585, 11043570340, 11460697813, 12214315672, 13195500289, 13492127166, 14311783875, 14809980276, 15046980094, 15499789991, 16133124468, 16720292289, 16907126662, 17444216262, 17784676812, 17950125167, 18429019306, 18734950876, 19175934170, 19734090066, 20001703533, 20132865992, 20390182855, 20516441075, 20764397895, 21588763473, 21813078375, 22141143685, 22248366392, 22769593852, 22871018771, 23170020180, 23461497531, 23651862830, 23931792517, 24205322401, 24295138891, 24734567280, 24820601251, 24990902297, 25075189284, 25569408389, 26045227120, 26200031510, 26276752392, 26428864332, 26653801653, 26727943347, 27092625994, 27306805839, 27517677555, 27725365998, 27793908591, 27997534228, 28131656200, 28198240250, 28526537963, 28973835255, 29099129074]
/-- is a number no multiple of those of the list whose squares are not above it? -/
def runP : List Int → Int → Bool
  | [], _ => true
  | x :: r, c => if x * x ≤ c then (if c % x = 0 then false else runP r c) else true
/-- the primes below k + 2. -/
def prN (k : Nat) : List Int := PR.filter fun p => decide (p < (k : Int) + 2)
theorem prN_step_all : ∀ k : Fin 311, prN (k.val + 1) = if runP (prN k.val) ((k.val : Int) + 2) = true then prN k.val ++ [(k.val : Int) + 2] else prN k.val := by decide +kernel
theorem prN_take_all : ∀ k : Fin 312, prN k.val = PR.take (prN k.val).length := by decide +kernel
theorem prN_few_all : ∀ k : Fin 312, (prN k.val).length < 64 → k.val < 310 := by decide +kernel
theorem prN_in_all : ∀ k : Fin 312, (prN k.val).length ≤ 64 := by decide +kernel
theorem prN_step (k : Nat) (h : k < 311) : prN (k + 1) = if runP (prN k) ((k : Int) + 2) = true then prN k ++ [(k : Int) + 2] else prN k := prN_step_all ⟨k, h⟩
theorem prN_take (k : Nat) (h : k < 312) : prN k = PR.take (prN k).length := prN_take_all ⟨k, h⟩
theorem prN_few (k : Nat) (h : k < 312) (hl : (prN k).length < 64) : k < 310 := prN_few_all ⟨k, h⟩ hl
theorem PR_in_all : ∀ j : Fin 64, 2 ≤ PR.getD j.val 0 ∧ PR.getD j.val 0 < 312 := by decide +kernel
theorem PR_in (j : Nat) (h : j < 64) : 2 ≤ PR.getD j 0 ∧ PR.getD j 0 < 312 := PR_in_all ⟨j, h⟩
theorem PR_length : PR.length = 64 := rfl
theorem prN_zero : prN 0 = [] := by decide +kernel
/-- the loop's tests from the j-th on. -/
theorem runP_step {l : List Int} {c : Int} (j : Nat) (h : j < l.length) : runP (l.drop j) c = if l.getD j 0 * l.getD j 0 ≤ c then (if c % l.getD j 0 = 0 then false else runP (l.drop (j + 1)) c) else true := by
  rw [List.drop_eq_getElem_cons h]
  have e : l.getD j 0 = l[j] := by simp [List.getD_eq_getElem?_getD, h]
  rw [e]
  rfl
theorem runP_end {l : List Int} {c : Int} (j : Nat) (h : l.length ≤ j) : runP (l.drop j) c = true := by
  rw [List.drop_eq_nil_of_le h]; rfl
end Go.Proofs.YtgkmbamoffolgaaDoor
/- DERIVED. Rows of numbers of any kind that a call makes by append: what they hold, how they grow, what stays. No program. -/
namespace Go.Proofs.YtgkmbamoffolgaaDoor
open Go.RowKit
def valsK (k : IntKind) (L : List Int) : List Value := L.map (Value.int k)
theorem valsK_length (k : IntKind) (L : List Int) : (valsK k L).length = L.length := by simp [valsK]
theorem valsK_one (k : IntKind) (L : List Int) : ∀ u ∈ valsK k L, u.oneCell' = true := by
  intro u hu
  simp only [valsK, List.mem_map] at hu
  obtain ⟨x, _, rfl⟩ := hu
  rfl
theorem one_oneK (k : IntKind) (x : Int) : ∀ u ∈ [Value.int k x], u.oneCell' = true := by
  intro u hu
  simp at hu
  subst hu
  rfl
theorem valsK_u8 (L : List Int) : valsK .u8 L = vals L := rfl
theorem moreK (k : IntKind) (L : List Int) (x : Int) : valsK k L ++ [.int k x] = valsK k (L ++ [x]) := by simp [valsK]
theorem take_moreK (k : IntKind) {L : List Int} {j : Nat} (h : j < L.length) : valsK k (L.take j) ++ [.int k (L.getD j 0)] = valsK k (L.take (j + 1)) := by
  have e : L.getD j 0 = L[j] := by simp [List.getD_eq_getElem?_getD, h]
  rw [e, List.take_succ_eq_append_getElem h]
  simp only [valsK, List.map_append, List.map_cons, List.map_nil]
theorem take_getD {L : List Int} {j : Nat} (h : j < L.length) : L.take j ++ [L.getD j 0] = L.take (j + 1) := by
  have e : L.getD j 0 = L[j] := by simp [List.getD_eq_getElem?_getD, h]
  rw [e, List.take_succ_eq_append_getElem h]
/-- numbers that lie in a row, from its beginning on. -/
def RowK (k : IntKind) (w : World) (g : Nat) (L : List Int) : Prop := g < w.heap.size ∧ ∀ j, j < L.length → w.cell? ⟨g, j, none⟩ = some (.int k (L.getD j 0))
theorem RowK.below {k : IntKind} {w w' : World} {g B : Nat} {L : List Int} (h : RowK k w g L) (hb : Below B w w') (hB : g < B) : RowK k w' g L :=
  ⟨Nat.lt_of_lt_of_le h.1 hb.size, fun j hj => (World.cell?_of_block (hb.block _ hB)).trans (h.2 j hj)⟩
theorem RowK.later {k : IntKind} {w w' : World} {g : Nat} {L : List Int} (h : RowK k w g L) (hb : Below w.heap.size w w') : RowK k w' g L := h.below hb h.1
/-- what a value of the call's own holds: nothing, or a row of its own. -/
theorem own_rowK {k : IntKind} {w : World} {base n : Nat} {t : TypeId} {v : Value} {L : List Int} (h : w.ownsRow base t 1 v n (valsK k L)) (hl : L.length = n) (h0 : 0 < n) : ∃ g c, v = .slice (some ⟨g, 0, none⟩) n c ∧ n ≤ c ∧ base ≤ g ∧ RowK k w g L := by
  obtain ⟨_, h⟩ := h
  rcases h with ⟨_, h⟩ | ⟨g, cap, cur, hv, hb, hh, hcap, _, hs, ht⟩
  · omega
  · refine ⟨g, cap, hv, hcap, hb, (Array.getElem?_eq_some_iff.1 hh).1, fun j hj => ?_⟩
    rw [cell_row hh]
    have h2 : cur[j]? = cur.toList[j]? := by simp
    have h3 : (cur.toList.take (n * 1))[j]? = cur.toList[j]? := by rw [List.getElem?_take, if_pos (by omega)]
    rw [h2, ← h3, ht]
    simp [valsK, show j < L.length by omega]
theorem own_nilK {w : World} {base : Nat} {t : TypeId} {v : Value} {L : List Value} {n : Nat} (h : w.ownsRow base t 1 v n L) : ∃ A c, v = .slice A n c := by
  obtain ⟨_, h⟩ := h
  rcases h with ⟨h, h0⟩ | ⟨g, cap, cur, hv, _⟩
  · subst h0; exact ⟨none, 0, h⟩
  · exact ⟨_, cap, hv⟩
theorem RowK.byt {w : World} {g c : Nat} {L : List Int} (h : RowK .u8 w g L) (hc : L.length ≤ c) : Byt w (some ⟨g, 0, none⟩) c L :=
  ⟨hc, (fun h => by cases h), fun _ => ⟨g, 0, rfl, h.1, fun j hj => by rw [Nat.zero_add]; exact h.2 j hj⟩⟩
/-- a row of the call's own stays where nothing below a bound above it turns. -/
theorem own_stays {w w' : World} {base n s : Nat} {t : TypeId} {v : Value} {L : List Value} (h : w.ownsRow base t s v n L) (hb : Below w.heap.size w w') : w'.ownsRow base t s v n L := by
  obtain ⟨h1, h⟩ := h
  refine ⟨h1, ?_⟩
  rcases h with h | ⟨g, cap, cur, h1, h2, h3, h4, h5, h6, h7⟩
  · exact .inl h
  · exact .inr ⟨g, cap, cur, h1, h2, (hb.block _ (Array.getElem?_eq_some_iff.1 h3).1).trans h3, h4, h5, h6, h7⟩
theorem partsK {P : Program} {t : TypeId} {z : Value} {s b : Nat} (h : (P.info? t).map (fun i => (i.zero, i.size, i.bytes)) = some (some z, s, b)) : ∃ i, P.info? t = some i ∧ i.zero = some z ∧ i.size = s ∧ i.bytes = b := by
  cases hq : P.info? t with
  | none => rw [hq] at h; cases h
  | some i =>
    rw [hq] at h
    simp at h
    exact ⟨i, rfl, h.1, h.2.1, h.2.2⟩
theorem own_alloc {w : World} {base n s : Nat} {t : TypeId} {v : Value} {L : List Value} (h : w.ownsRow base t s v n L) (o : Obj) : (w.alloc o).ownsRow base t s v n L :=
  own_stays h ((Below.refl w.heap.size w).alloc (Nat.le_refl _) o)
/-- a row of the call's own, one number longer: what it holds then, what is as it was. -/
structure Grew (k : IntKind) (base : Nat) (e : TypeId) (n : Nat) (L : List Int) (y : Int) (wr : World) (v v' : Value) (w' : World) : Prop where
  own : w'.ownsRow base e 1 v' (n + 1) (valsK k (L ++ [y]))
  low : ∀ B u, Below B u wr → B ≤ base → Below B u w'
  keep : ∀ q b, wr.heap[q]? = some b → v.ownBlock ≠ some q → w'.heap[q]? = some b
  size : wr.heap.size ≤ w'.heap.size
theorem wpList_append_mine {P : Program} {k : IntKind} {wr : World} {ops : Array Oper} {rest : List Oper} {o : Oper} {a : Act} {Q : Exit → Act → World → Prop} (hgd : o.guard = none) (s x : Operand) (t : TypeId)
    (ho : o.op = .call { callee := .builtin .append, args := #[s, x], argTypes := #[t, t] }) (base : Nat) (e : TypeId) (i : TypeInfo) (z : Value) (bytes : Nat) (ht : P.underlying t = some (.slice e)) (hi : P.info? e = some i) (hz : i.zero = some z)
    (hsize : i.size = 1) (hby : i.bytes = bytes) (hzs : z.cells.size = 1) (hb8 : bytes ≤ 8) (v : Value) (n : Nat) (L : List Int) (y : Int) (hs : a.eval s = v) (hown : wr.ownsRow base e 1 v n (valsK k L)) (hx : a.eval x = .slice (some ⟨wr.heap.size, 0, none⟩) 1 1)
    (hn : n ≤ 100000) (hbase : base ≤ wr.heap.size) (h : ∀ v' w', Grew k base e n L y wr v v' w' → wpList P ops Q rest (a.put o.dst v') w') : wpList P ops Q (o :: rest) a (wr.alloc (.cells #[.int k y] e)) := by
  have hsz : (wr.alloc (.cells #[.int k y] e)).heap.size = wr.heap.size + 1 := by rw [World.size_alloc]
  have hge : ∀ q, v.ownBlock = some q → base ≤ q := fun q hq => (hown.lt q hq).1
  have hlt : ∀ q, v.ownBlock = some q → q < wr.heap.size := fun q hq => (hown.lt q hq).2
  refine wpList_append_own_at _ hgd s x t ho base e i z 1 bytes ht hi hz hsize hby hzs (by decide) v n (valsK k L) hs (own_alloc hown _) ⟨wr.heap.size, 0, none⟩ 1 1 [.int k y] hx rfl (cell_one_new _ _ _) (one_oneK k y) (by unfold maxLen; omega) (by have : (n + 1) * bytes ≤ (n + 1) * 8 := Nat.mul_le_mul_left _ hb8; omega) (by omega) ?_
  intro v' w' hown' hgrow _ _
  rw [moreK] at hown'
  have hs2 := hgrow.size
  exact h v' w' ⟨hown', fun B u hb hB => (hb.alloc (Nat.le_trans hB hbase) _).grown hgrow (by omega) (fun q hq => Nat.le_trans hB (hge q hq)), fun q b hq hne => by
    have hq2 := (Array.getElem?_eq_some_iff.1 hq).1
    rw [hgrow.block q (by omega) (fun e => hne (by rw [e]))]
    exact (Go.heap_alloc_old _ _ hq2).trans hq, by omega⟩
end Go.Proofs.YtgkmbamoffolgaaDoor
/- DERIVED. The contract of the reference's Primes of layer 1: the first so many. -/
namespace Go.Proofs.YtgkmbamoffolgaaDoor
open Go.RowKit
theorem info64 : (Tryd.prog.info? 25).map (fun i => (i.zero, i.size, i.bytes)) = some (some (.int .u64 0), 1, 8) := by kernel_rfl
theorem info32k : (Tryd.prog.info? 26).map (fun i => (i.zero, i.size, i.bytes)) = some (some (.int .u32 0), 1, 4) := by kernel_rfl
theorem info8k : (Tryd.prog.info? 5).map (fun i => (i.zero, i.size, i.bytes)) = some (some (.int .u8 0), 1, 1) := by kernel_rfl
theorem prN_at (k : Nat) (h : k < 312) (j : Nat) (hj : j < (prN k).length) : 2 ≤ (prN k).getD j 0 ∧ (prN k).getD j 0 < 312 := by
  have hl := prN_in_all ⟨k, h⟩
  have e := prN_take k h
  have : (prN k).getD j 0 = PR.getD j 0 := by
    rw [e]
    simp only [List.getD_eq_getElem?_getD, List.getElem?_take, if_pos hj]
  rw [this]
  exact PR_in j (by simp only at hl; omega)
attribute [local irreducible] prN runP
set_option maxRecDepth 100000 in
set_option maxHeartbeats 2000000 in
theorem primes_any (m : Nat) (hm0 : 0 < m) (hm : m ≤ 64) (w : World) :
    Calls Tryd.prog 78 #[.int .i64 (m : Int)] w fun e w' => ∃ g cap, e = .returned (.slice (some ⟨g, 0, none⟩) m cap) ∧ w.heap.size ≤ g ∧ RowK .u64 w' g (PR.take m) ∧ Below w.heap.size w w' := by
  obtain ⟨i64, hi64, hz640, hz641, hz642⟩ := partsK info64
  have gi := Lib.hid hi64
  have gz0 := Lib.hid hz640
  have gz1 := Lib.hid hz641
  have gz2 := Lib.hid hz642
  clear hi64 hz640 hz641 hz642
  go_enter Tryd.func78, Tryd.ntmps78
  go_wp2
  go_loopw [3, 4] (fun v c wr => ∃ k : Nat, k ≤ 310 ∧ c = .int .u64 ((k : Int) + 2) ∧ Hid (wr.ownsRow w.heap.size 25 1 v (prN k).length (valsK .u64 (prN k)) ∧ Below w.heap.size w wr ∧ (prN k).length ≤ m)) (fun _ c _ => 400 - (intOf c).toNat)
  case atStart => exact ⟨0, by omega, rfl, by { have := World.ownsRow_nil w w.heap.size 25 1; rw [prN_zero]; exact this }, Below.refl _ _, by rw [prN_zero]; exact Nat.zero_le _⟩
  case round =>
    obtain ⟨k, hk, rfl, hr⟩ := hrel
    obtain ⟨A, cap, rfl⟩ := own_nilK hr.out.1
    obtain ⟨n, hn⟩ : ∃ n, (prN k).length = n := ⟨_, rfl⟩
    have Hn := Lib.hid hn
    have hnm : n ≤ m := by rw [← hn]; exact hr.out.2.2
    by_cases hlt : n < m
    · have hk2 : k < 310 := prN_few k (by omega) (by omega)
      obtain ⟨c, hc⟩ : ∃ c, c = (k : Int) + 2 := ⟨_, rfl⟩
      have c0 : 2 ≤ c := by omega
      have c1 : c < 400 := by omega
      have hltI : (n : Int) < m := by omega
      have Hc := Lib.hid hc
      rw [← hc]
      rw [hn]
      have own : Hid (wr.ownsRow w.heap.size 25 1 (.slice A n cap) n (valsK .u64 (prN k))) := by have h := hr.out.1; rw [hn] at h; exact h
      have low := Lib.hid hr.out.2.1
      clear hc hr hn
      obtain ⟨wo, hwo⟩ : ∃ wo, wo = wr := ⟨_, rfl⟩
      subst hwo
      go_wp2
      go_loopw [5, 6] (fun b i wx => ∃ (j : Nat) (t : Bool), j ≤ n ∧ i = .int .i64 j ∧ b = .bool t ∧ Hid (∃ q, wx = wo.drewN q) ∧ Hid (runP (prN k) c = if t = true then runP ((prN k).drop j) c else false)) (fun _ i _ => n - (intOf i).toNat)
      case atStart => exact ⟨0, true, by omega, rfl, rfl, ⟨0, rfl⟩, by show _ = _; simp⟩
      case round =>
        obtain ⟨j, t, hj, rfl, rfl, hwx, hru⟩ := hrel
        obtain ⟨q0, hwq⟩ := hwx.out
        have Hwx := Lib.hid hwq
        clear hwx hwq
        cases t with
        | false =>
          have hstep : prN (k + 1) = prN k := by
            rw [prN_step k (by omega), ← Hc.out, hru.out]; rfl
          have Hst := Lib.hid hstep
          have hcn : ((k + 1 : Nat) : Int) + 2 = c + 1 := by rw [Hc.out]; omega
          have Hcn := Lib.hid hcn
          have fin : ∀ q, ((wo.drewN q).ownsRow w.heap.size 25 1 (.slice A n cap) (prN (k + 1)).length (valsK .u64 (prN (k + 1))) ∧ Below w.heap.size w (wo.drewN q) ∧ (prN (k + 1)).length ≤ m) := fun q => by
            rw [hstep, Hn.out]; exact ⟨own_stays own.out (Below.drewN (Below.refl _ _) q), Below.drewN low.out q, hnm⟩
          have Fin := Lib.hid fin
          clear hstep hcn fin
          by_cases hjn : j < n
          · have hjI : (j : Int) < n := by omega
            go_wp2
            go_quiet (fail)
            go_wp2
            go_roundw
            case rel => exact ⟨k + 1, by omega, by rw [Hcn.out], by rw [Hwx.out, World.drewN_drewN]; exact Fin.out _⟩
            case measure => simp [intOf]; omega
          · have hjI : ¬ (j : Int) < n := by omega
            go_wp2
            go_quiet (fail)
            go_wp2
            go_roundw
            case rel => exact ⟨k + 1, by omega, by rw [Hcn.out], by rw [Hwx.out, World.drewN_drewN]; exact Fin.out _⟩
            case measure => simp [intOf]; omega
        | true =>
          by_cases hjn : j < n
          · obtain ⟨g, c2, hv, _, hg, hrow⟩ := own_rowK own.out Hn.out (by omega)
            injection hv with hA hn2 hc2
            subst hA hc2
            obtain ⟨x, hx⟩ : ∃ x, (prN k).getD j 0 = x := ⟨_, rfl⟩
            have hxr := prN_at k (by omega) j (by rw [Hn.out]; exact hjn)
            rw [hx] at hxr
            obtain ⟨x0, x1⟩ := hxr
            have cell : wr.cell? ⟨g, j, none⟩ = some (.int .u64 x) := by rw [Hwx.out, ← hx]; exact hrow.2 j (by rw [Hn.out]; exact hjn)
            have hrs := hru.out
            simp only [if_true] at hrs
            rw [runP_step j (by rw [Hn.out]; exact hjn), hx] at hrs
            have hjI : (j : Int) < n := by omega
            have hxx0 : 0 ≤ x * x := Int.mul_nonneg (by omega) (by omega)
            have hxx1 : x * x < 100000 := by
              have h1 : x * x ≤ 311 * x := Int.mul_le_mul_of_nonneg_right (by omega) (by omega)
              omega
            have hxw : IntKind.u64.wrap (x * x) = x * x := by rw [show IntKind.u64.wrap (x * x) = (x * x) % 18446744073709551616 by simp [IntKind.wrap, IntKind.bits, IntKind.signed]]; omega
            have Hrs := Lib.hid hrs
            have hmod0 : 0 ≤ c % x := Int.emod_nonneg c (by omega)
            have hmod1 : c % x < x := Int.emod_lt_of_pos c (by omega)
            clear hx hrs hrow hg hru
            by_cases hsq : x * x ≤ c
            · by_cases hmod : c % x = 0
              · go_wp2
                go_quiet (fail)
                go_wp2
                go_roundw
                case rel => exact ⟨j + 1, false, by omega, by go_num, by simp, ⟨q0 + nq, by rw [Hwx.out, World.drewN_drewN]⟩, by show _ = _; rw [Hrs.out, if_pos hsq, if_pos hmod]; simp⟩
                case measure => simp [intOf]; omega
              · go_wp2
                go_quiet (fail)
                go_wp2
                go_roundw
                case rel => exact ⟨j + 1, true, by omega, by go_num, by simp [hmod], ⟨q0 + nq, by rw [Hwx.out, World.drewN_drewN]⟩, by show _ = _; rw [Hrs.out, if_pos hsq, if_neg hmod]; simp⟩
                case measure => simp [intOf]; omega
            · have hrt : runP (prN k) c = true := by rw [Hrs.out, if_neg hsq]
              have hstep : prN (k + 1) = prN k ++ [c] := by
                rw [prN_step k (by omega), ← Hc.out, hrt]; rfl
              have Hst := Lib.hid hstep
              have hcn : ((k + 1 : Nat) : Int) + 2 = c + 1 := by rw [Hc.out]; omega
              have Hcn := Lib.hid hcn
              have own2 := fun q => own_stays own.out (Below.drewN (Below.refl wo.heap.size wo) q)
              have low2 := fun q => Below.drewN low.out q
              have Own2 := Lib.hid own2
              have Low2 := Lib.hid low2
              clear hstep hcn hrt own2 low2
              go_wp2
              go_quiet (fail)
              go_wp2_with (at_builtin; refine wpList_append_mine rfl (.tmp 43) (.tmp 45) 114 rfl w.heap.size 25 i64 (.int .u64 0) 8 Tryd.underlying114 gi.out gz0.out gz1.out gz2.out rfl (by decide) _ n (prN k) c rfl (by rw [Hwx.out, World.drewN_drewN]; exact Own2.out _) rfl (by omega) (by rw [Hwx.out, World.drewN_drewN]; exact (Low2.out _).size) ?_; intro v' w' hg; have Hg := Lib.hid hg; clear hg)
              go_roundw
              case rel => exact ⟨k + 1, by omega, by rw [Hcn.out], by rw [Hst.out, List.length_append, Hn.out]; exact ⟨Hg.out.own, Hg.out.low _ _ (by rw [Hwx.out, World.drewN_drewN]; exact Low2.out _) (Nat.le_refl _), by simp; omega⟩⟩
              case measure => simp [intOf]; omega
          · obtain rfl : n = j := by omega
            have hrs := hru.out
            simp only [if_true] at hrs
            rw [runP_end _ (by rw [Hn.out]; exact Nat.le_refl _)] at hrs
            have hrt := hrs
            clear hrs hru
            have hstep : prN (k + 1) = prN k ++ [c] := by
              rw [prN_step k (by omega), ← Hc.out, hrt]; rfl
            have Hst := Lib.hid hstep
            have hcn : ((k + 1 : Nat) : Int) + 2 = c + 1 := by rw [Hc.out]; omega
            have Hcn := Lib.hid hcn
            have own2 := fun q => own_stays own.out (Below.drewN (Below.refl wo.heap.size wo) q)
            have low2 := fun q => Below.drewN low.out q
            have Own2 := Lib.hid own2
            have Low2 := Lib.hid low2
            clear hstep hcn hrt own2 low2
            go_wp2
            go_quiet (fail)
            go_wp2_with (at_builtin; refine wpList_append_mine rfl (.tmp 43) (.tmp 45) 114 rfl w.heap.size 25 i64 (.int .u64 0) 8 Tryd.underlying114 gi.out gz0.out gz1.out gz2.out rfl (by decide) _ n (prN k) c rfl (by rw [Hwx.out, World.drewN_drewN]; exact Own2.out _) rfl (by omega) (by rw [Hwx.out, World.drewN_drewN]; exact (Low2.out _).size) ?_; intro v' w' hg; have Hg := Lib.hid hg; clear hg)
            go_roundw
            case rel => exact ⟨k + 1, by omega, by rw [Hcn.out], by rw [Hst.out, List.length_append, Hn.out]; exact ⟨Hg.out.own, Hg.out.low _ _ (by rw [Hwx.out, World.drewN_drewN]; exact Low2.out _) (Nat.le_refl _), by simp; omega⟩⟩
            case measure => simp [intOf]; omega
    · have e : n = m := by omega
      subst e
      have hrow := hr.out.1
      have low := hr.out.2.1
      obtain ⟨g, c2, hv, _, hg, hrw⟩ := own_rowK hrow rfl (by omega)
      rw [hn] at hv
      injection hv with hA hn2 hc2
      subst hA hc2
      rw [prN_take k (by omega), hn] at hrw
      rw [hn]
      have Hrw := Lib.hid hrw
      have Low := Lib.hid low
      have hltI : ¬ (n : Int) < n := by omega
      clear hrw low hrow hr hn Hn
      go_wp2
      go_ret
      exact ⟨g, ⟨cap, rfl⟩, hg, Hrw.out, Low.out⟩
end Go.Proofs.YtgkmbamoffolgaaDoor
