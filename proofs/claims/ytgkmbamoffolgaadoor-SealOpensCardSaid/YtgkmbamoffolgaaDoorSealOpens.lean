/- DERIVED. The walk of SealOpens. -/
import Derived.Test.YtgkmbamoffolgaaDoorRefSealOpen
namespace Go.Proofs.YtgkmbamoffolgaaDoor.Seal
open Go.RowKit
set_option maxRecDepth 100000 in
set_option maxHeartbeats 4000000 in
theorem opens_long (k : List Int) (A A2 : Option Addr) (n c m c2 pos ep : Nat) (w : World) (hl : 3000 < m ∨ 200 < n) (hLd : SLaid w) : Calls Tryd.prog 4 #[.agg (u8s k), .agg #[.slice A n c, .int .u64 (pos : Nat), .int .u32 (ep : Nat)], .slice A2 m c2] w fun e w' => e = .returned (.bool true) ∧ Below w.heap.size w w' := by
  have HLg := Lib.hid (long_yes (A := A) (A2 := A2) (c := c) (c2 := c2) (pos := .int .u64 (pos : Nat)) (ep := .int .u32 (ep : Nat)) hl)
  have HX := Lib.hid (BX.start (k := k) (C := #[.slice A n c, .int .u64 (pos : Nat), .int .u32 (ep : Nat)]) (w := w) (.cells #[.slice A2 m c2] 24))
  have HLD := Lib.hid hLd
  clear hl hLd
  go_enter Tryd.func4, Tryd.ntmps4
  go_wp2_with (first
    | (go_at_call 9; refine (HLg.out _ _ (cell_row (three_new w _ _ _).2.2 0)).mono ?_; rintro e w1 ⟨rfl, hb1⟩; have Hb1 := Lib.hid (HX.out.later hb1); clear hb1)
    | (go_at_call 10; refine (awake_any _ (HLD.out.later Hb1.out.low)).mono ?_; rintro e w2 ⟨rfl, hb2⟩; have Hb2 := Lib.hid hb2; clear hb2))
  go_ret
  exact ⟨rfl, Hb1.out.low.trans (Hb2.out.mono Hb1.out.low.size)⟩
/-- what both answer: a slice that reads as X, an epoch, an error. -/
theorem open_told (r : Option (List Int × Nat)) : ∃ (X : List Int) (x e9 : Int), ∀ (e : Ending) (w' : World), OpenQ r e w' → ∃ A c, e = .returned (.tuple #[.slice A X.length c, .int .u32 x, .int .i64 e9]) ∧ Byt w' A c X := by
  cases r with
  | none => exact ⟨[], 0, 9, fun e w' h => ⟨none, 0, h, Nat.le_refl _, fun _ => rfl, fun h => absurd h (Nat.lt_irrefl 0)⟩⟩
  | some x =>
    refine ⟨x.1, x.2, 0, fun e w' h => ?_⟩
    obtain ⟨v, rfl, A, c, rfl, hb⟩ := h
    exact ⟨A, c, rfl, hb⟩
set_option maxRecDepth 100000 in
set_option maxHeartbeats 4000000 in
theorem opens_few (k C S : List Int) (pos ep : Nat) (A A2 : Option Addr) (n c m c2 : Nat) (w : World) (hk : k.length = 32) (hkb : InB k) (hC : C.length = n) (hCin : InB C) (hS : S.length = m) (hSin : InB S) (hp : pos < 18446744073709551616 ∧ ep < 4294967296) (hCb : Byt w A c C) (hSb : Byt w A2 c2 S) (hLd : SLaid w) (hl : ¬ (3000 < m ∨ 200 < n)) : Calls Tryd.prog 4 #[.agg (u8s k), .agg #[.slice A n c, .int .u64 (pos : Nat), .int .u32 (ep : Nat)], .slice A2 m c2] w fun e w' => e = .returned (.bool true) ∧ Below w.heap.size w w' := by
  have HLg := Lib.hid (long_not (A := A) (A2 := A2) (c := c) (c2 := c2) (pos := .int .u64 (pos : Nat)) (ep := .int .u32 (ep : Nat)) hl)
  have HX := Lib.hid (BX.start (k := k) (C := #[.slice A n c, .int .u64 (pos : Nat), .int .u32 (ep : Nat)]) (w := w) (.cells #[.slice A2 m c2] 24))
  have hm : m ≤ 3000 := by omega
  have hn : n ≤ 200 := by omega
  obtain ⟨r, hr⟩ : ∃ r, r = openL k C pos S := ⟨_, rfl⟩
  obtain ⟨X, x8, e9, hT⟩ := open_told r
  have HT := Lib.hid hT
  have HrE : Hid (openL k C pos S = r) := hr.symm
  have HK : Hid (k.length = 32 ∧ InB k) := ⟨hk, hkb⟩
  have HC : Hid (C.length = n ∧ InB C ∧ n ≤ 1000) := ⟨hC, hCin, by omega⟩
  have HSS : Hid (S.length = m ∧ InB S ∧ m ≤ 3000) := ⟨hS, hSin, by omega⟩
  have HP := Lib.hid hp
  have HCb := Lib.hid hCb
  have HSb := Lib.hid hSb
  have HLD := Lib.hid hLd
  have HsK0 : Hid ((Tryd.prog.info? 23).map (·.size) = some (u8s k).size) := by show _ = _; rw [u8s_size, hk]; exact infoH
  clear hl hT hr hk hkb hC hCin hS hSin hp hCb hSb hLd hm hn
  go_enter Tryd.func4, Tryd.ntmps4
  go_upto_region 3 with (go_at_call 9; refine (HLg.out _ _ (cell_row (three_new w _ _ _).2.2 0)).mono ?_; rintro e w1 ⟨rfl, hb1⟩; have H1 := Lib.hid (HX.out.later hb1); clear hb1)
  clear HX HLg
  have hmade := World.ownsRow_made w1 (base := w1.heap.size) (e := 5) (size := 1) #[] 0 (Nat.le_refl _) (by unfold maxLen; omega) rfl
  have Hmade := Lib.hid hmade
  clear hmade
  go_upto_region 4 with (at_builtin; refine wpList_append_any rfl (.tmp 19) (.tmp 20) rfl w1.heap.size _ 0 [] rfl Hmade.out A2 m c2 S rfl HSS.out.1 (HSb.out.below (H1.out.low.trans (((Below.refl _ _).alloc (Nat.le_refl _) _).mono H1.out.low.size)) (Nat.le_refl _)) (by have := HSS.out.2.2; omega) (by rw [World.size_alloc]; omega) ?_; intro v2 w2 own2 low2; have h2 : OwnB w1.heap.size S v2 w2 := own_app (L := []) (n := 0) rfl HSS.out.1 own2; have hb2 := low2 _ _ ((Below.refl w1.heap.size w1).alloc (Nat.le_refl _) _) (Nat.le_refl _); obtain ⟨A7, c7, rfl, b7⟩ := h2.sl; rw [HSS.out.1]; have Hs7 := Lib.hid b7; have H2 := Lib.hid (H1.out.later hb2); clear h2 hb2 b7 own2 low2)
  clear Hmade H1
  go_upto_region 5 with (first
    | (go_at_call 15; refine (open_any k C S pos ep A A7 n c m c7 w2 HK.out.1 HK.out.2 HC.out.1 HC.out.2.1 HC.out.2.2 HSS.out.1 HSS.out.2.1 (by have := HSS.out.2.2; omega) HP.out.1 (HCb.out.below H2.out.low (Nat.le_refl _)) Hs7.out (HLD.out.later H2.out.low)).mono ?_; rintro e w3 ⟨he, hb3⟩; rw [HrE.out] at he; obtain ⟨A8, c8, rfl, b8⟩ := HT.out _ _ he; have B8 := Lib.hid b8; have Hb3 := Lib.hid hb3; have H3 := Lib.hid (H2.out.later hb3); clear he b8 hb3)
    | (refine wpList_load_row rfl 23 (.tmp 3) rfl w.heap.size rfl 23 (u8s k) (0, 0) _ H2.out.key Tryd.underlying23 rfl HsK0.out ?_)
    | (refine wpList_load_row rfl 28 (.tmp 4) rfl (w.heap.size + 1) rfl 28 #[.slice A n c, .int .u64 (pos : Nat), .int .u32 (ep : Nat)] (0, 0) _ H2.out.pl Tryd.underlying28 rfl infoP ?_))
  have cP0 := cell_row H3.out.pl 0
  have cP1 := cell_row H3.out.pl 1
  simp only [List.getElem?_toArray, List.getElem?_cons_zero, List.getElem?_cons_succ] at cP0 cP1
  go_upto_region 6 with (first
    | (go_at_call 16; refine (ropen_any k C S pos A A2 n c m c2 w3 HK.out.1 HK.out.2 HC.out.1 HC.out.2.1 HC.out.2.2 HSS.out.1 HSS.out.2.1 (by have := HSS.out.2.2; omega) HP.out.1 (HCb.out.below H3.out.low (Nat.le_refl _)) (HSb.out.below H3.out.low (Nat.le_refl _))).mono ?_; rintro e w4 ⟨he, hb4⟩; rw [HrE.out] at he; obtain ⟨A9, c9, rfl, b9⟩ := HT.out _ _ he; have B9 := Lib.hid b9; have Hb4 := Lib.hid hb4; clear he b9 hb4)
    | (refine wpList_load_row rfl 23 (.tmp 3) rfl w.heap.size rfl 23 (u8s k) (0, 0) _ H3.out.key Tryd.underlying23 rfl HsK0.out ?_))
  have Hb24 := Lib.hid (Hb3.out.trans (Hb4.out.mono Hb3.out.size))
  have Hlow := Lib.hid (H3.out.low.trans (Hb4.out.mono H3.out.low.size))
  obtain ⟨lX, hlX⟩ : ∃ lX, X.length = lX := ⟨_, rfl⟩
  have k1 := Cha.conv_any (B8.out.below Hb4.out (Nat.le_refl _)) hlX
  have k2 := Cha.conv_any B9.out hlX
  have k3 := Cha.conv_any (Hs7.out.below Hb24.out (Nat.le_refl _)) HSS.out.1
  have k4 := Cha.conv_any (HSb.out.below Hlow.out (Nat.le_refl _)) HSS.out.1
  rw [hlX]
  clear cP0 cP1 hlX
  go_wp2_with (go_at_call 10; refine (awake_any _ (HLD.out.later Hlow.out)).mono ?_; rintro e w9 ⟨rfl, low9⟩; have Low9 := Lib.hid (Hlow.out.trans (low9.mono Hlow.out.size)); clear low9)
  go_ret
  exact ⟨rfl, Low9.out⟩
theorem opens_walk (k C S : List Int) (pos ep : Nat) (A A2 : Option Addr) (n c m c2 : Nat) (w : World) (hk : k.length = 32) (hkb : InB k) (hC : C.length = n) (hCin : InB C) (_hn : n ≤ 9223372036854775807) (hS : S.length = m) (hSin : InB S) (_hm : m ≤ 9223372036854775807) (hp : pos < 18446744073709551616 ∧ ep < 4294967296) (hCb : Byt w A c C) (hSb : Byt w A2 c2 S) (hLd : SLaid w) : Calls Tryd.prog 4 #[.agg (u8s k), .agg #[.slice A n c, .int .u64 (pos : Nat), .int .u32 (ep : Nat)], .slice A2 m c2] w fun e w' => e = .returned (.bool true) ∧ Below w.heap.size w w' := by
  by_cases hl : 3000 < m ∨ 200 < n
  · exact opens_long k A A2 n c m c2 pos ep w hl hLd
  · exact opens_few k C S pos ep A A2 n c m c2 w hk hkb hC hCin hS hSin hp hCb hSb hLd hl
end Go.Proofs.YtgkmbamoffolgaaDoor.Seal
