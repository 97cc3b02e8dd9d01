/- DERIVED. The walk of the law ChachaBack. -/
import Derived.Test.YtdkfofnkacmliaaDoorChaBackMath
import Derived.Test.YtdkfofnkacmliaaDoorChaAwake
import Derived.Test.YtdkfofnkacmliaaDoorRegionCall
import Derived.Deep.DeepCutAuto
import Derived.Deep.RegionWith
import Derived.Deep.MidRow
import Derived.StillTailTactics
import Derived.BigQuiet
namespace Go.Proofs.YtdkfofnkacmliaaDoor.Cha
open Go.RowKit
/-- a Case's cells: the key, the counter, the nonce. -/
def caseC (K : List Int) (c : Int) (Nn : List Int) : Array Value := (K.map (Value.int .u8) ++ (.int .u32 c :: Nn.map (Value.int .u8))).toArray
/-- the Case that lies in the box N. -/
def CaseAt (K : List Int) (c : Int) (Nn : List Int) (N : Nat) (w : World) : Prop := w.heap[N]? = some (.cells (caseC K c Nn) 37 (0, 0))
theorem CaseAt.below {K Nn : List Int} {c : Int} {N B : Nat} {w w' : World} (h : CaseAt K c Nn N w) (hb : Below B w w') (hB : N < B) : CaseAt K c Nn N w' := (hb.block _ hB).trans h
section
variable {K Nn : List Int} {c : Int} {N : Nat} {w : World}
theorem CaseAt.key (h : CaseAt K c Nn N w) (hK : K.length = 32) : (loadK (.pointer (some ⟨N, 0, none⟩))).run Tryd.prog w = .ok (.agg (u8s K)) w := by
  unfold loadK
  refine run_loadAt_mid w N 0 _ (K.map (Value.int .u8)) _ ?_ Tryd.underlying25 rfl (by rw [List.length_map, hK]; kernel_rfl)
  intro j v hj
  have hjl : j < K.length := by simpa using (List.getElem?_eq_some_iff.1 hj).1
  rw [Nat.zero_add, cell_row h]
  unfold caseC
  rw [List.getElem?_toArray, List.getElem?_append_left (by simpa using hjl)]
  exact hj
theorem CaseAt.count (h : CaseAt K c Nn N w) (hK : K.length = 32) : w.cell? ⟨N, 32, none⟩ = some (.int .u32 c) := by
  rw [cell_row h]
  unfold caseC
  rw [List.getElem?_toArray, List.getElem?_append_right (by simp [hK])]
  simp [hK]
theorem CaseAt.nonce (h : CaseAt K c Nn N w) (hK : K.length = 32) (hN : Nn.length = 12) : (loadN (.pointer (some ⟨N, 33, none⟩))).run Tryd.prog w = .ok (.agg (u8s Nn)) w := by
  unfold loadN
  refine run_loadAt_mid w N 33 _ (Nn.map (Value.int .u8)) _ ?_ Tryd.underlying27 rfl (by rw [List.length_map, hN]; kernel_rfl)
  intro j v hj
  rw [cell_row h]
  unfold caseC
  rw [List.getElem?_toArray, List.getElem?_append_right (by simp [hK]; omega), List.length_map, hK, show 33 + j - 32 = j + 1 by omega]
  exact hj
end
attribute [local go_sem ↓ high] loadAtK loadAtN
set_option maxRecDepth 100000 in
set_option maxHeartbeats 1000000 in
/-- more than 2000 bytes. -/
theorem back_big (K Nn : List Int) (c t : Int) (A : Option Addr) (n cap : Nat) (hn : 2000 < n) (w : World) :
    Calls Tryd.prog 6 #[.agg (caseC K c Nn), .slice A n cap, .int .u16 t] w fun e w' => e = .returned (.bool true) ∧ Below w.heap.size w w' := by
  have hn' : (2000 : Int) < (n : Int) := by omega
  clear hn
  go_enter Tryd.func6, Tryd.ntmps6
  go_wp2_with (go_at_call 11; refine (awake_any _).mono ?_; rintro e w1 ⟨rfl, low1⟩; have Low1 := Lib.hid low1; clear low1)
  go_ret
  exact ⟨rfl, (((Below.refl _ _).alloc (Nat.le_refl _) _).trans (Low1.out.mono (by simp)))⟩
set_option maxRecDepth 100000 in
set_option maxHeartbeats 1000000 in
/-- there are too few counters. -/
theorem back_no (K Nn : List Int) (c t : Int) (A : Option Addr) (n cap : Nat) (hK : K.length = 32) (hN : Nn.length = 12) (hn : n ≤ 2000) (c0 : 0 ≤ c) (c1 : c < 4294967296) (cb : ¬ c + (nbl n : Nat) ≤ 4294967296) (w : World) :
    Calls Tryd.prog 6 #[.agg (caseC K c Nn), .slice A n cap, .int .u16 t] w fun e w' => e = .returned (.bool true) ∧ Below w.heap.size w w' := by
  have hn' : ¬ (2000 : Int) < (n : Int) := by omega
  have hcase : CaseAt K c Nn w.heap.size (w.alloc (.cells (caseC K c Nn) 37)) := Go.heap_alloc_new _ _
  have k1 := hcase.key hK
  have k2 := hcase.count hK
  have k3 := hcase.nonce hK hN
  have Hst := Lib.hid (stream_no K Nn c A n cap (by omega) c0 c1 cb)
  clear hn cb c1 hK hN hcase
  go_enter Tryd.func6, Tryd.ntmps6
  go_wp2_with (first
    | (go_at_call 12; refine (Hst.out _).mono ?_; rintro e w1 ⟨rfl, low1⟩; have Low1 := Lib.hid low1; clear low1)
    | (go_at_call 11; refine (awake_any _).mono ?_; rintro e w2 ⟨rfl, low2⟩; have Low2 := Lib.hid low2; clear low2))
  go_ret
  exact ⟨rfl, (((Below.refl _ _).alloc (Nat.le_refl _) _).trans (Low1.out.mono (by simp))).trans (Low2.out.mono (by have := Low1.out.size; simp at this; omega))⟩
theorem low_case {K Nn : List Int} {c : Int} (w : World) : Below w.heap.size w (w.alloc (.cells (caseC K c Nn) 37)) := (Below.refl _ _).alloc (Nat.le_refl _) _
/-- what is known of the world behind a call: the Case, the table, the bytes. -/
structure BI (K : List Int) (c : Int) (Nn : List Int) (w wx : World) : Prop where
  case : CaseAt K c Nn w.heap.size wx
  laid : Laid wx
  low : Below w.heap.size w wx
theorem BI.later {K Nn : List Int} {c : Int} {w wx wy : World} (h : BI K c Nn w wx) (hL : Laid w) (hb : Below wx.heap.size wx wy) : BI K c Nn w wy :=
  have hs : w.heap.size < wx.heap.size := (Array.getElem?_eq_some_iff.1 h.case).1
  ⟨h.case.below hb hs, h.laid.below hb (by have := hL.lt; omega), h.low.trans (hb.mono (by omega))⟩
theorem BI.start {K Nn : List Int} {c : Int} {w : World} (hL : Laid w) : BI K c Nn w (w.alloc (.cells (caseC K c Nn) 37)) :=
  ⟨Go.heap_alloc_new _ _, hL.below (low_case w) hL.lt, low_case w⟩
end Go.Proofs.YtdkfofnkacmliaaDoor.Cha
