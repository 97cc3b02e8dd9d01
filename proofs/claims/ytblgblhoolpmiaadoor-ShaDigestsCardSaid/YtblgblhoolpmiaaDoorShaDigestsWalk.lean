/- DERIVED. The walk of the law ShaDigests: the digest of any bytes, beside the reference's. -/
import Derived.Test.YtblgblhoolpmiaaDoorRef1Sum
import Derived.Test.YtblgblhoolpmiaaDoorShaAwake
import Derived.Test.YtblgblhoolpmiaaDoorShaResumeMath
import Derived.Test.YtblgblhoolpmiaaDoorStr
import Derived.Test.YtblgblhoolpmiaaDoorOwn2
import Derived.Deep.RegionWith
namespace Go.Proofs.YtblgblhoolpmiaaDoor.lawDigests
open Go.RowKit
theorem sum_length (L : List Int) : (sumL L).length = 32 := by rw [sumL, fin, hashL_length]
set_option maxRecDepth 100000 in
set_option maxHeartbeats 1000000 in
theorem walk_long (A : Option Addr) (c m : Nat) (w : World) (hL : Laid w) (hm : 3000 < m) (hx : m ≤ 9223372036854775807) :
    Calls Tryd.prog 4 #[.slice A m c] w fun e' w' => e' = .returned (.bool true) ∧ Below w.heap.size w w' := by
  have HL := Lib.hid hL
  have hm' : (3000 : Int) < m := by omega
  clear hL hx hm
  go_enter Tryd.func4, Tryd.ntmps4
  go_wp2_with (go_at_call 14; refine (awake_any _ HL.out).mono ?_; rintro e w1 ⟨rfl, low1⟩)
  go_ret
  exact ⟨rfl, low1⟩
set_option maxRecDepth 100000 in
set_option maxHeartbeats 2000000 in
theorem walk_short (L : List Int) (A : Option Addr) (c m : Nat) (w : World) (hm : L.length = m) (hb : InB L) (hB : Byt w A c L) (hL : Laid w) (hs : m ≤ 3000) :
    Calls Tryd.prog 4 #[.slice A m c] w fun e' w' => e' = .returned (.bool true) ∧ Below w.heap.size w w' := by
  have Hm := Lib.hid hm
  have Hb := Lib.hid hb
  have HB := Lib.hid hB
  have HL := Lib.hid hL
  have hsz := hL.sz
  have hs' : ¬ (3000 : Int) < m := by omega
  obtain ⟨X, hX⟩ : ∃ X, X = sumL L := ⟨_, rfl⟩
  have hX3 : X.length = 32 := by rw [hX, sum_length]
  have e0 := fun W => eql35_same X hX3 W
  have HX := Lib.hid hX
  clear hm hb hB hL hX hX3
  have o0 := Lib.hid (own_empty w)
  have low0 := Lib.hid ((Below.refl w.heap.size w).alloc (Nat.le_refl _) (.cells #[] 5))
  go_enter Tryd.func4, Tryd.ntmps4
  go_wp2_with (first
    | (at_builtin; refine lawAnybody.wpList_append_byt rfl (.tmp 8) (.tmp 9) rfl w.heap.size _ 0 [] rfl o0.out A m c L rfl Hm.out (HB.out.below low0.out (Nat.le_refl _)) (by omega) (by simp) ?_; intro v1 w1 hown1 hlow1 _; have Low1 := Lib.hid (hlow1 _ _ low0.out (Nat.le_refl _)); simp only [List.nil_append, Nat.zero_add] at hown1; have hq1 : ∃ A c, v1 = .slice A m c ∧ Byt w1 A c L := own_bytK (base := w.heap.size) (t := 5) hown1 Hm.out; obtain ⟨A1, c1, hv1, byt1⟩ := hq1; subst hv1; have Byt1 := Lib.hid byt1; clear hown1 hlow1 byt1)
    | (go_at_call 15; refine (sum_any L A1 c1 m w1 Hm.out Hb.out Byt1.out (HL.out.below Low1.out hsz) (by omega)).mono ?_; rintro e w2 ⟨rfl, low2⟩; rw [← HX.out]; have Low2 := Lib.hid (Low1.out.trans (low2.mono Low1.out.size)); have Byt2 := Lib.hid (Byt1.out.below low2 (Nat.le_refl _)); clear low2 Byt1)
    | (go_at_call 16; refine (rsum_any L A c m w2 Hm.out Hb.out (HB.out.below Low2.out (Nat.le_refl _)) (by omega)).mono ?_; rintro e w3 ⟨rfl, low3⟩; rw [← HX.out]; have Low3 := Lib.hid (Low2.out.trans (low3.mono Low2.out.size)); have cv1 := Str.conv_any (Byt2.out.below low3 (Nat.le_refl _)) Hm.out; have cv2 := Str.conv_any (HB.out.below Low3.out (Nat.le_refl _)) Hm.out; clear low3)
    | (go_at_call 14; refine (awake_any _ (HL.out.below Low3.out hsz)).mono ?_; rintro e w4 ⟨rfl, low4⟩; have Low4 := Lib.hid (Low3.out.trans (low4.mono Low3.out.size)); clear low4))
  go_ret
  exact ⟨rfl, Low4.out⟩
end Go.Proofs.YtblgblhoolpmiaaDoor.lawDigests
