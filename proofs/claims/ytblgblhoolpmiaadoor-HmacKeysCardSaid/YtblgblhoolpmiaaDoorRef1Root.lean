/- DERIVED. Contracts of math/bits.Mul64 and of the reference's within and Root of layer 1: what they return is what the closed facts on roots are about. -/
import Derived.Test.YtblgblhoolpmiaaDoorProg
import Derived.Test.YtblgblhoolpmiaaDoorRef1Math
import Derived.Deep.QuietTactic
import Derived.BigQuiet
namespace Go.Proofs.YtblgblhoolpmiaaDoor
open Go.RowKit
/-- the halves of a product, in the words of the walk. -/
def mulT (x y : Int) : Int := IntKind.u64.wrap (IntKind.u64.wrap (x / 4294967296 * bits .and .u64 y 4294967295) + IntKind.u64.wrap (bits .and .u64 x 4294967295 * bits .and .u64 y 4294967295) / 4294967296)
def mulHi (x y : Int) : Int := IntKind.u64.wrap (IntKind.u64.wrap (IntKind.u64.wrap (x / 4294967296 * (y / 4294967296)) + mulT x y / 4294967296) + IntKind.u64.wrap (bits .and .u64 (mulT x y) 4294967295 + IntKind.u64.wrap (bits .and .u64 x 4294967295 * (y / 4294967296))) / 4294967296)
def mulLo (x y : Int) : Int := IntKind.u64.wrap (x * y)
set_option maxHeartbeats 400000 in
theorem mul64_any (x y : Int) (w : World) :
    Calls Tryd.prog 54 #[.int .u64 x, .int .u64 y] w fun e w' => e = .returned (.tuple #[.int .u64 (mulHi x y), .int .u64 (mulLo x y)]) ∧ w = w' := by
  go_enter Tryd.func54, Tryd.ntmps54
  go_wp2
  exact bodyPost_ret (results_tmp2 rfl _ _ _) rfl ⟨rfl, rfl⟩
/-- within, at 2 and at 3. -/
def within2 (x p : Int) : Bool := decide (mulHi x x < p) || (decide (mulHi x x = p) && decide (mulLo x x = 0))
def more3 (x : Int) : Int := IntKind.u64.wrap (mulHi (mulLo x x) x + IntKind.u64.wrap (mulHi x x * x))
def within3 (x p : Int) : Bool := decide (more3 x < 4294967296 * p) || (decide (more3 x = 4294967296 * p) && decide (mulLo (mulLo x x) x = 0))
def withinM (m x p : Int) : Bool := if m = 2 then within2 x p else within3 x p
set_option maxHeartbeats 1000000 in
theorem within2_any (x p : Int) (w : World) :
    Calls Tryd.prog 45 #[.int .u64 x, .int .u64 p, .int .i64 2] w fun e w' => e = .returned (.bool (within2 x p)) ∧ w = w' := by
  obtain ⟨hi, hhi⟩ : ∃ hi, mulHi x x = hi := ⟨_, rfl⟩
  obtain ⟨lo, hlo⟩ : ∃ lo, mulLo x x = lo := ⟨_, rfl⟩
  have hm := mul64_any x x w
  rw [hhi, hlo] at hm
  have hs : within2 x p = (decide (hi < p) || (decide (hi = p) && decide (lo = 0))) := by rw [← hhi, ← hlo]; rfl
  rw [hs]
  have Hm := Lib.hid hm
  clear hm hhi hlo hs
  by_cases h1 : hi < p
  · go_enter Tryd.func45, Tryd.ntmps45
    go_wp2_with (go_at_call 54; refine Hm.out.mono ?_; rintro e w' ⟨rfl, rfl⟩)
    go_ret
    exact ⟨by simp [h1], rfl⟩
  · by_cases h2 : hi = p
    · subst h2
      by_cases h3 : lo = 0
      · subst h3
        go_enter Tryd.func45, Tryd.ntmps45
        go_wp2_with (go_at_call 54; refine Hm.out.mono ?_; rintro e w' ⟨rfl, rfl⟩)
        go_ret
        exact ⟨by simp, rfl⟩
      · go_enter Tryd.func45, Tryd.ntmps45
        go_wp2_with (go_at_call 54; refine Hm.out.mono ?_; rintro e w' ⟨rfl, rfl⟩)
        go_ret
        exact ⟨by simp [h3], rfl⟩
    · go_enter Tryd.func45, Tryd.ntmps45
      go_wp2_with (go_at_call 54; refine Hm.out.mono ?_; rintro e w' ⟨rfl, rfl⟩)
      go_ret
      exact ⟨by simp [h2], rfl⟩
set_option maxHeartbeats 1000000 in
theorem within3_any (x p : Int) (hp : 0 ≤ p ∧ p < 1000) (w : World) :
    Calls Tryd.prog 45 #[.int .u64 x, .int .u64 p, .int .i64 3] w fun e w' => e = .returned (.bool (within3 x p)) ∧ w = w' := by
  obtain ⟨p0, p1⟩ := hp
  obtain ⟨hi, hhi⟩ : ∃ hi, mulHi x x = hi := ⟨_, rfl⟩
  obtain ⟨lo, hlo⟩ : ∃ lo, mulLo x x = lo := ⟨_, rfl⟩
  obtain ⟨h2, hh2⟩ : ∃ h2, mulHi lo x = h2 := ⟨_, rfl⟩
  obtain ⟨l2, hl2⟩ : ∃ l2, mulLo lo x = l2 := ⟨_, rfl⟩
  have hm := mul64_any x x w
  have hn := mul64_any lo x w
  rw [hhi, hlo] at hm
  rw [hh2, hl2] at hn
  obtain ⟨mo, hmo⟩ : ∃ mo, IntKind.u64.wrap (h2 + IntKind.u64.wrap (hi * x)) = mo := ⟨_, rfl⟩
  have hs : within3 x p = (decide (mo < 4294967296 * p) || (decide (mo = 4294967296 * p) && decide (l2 = 0))) := by
    unfold within3 more3
    rw [hlo, hhi, hh2, hl2, hmo]
  rw [hs]
  have hq : ∃ q, q = 4294967296 * p := ⟨_, rfl⟩
  have Hm := Lib.hid hm
  have Hn := Lib.hid hn
  clear hm hn hhi hlo hs hh2 hl2
  by_cases h1 : mo < 4294967296 * p
  · go_enter Tryd.func45, Tryd.ntmps45
    go_wp2_with (first | (go_at_call 54; refine Hm.out.mono ?_; rintro e w' ⟨rfl, rfl⟩; clear Hm) | (go_at_call 54; refine Hn.out.mono ?_; rintro e w' ⟨rfl, rfl⟩))
    go_ret
    exact ⟨by simp [h1], rfl⟩
  · by_cases h2 : mo = 4294967296 * p
    · by_cases h3 : l2 = 0
      · subst h3
        go_enter Tryd.func45, Tryd.ntmps45
        go_wp2_with (first | (go_at_call 54; refine Hm.out.mono ?_; rintro e w' ⟨rfl, rfl⟩; clear Hm) | (go_at_call 54; refine Hn.out.mono ?_; rintro e w' ⟨rfl, rfl⟩))
        go_ret
        exact ⟨by simp [h2], rfl⟩
      · go_enter Tryd.func45, Tryd.ntmps45
        go_wp2_with (first | (go_at_call 54; refine Hm.out.mono ?_; rintro e w' ⟨rfl, rfl⟩; clear Hm) | (go_at_call 54; refine Hn.out.mono ?_; rintro e w' ⟨rfl, rfl⟩))
        go_ret
        exact ⟨by simp [h2, h3], rfl⟩
    · go_enter Tryd.func45, Tryd.ntmps45
      go_wp2_with (first | (go_at_call 54; refine Hm.out.mono ?_; rintro e w' ⟨rfl, rfl⟩; clear Hm) | (go_at_call 54; refine Hn.out.mono ?_; rintro e w' ⟨rfl, rfl⟩))
      go_ret
      exact ⟨by simp [h2], rfl⟩
/-- Root's rounds: the bit of a round, what of the root is there, one round. -/
def bitR (j : Nat) : Int := ((137438953472 / 2 ^ j : Nat) : Int)
def xR (R : Int) (j : Nat) : Int := R - R % 2 ^ (38 - j)
def stepR (m p x b : Int) : Int := if decide (x + b < 137438953472 / (m - 1)) && withinM m (x + b) p then x + b else x
theorem bitR_all : ∀ j : Fin 38, bitR j.val / 2 = bitR (j.val + 1) ∧ 0 < bitR j.val ∧ bitR j.val ≤ 137438953472 := by decide +kernel
theorem bitR_at (j : Nat) (h : j < 38) : bitR j / 2 = bitR (j + 1) ∧ 0 < bitR j ∧ bitR j ≤ 137438953472 := bitR_all ⟨j, h⟩
theorem bitR_end : bitR 38 = 0 := by decide +kernel
theorem roots2_all : ∀ i : Fin 8, ∀ j : Fin 38, stepR 2 (PR.getD i.val 0) (xR (R2.getD i.val 0) j.val) (bitR j.val) = xR (R2.getD i.val 0) (j.val + 1) := by decide +kernel
theorem roots3_all : ∀ i : Fin 64, ∀ j : Fin 38, stepR 3 (PR.getD i.val 0) (xR (R3.getD i.val 0) j.val) (bitR j.val) = xR (R3.getD i.val 0) (j.val + 1) := by decide +kernel
theorem R2_all : ∀ i : Fin 8, 0 ≤ R2.getD i.val 0 ∧ R2.getD i.val 0 < 274877906944 ∧ R2.getD i.val 0 % 4294967296 = S0.list.getD i.val 0 := by decide +kernel
theorem R3_all : ∀ i : Fin 64, 0 ≤ R3.getD i.val 0 ∧ R3.getD i.val 0 < 274877906944 ∧ R3.getD i.val 0 % 4294967296 = KW.getD i.val 0 := by decide +kernel
theorem xR_in (R : Int) (h0 : 0 ≤ R) (h1 : R < 274877906944) (j : Nat) : 0 ≤ xR R j ∧ xR R j < 274877906944 := by
  have h2 : (0 : Int) < 2 ^ (38 - j) := Int.pow_pos (by decide)
  have h3 := Int.emod_nonneg R (Int.ne_of_gt h2)
  have h4 := Int.mul_ediv_add_emod R (2 ^ (38 - j))
  have h5 : 0 ≤ 2 ^ (38 - j) * (R / 2 ^ (38 - j)) := Int.mul_nonneg (Int.le_of_lt h2) (Int.ediv_nonneg h0 (Int.le_of_lt h2))
  unfold xR
  omega
theorem xR_zero (R : Int) (h0 : 0 ≤ R) (h1 : R < 274877906944) : xR R 0 = 0 := by
  have : R % 2 ^ (38 - 0) = R := Int.emod_eq_of_lt h0 h1
  unfold xR
  omega
theorem xR_end (R : Int) : xR R 38 = R := by
  unfold xR
  simp
attribute [irreducible] bitR xR mulHi mulLo mulT
set_option maxRecDepth 100000 in
set_option maxHeartbeats 1000000 in
theorem root_any (m p R : Int) (hm : m = 2 ∨ m = 3) (hp : 0 ≤ p ∧ p < 1000) (h0 : 0 ≤ R) (h1 : R < 274877906944) (H : ∀ j, j < 38 → stepR m p (xR R j) (bitR j) = xR R (j + 1)) (w : World) :
    Calls Tryd.prog 27 #[.int .u64 p, .int .i64 m] w fun e w' => e = .returned (.int .u32 (R % 4294967296)) ∧ w = w' := by
  have HS := Lib.hid H
  have HP := Lib.hid hp
  have hz := xR_zero R h0 h1
  have Hin := Lib.hid (xR_in R h0 h1)
  have Hz := Lib.hid hz
  clear H hz hp
  go_enter Tryd.func27, Tryd.ntmps27
  go_wp2
  go_loopw [5, 6] (fun x b wr => ∃ j : Nat, j ≤ 38 ∧ x = .int .u64 (xR R j) ∧ b = .int .u64 (bitR j) ∧ Hid (wr = w)) (fun _ b _ => (intOf b).toNat)
  case atStart => exact ⟨0, by omega, by rw [Hz.out], by unfold bitR; rfl, rfl⟩
  case round =>
    obtain ⟨j, hj, rfl, rfl, hw⟩ := hrel
    by_cases hlt : j < 38
    · obtain ⟨hb1, hb2, hb3⟩ := bitR_at j hlt
      have hst := HS.out j hlt
      obtain ⟨hx0, hx1⟩ := Hin.out j
      generalize hX : xR R j = X at *
      generalize hB : bitR j = b at *
      have HX := Lib.hid hX
      have HB := Lib.hid hB
      have HB1 := Lib.hid hb1
      have HST := Lib.hid hst
      clear hX hB hb1 hst
      rcases hm with rfl | rfl
      · have hm2 : withinM 2 (X + b) p = within2 (X + b) p := rfl
        have Hc := Lib.hid (within2_any (X + b) p wr)
        by_cases hlt2 : X + b < 137438953472
        · cases hwi : within2 (X + b) p with
          | true =>
            have hc := Hc.out
            rw [hwi] at hc
            have Hc2 := Lib.hid hc
            have e : xR R (j + 1) = X + b := by rw [← HST.out]; unfold stepR; rw [hm2, hwi]; simp [hlt2]
            have E := Lib.hid e
            clear hc e Hc hwi hm2
            go_wp2_with (go_at_call 45; refine Hc2.out.mono ?_; rintro e w' ⟨rfl, rfl⟩)
            go_roundw
            case rel => exact ⟨j + 1, by omega, by rw [E.out], by rw [← HB1.out], hw⟩
            case measure => simp [intOf]; omega
          | false =>
            have hc := Hc.out
            rw [hwi] at hc
            have Hc2 := Lib.hid hc
            have e : xR R (j + 1) = X := by rw [← HST.out]; unfold stepR; rw [hm2, hwi]; simp
            have E := Lib.hid e
            clear hc e Hc hwi hm2
            go_wp2_with (go_at_call 45; refine Hc2.out.mono ?_; rintro e w' ⟨rfl, rfl⟩)
            go_roundw
            case rel => exact ⟨j + 1, by omega, by rw [E.out], by rw [← HB1.out], hw⟩
            case measure => simp [intOf]; omega
        · have e : xR R (j + 1) = X := by rw [← HST.out]; unfold stepR; simp [hlt2]
          have E := Lib.hid e
          clear e Hc hm2
          go_wp2
          go_roundw
          case rel => exact ⟨j + 1, by omega, by rw [E.out], by rw [← HB1.out], hw⟩
          case measure => simp [intOf]; omega
      · have hm2 : withinM 3 (X + b) p = within3 (X + b) p := rfl
        have Hc := Lib.hid (within3_any (X + b) p HP.out wr)
        by_cases hlt2 : X + b < 68719476736
        · cases hwi : within3 (X + b) p with
          | true =>
            have hc := Hc.out
            rw [hwi] at hc
            have Hc2 := Lib.hid hc
            have e : xR R (j + 1) = X + b := by rw [← HST.out]; unfold stepR; rw [hm2, hwi]; simp [hlt2]
            have E := Lib.hid e
            clear hc e Hc hwi hm2
            go_wp2_with (go_at_call 45; refine Hc2.out.mono ?_; rintro e w' ⟨rfl, rfl⟩)
            go_roundw
            case rel => exact ⟨j + 1, by omega, by rw [E.out], by rw [← HB1.out], hw⟩
            case measure => simp [intOf]; omega
          | false =>
            have hc := Hc.out
            rw [hwi] at hc
            have Hc2 := Lib.hid hc
            have e : xR R (j + 1) = X := by rw [← HST.out]; unfold stepR; rw [hm2, hwi]; simp
            have E := Lib.hid e
            clear hc e Hc hwi hm2
            go_wp2_with (go_at_call 45; refine Hc2.out.mono ?_; rintro e w' ⟨rfl, rfl⟩)
            go_roundw
            case rel => exact ⟨j + 1, by omega, by rw [E.out], by rw [← HB1.out], hw⟩
            case measure => simp [intOf]; omega
        · have e : xR R (j + 1) = X := by rw [← HST.out]; unfold stepR; simp [hlt2]
          have E := Lib.hid e
          clear e Hc hm2
          go_wp2
          go_roundw
          case rel => exact ⟨j + 1, by omega, by rw [E.out], by rw [← HB1.out], hw⟩
          case measure => simp [intOf]; omega
    · obtain rfl : j = 38 := by omega
      rw [bitR_end, xR_end]
      go_wp2
      go_ret
      exact ⟨rfl, hw.out.symm⟩
end Go.Proofs.YtblgblhoolpmiaaDoor
