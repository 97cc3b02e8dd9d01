/- DERIVED. Texts of ours, merged: XRef1Root XRef1Adds XRef1Pad XRef1Fold. -/
import Derived.Test.YtgkmbamoffolgaaDoorProg
import Derived.Test.YtgkmbamoffolgaaDoorMseal18
import Derived.Deep.QuietTactic
import Derived.BigQuiet
import Derived.Test.YtgkmbamoffolgaaDoorMseal2
/- DERIVED. Contracts of math/bits.Mul64 and of the reference's within and Root of layer 1: what they return is what the closed facts on roots are about. -/
namespace Go.Proofs.YtgkmbamoffolgaaDoor
open Go.RowKit
/-- the halves of a product, in the words of the walk. -/
def mulT (x y : Int) : Int := IntKind.u64.wrap (IntKind.u64.wrap (x / 4294967296 * bits .and .u64 y 4294967295) + IntKind.u64.wrap (bits .and .u64 x 4294967295 * bits .and .u64 y 4294967295) / 4294967296)
def mulHi (x y : Int) : Int := IntKind.u64.wrap (IntKind.u64.wrap (IntKind.u64.wrap (x / 4294967296 * (y / 4294967296)) + mulT x y / 4294967296) + IntKind.u64.wrap (bits .and .u64 (mulT x y) 4294967295 + IntKind.u64.wrap (bits .and .u64 x 4294967295 * (y / 4294967296))) / 4294967296)
def mulLo (x y : Int) : Int := IntKind.u64.wrap (x * y)
set_option maxHeartbeats 400000 in
theorem mul64_any (x y : Int) (w : World) :
    Calls Tryd.prog 89 #[.int .u64 x, .int .u64 y] w fun e w' => e = .returned (.tuple #[.int .u64 (mulHi x y), .int .u64 (mulLo x y)]) ∧ w = w' := by
  go_enter Tryd.func89, Tryd.ntmps89
  go_wp2
  exact bodyPost_ret (results_tmp2 rfl _ _ _) rfl ⟨rfl, rfl⟩
/-- within, at 2 and at 3. -/
def within2 (x p : Int) : Bool := decide (mulHi x x < p) || (decide (mulHi x x = p) && decide (mulLo x x = 0))
def more3 (x : Int) : Int := IntKind.u64.wrap (mulHi (mulLo x x) x + IntKind.u64.wrap (mulHi x x * x))
def within3 (x p : Int) : Bool := decide (more3 x < 4294967296 * p) || (decide (more3 x = 4294967296 * p) && decide (mulLo (mulLo x x) x = 0))
def withinM (m x p : Int) : Bool := if m = 2 then within2 x p else within3 x p
set_option maxHeartbeats 1000000 in
theorem within2_any (x p : Int) (w : World) :
    Calls Tryd.prog 86 #[.int .u64 x, .int .u64 p, .int .i64 2] w fun e w' => e = .returned (.bool (within2 x p)) ∧ w = w' := by
  obtain ⟨hi, hhi⟩ : ∃ hi, mulHi x x = hi := ⟨_, rfl⟩
  obtain ⟨lo, hlo⟩ : ∃ lo, mulLo x x = lo := ⟨_, rfl⟩
  have hm := mul64_any x x w
  rw [hhi, hlo] at hm
  have hs : within2 x p = (decide (hi < p) || (decide (hi = p) && decide (lo = 0))) := by rw [← hhi, ← hlo]; rfl
  rw [hs]
  have Hm := Lib.hid hm
  clear hm hhi hlo hs
  by_cases h1 : hi < p
  · go_enter Tryd.func86, Tryd.ntmps86
    go_wp2_with (go_at_call 89; refine Hm.out.mono ?_; rintro e w' ⟨rfl, rfl⟩)
    go_ret
    exact ⟨by simp [h1], rfl⟩
  · by_cases h2 : hi = p
    · subst h2
      by_cases h3 : lo = 0
      · subst h3
        go_enter Tryd.func86, Tryd.ntmps86
        go_wp2_with (go_at_call 89; refine Hm.out.mono ?_; rintro e w' ⟨rfl, rfl⟩)
        go_ret
        exact ⟨by simp, rfl⟩
      · go_enter Tryd.func86, Tryd.ntmps86
        go_wp2_with (go_at_call 89; refine Hm.out.mono ?_; rintro e w' ⟨rfl, rfl⟩)
        go_ret
        exact ⟨by simp [h3], rfl⟩
    · go_enter Tryd.func86, Tryd.ntmps86
      go_wp2_with (go_at_call 89; refine Hm.out.mono ?_; rintro e w' ⟨rfl, rfl⟩)
      go_ret
      exact ⟨by simp [h2], rfl⟩
set_option maxHeartbeats 1000000 in
theorem within3_any (x p : Int) (hp : 0 ≤ p ∧ p < 1000) (w : World) :
    Calls Tryd.prog 86 #[.int .u64 x, .int .u64 p, .int .i64 3] w fun e w' => e = .returned (.bool (within3 x p)) ∧ w = w' := by
  obtain ⟨p0, p1⟩ := hp
  obtain ⟨hi, hhi⟩ : ∃ hi, mulHi x x = hi := ⟨_, rfl⟩
  obtain ⟨lo, hlo⟩ : ∃ lo, mulLo x x = lo := ⟨_, rfl⟩
  obtain ⟨h2, hh2⟩ : ∃ h2, mulHi lo x = h2 := ⟨_, rfl⟩
  obtain ⟨l2, hl2⟩ : ∃ l2, mulLo lo x = l2 := ⟨_, rfl⟩
  have hm := mul64_any x x w
  have hn := mul64_any lo x w
  rw [hhi, hlo] at hm
  rw [hh2, hl2] at hn
  obtain ⟨mo, hmo⟩ : ∃ mo, IntKind.u64.wrap (h2 + IntKind.u64.wrap (hi * x)) = mo := ⟨_, rfl⟩
  have hs : within3 x p = (decide (mo < 4294967296 * p) || (decide (mo = 4294967296 * p) && decide (l2 = 0))) := by
    unfold within3 more3
    rw [hlo, hhi, hh2, hl2, hmo]
  rw [hs]
  have hq : ∃ q, q = 4294967296 * p := ⟨_, rfl⟩
  have Hm := Lib.hid hm
  have Hn := Lib.hid hn
  clear hm hn hhi hlo hs hh2 hl2
  by_cases h1 : mo < 4294967296 * p
  · go_enter Tryd.func86, Tryd.ntmps86
    go_wp2_with (first | (go_at_call 89; refine Hm.out.mono ?_; rintro e w' ⟨rfl, rfl⟩; clear Hm) | (go_at_call 89; refine Hn.out.mono ?_; rintro e w' ⟨rfl, rfl⟩))
    go_ret
    exact ⟨by simp [h1], rfl⟩
  · by_cases h2 : mo = 4294967296 * p
    · by_cases h3 : l2 = 0
      · subst h3
        go_enter Tryd.func86, Tryd.ntmps86
        go_wp2_with (first | (go_at_call 89; refine Hm.out.mono ?_; rintro e w' ⟨rfl, rfl⟩; clear Hm) | (go_at_call 89; refine Hn.out.mono ?_; rintro e w' ⟨rfl, rfl⟩))
        go_ret
        exact ⟨by simp [h2], rfl⟩
      · go_enter Tryd.func86, Tryd.ntmps86
        go_wp2_with (first | (go_at_call 89; refine Hm.out.mono ?_; rintro e w' ⟨rfl, rfl⟩; clear Hm) | (go_at_call 89; refine Hn.out.mono ?_; rintro e w' ⟨rfl, rfl⟩))
        go_ret
        exact ⟨by simp [h2, h3], rfl⟩
    · go_enter Tryd.func86, Tryd.ntmps86
      go_wp2_with (first | (go_at_call 89; refine Hm.out.mono ?_; rintro e w' ⟨rfl, rfl⟩; clear Hm) | (go_at_call 89; refine Hn.out.mono ?_; rintro e w' ⟨rfl, rfl⟩))
      go_ret
      exact ⟨by simp [h2], rfl⟩
/-- Root's rounds: the bit of a round, what of the root is there, one round. -/
def bitR (j : Nat) : Int := ((137438953472 / 2 ^ j : Nat) : Int)
def xR (R : Int) (j : Nat) : Int := R - R % 2 ^ (38 - j)
def stepR (m p x b : Int) : Int := if decide (x + b < 137438953472 / (m - 1)) && withinM m (x + b) p then x + b else x
theorem bitR_all : ∀ j : Fin 38, bitR j.val / 2 = bitR (j.val + 1) ∧ 0 < bitR j.val ∧ bitR j.val ≤ 137438953472 := by decide +kernel
theorem bitR_at (j : Nat) (h : j < 38) : bitR j / 2 = bitR (j + 1) ∧ 0 < bitR j ∧ bitR j ≤ 137438953472 := bitR_all ⟨j, h⟩
theorem bitR_end : bitR 38 = 0 := by decide +kernel
theorem roots2_all : ∀ i : Fin 8, ∀ j : Fin 38, stepR 2 (PR.getD i.val 0) (xR (R2.getD i.val 0) j.val) (bitR j.val) = xR (R2.getD i.val 0) (j.val + 1) := by decide +kernel
theorem roots3_all : ∀ i : Fin 64, ∀ j : Fin 38, stepR 3 (PR.getD i.val 0) (xR (R3.getD i.val 0) j.val) (bitR j.val) = xR (R3.getD i.val 0) (j.val + 1) := by decide +kernel
theorem R2_all : ∀ i : Fin 8, 0 ≤ R2.getD i.val 0 ∧ R2.getD i.val 0 < 274877906944 ∧ R2.getD i.val 0 % 4294967296 = S0.list.getD i.val 0 := by decide +kernel
theorem R3_all : ∀ i : Fin 64, 0 ≤ R3.getD i.val 0 ∧ R3.getD i.val 0 < 274877906944 ∧ R3.getD i.val 0 % 4294967296 = KW.getD i.val 0 := by decide +kernel
theorem xR_in (R : Int) (h0 : 0 ≤ R) (h1 : R < 274877906944) (j : Nat) : 0 ≤ xR R j ∧ xR R j < 274877906944 := by
  have h2 : (0 : Int) < 2 ^ (38 - j) := Int.pow_pos (by decide)
  have h3 := Int.emod_nonneg R (Int.ne_of_gt h2)
  have h4 := Int.mul_ediv_add_emod R (2 ^ (38 - j))
  have h5 : 0 ≤ 2 ^ (38 - j) * (R / 2 ^ (38 - j)) := Int.mul_nonneg (Int.le_of_lt h2) (Int.ediv_nonneg h0 (Int.le_of_lt h2))
  unfold xR
  omega
theorem xR_zero (R : Int) (h0 : 0 ≤ R) (h1 : R < 274877906944) : xR R 0 = 0 := by
  have : R % 2 ^ (38 - 0) = R := Int.emod_eq_of_lt h0 h1
  unfold xR
  omega
theorem xR_end (R : Int) : xR R 38 = R := by
  unfold xR
  simp
attribute [irreducible] bitR xR mulHi mulLo mulT
set_option maxRecDepth 100000 in
set_option maxHeartbeats 1000000 in
theorem root_any (m p R : Int) (hm : m = 2 ∨ m = 3) (hp : 0 ≤ p ∧ p < 1000) (h0 : 0 ≤ R) (h1 : R < 274877906944) (H : ∀ j, j < 38 → stepR m p (xR R j) (bitR j) = xR R (j + 1)) (w : World) :
    Calls Tryd.prog 79 #[.int .u64 p, .int .i64 m] w fun e w' => e = .returned (.int .u32 (R % 4294967296)) ∧ w = w' := by
  have HS := Lib.hid H
  have HP := Lib.hid hp
  have hz := xR_zero R h0 h1
  have Hin := Lib.hid (xR_in R h0 h1)
  have Hz := Lib.hid hz
  clear H hz hp
  go_enter Tryd.func79, Tryd.ntmps79
  go_wp2
  go_loopw [5, 6] (fun x b wr => ∃ j : Nat, j ≤ 38 ∧ x = .int .u64 (xR R j) ∧ b = .int .u64 (bitR j) ∧ Hid (wr = w)) (fun _ b _ => (intOf b).toNat)
  case atStart => exact ⟨0, by omega, by rw [Hz.out], by unfold bitR; rfl, rfl⟩
  case round =>
    obtain ⟨j, hj, rfl, rfl, hw⟩ := hrel
    by_cases hlt : j < 38
    · obtain ⟨hb1, hb2, hb3⟩ := bitR_at j hlt
      have hst := HS.out j hlt
      obtain ⟨hx0, hx1⟩ := Hin.out j
      generalize hX : xR R j = X at *
      generalize hB : bitR j = b at *
      have HX := Lib.hid hX
      have HB := Lib.hid hB
      have HB1 := Lib.hid hb1
      have HST := Lib.hid hst
      clear hX hB hb1 hst
      rcases hm with rfl | rfl
      · have hm2 : withinM 2 (X + b) p = within2 (X + b) p := rfl
        have Hc := Lib.hid (within2_any (X + b) p wr)
        by_cases hlt2 : X + b < 137438953472
        · cases hwi : within2 (X + b) p with
          | true =>
            have hc := Hc.out
            rw [hwi] at hc
            have Hc2 := Lib.hid hc
            have e : xR R (j + 1) = X + b := by rw [← HST.out]; unfold stepR; rw [hm2, hwi]; simp [hlt2]
            have E := Lib.hid e
            clear hc e Hc hwi hm2
            go_wp2_with (go_at_call 86; refine Hc2.out.mono ?_; rintro e w' ⟨rfl, rfl⟩)
            go_roundw
            case rel => exact ⟨j + 1, by omega, by rw [E.out], by rw [← HB1.out], hw⟩
            case measure => simp [intOf]; omega
          | false =>
            have hc := Hc.out
            rw [hwi] at hc
            have Hc2 := Lib.hid hc
            have e : xR R (j + 1) = X := by rw [← HST.out]; unfold stepR; rw [hm2, hwi]; simp
            have E := Lib.hid e
            clear hc e Hc hwi hm2
            go_wp2_with (go_at_call 86; refine Hc2.out.mono ?_; rintro e w' ⟨rfl, rfl⟩)
            go_roundw
            case rel => exact ⟨j + 1, by omega, by rw [E.out], by rw [← HB1.out], hw⟩
            case measure => simp [intOf]; omega
        · have e : xR R (j + 1) = X := by rw [← HST.out]; unfold stepR; simp [hlt2]
          have E := Lib.hid e
          clear e Hc hm2
          go_wp2
          go_roundw
          case rel => exact ⟨j + 1, by omega, by rw [E.out], by rw [← HB1.out], hw⟩
          case measure => simp [intOf]; omega
      · have hm2 : withinM 3 (X + b) p = within3 (X + b) p := rfl
        have Hc := Lib.hid (within3_any (X + b) p HP.out wr)
        by_cases hlt2 : X + b < 68719476736
        · cases hwi : within3 (X + b) p with
          | true =>
            have hc := Hc.out
            rw [hwi] at hc
            have Hc2 := Lib.hid hc
            have e : xR R (j + 1) = X + b := by rw [← HST.out]; unfold stepR; rw [hm2, hwi]; simp [hlt2]
            have E := Lib.hid e
            clear hc e Hc hwi hm2
            go_wp2_with (go_at_call 86; refine Hc2.out.mono ?_; rintro e w' ⟨rfl, rfl⟩)
            go_roundw
            case rel => exact ⟨j + 1, by omega, by rw [E.out], by rw [← HB1.out], hw⟩
            case measure => simp [intOf]; omega
          | false =>
            have hc := Hc.out
            rw [hwi] at hc
            have Hc2 := Lib.hid hc
            have e : xR R (j + 1) = X := by rw [← HST.out]; unfold stepR; rw [hm2, hwi]; simp
            have E := Lib.hid e
            clear hc e Hc hwi hm2
            go_wp2_with (go_at_call 86; refine Hc2.out.mono ?_; rintro e w' ⟨rfl, rfl⟩)
            go_roundw
            case rel => exact ⟨j + 1, by omega, by rw [E.out], by rw [← HB1.out], hw⟩
            case measure => simp [intOf]; omega
        · have e : xR R (j + 1) = X := by rw [← HST.out]; unfold stepR; simp [hlt2]
          have E := Lib.hid e
          clear e Hc hm2
          go_wp2
          go_roundw
          case rel => exact ⟨j + 1, by omega, by rw [E.out], by rw [← HB1.out], hw⟩
          case measure => simp [intOf]; omega
    · obtain rfl : j = 38 := by omega
      rw [bitR_end, xR_end]
      go_wp2
      go_ret
      exact ⟨rfl, hw.out.symm⟩
end Go.Proofs.YtgkmbamoffolgaaDoor
/- DERIVED. The contracts of the reference's Adds and Start of layer 1: the constants. -/
namespace Go.Proofs.YtgkmbamoffolgaaDoor
open Go.RowKit
theorem root3_at (j : Nat) (h : j < 64) (w : World) : Calls Tryd.prog 79 #[.int .u64 (PR.getD j 0), .int .i64 3] w fun e w' => e = .returned (.int .u32 (KW.getD j 0)) ∧ w = w' := by
  have hr := R3_all ⟨j, h⟩
  have hp := PR_in j h
  have hs := fun k hk => roots3_all ⟨j, h⟩ ⟨k, hk⟩
  simp only at hr hs
  rw [← hr.2.2]
  exact root_any 3 _ _ (.inr rfl) ⟨by omega, by omega⟩ hr.1 hr.2.1 hs w
theorem root2_at (j : Nat) (h : j < 8) (w : World) : Calls Tryd.prog 79 #[.int .u64 (PR.getD j 0), .int .i64 2] w fun e w' => e = .returned (.int .u32 (S0.list.getD j 0)) ∧ w = w' := by
  have hr := R2_all ⟨j, h⟩
  have hp := PR_in j (by omega)
  have hs := fun k hk => roots2_all ⟨j, h⟩ ⟨k, hk⟩
  simp only at hr hs
  rw [← hr.2.2]
  exact root_any 2 _ _ (.inl rfl) ⟨by omega, by omega⟩ hr.1 hr.2.1 hs w
theorem KW_length : KW.length = 64 := rfl
set_option maxRecDepth 100000 in
set_option maxHeartbeats 1000000 in
theorem adds_any (w : World) :
    Calls Tryd.prog 76 #[] w fun e w' => ∃ g cap, e = .returned (.slice (some ⟨g, 0, none⟩) 64 cap) ∧ w.heap.size ≤ g ∧ RowK .u32 w' g KW ∧ Below w.heap.size w w' := by
  obtain ⟨i32, hi32, hz320, hz321, hz322⟩ := partsK info32k
  have gi := Lib.hid hi32
  have gz0 := Lib.hid hz320
  have gz1 := Lib.hid hz321
  have gz2 := Lib.hid hz322
  clear hi32 hz320 hz321 hz322
  go_enter Tryd.func76, Tryd.ntmps76
  go_wp2_with (go_at_call 78; refine (primes_any 64 (by decide) (by decide) _).mono ?_; rintro e w1 ⟨g, cap, rfl, hg, hrow, low⟩; rw [List.take_of_length_le (Nat.le_of_eq PR_length)] at hrow; have Hrow := Lib.hid hrow; have Low := Lib.hid low; clear hrow low)
  go_loopw [1, 3] (fun v i wr => ∃ j : Nat, j ≤ 64 ∧ i = .int .i64 j ∧ Hid (wr.ownsRow w1.heap.size 26 1 v j (valsK .u32 (KW.take j)) ∧ Below w1.heap.size w1 wr)) (fun _ i _ => 64 - (intOf i).toNat)
  case atStart => exact ⟨0, by omega, rfl, World.ownsRow_nil _ _ _ _, Below.refl _ _⟩
  case round =>
    obtain ⟨j, hj, rfl, hr⟩ := hrel
    by_cases hlt : j < 64
    · have hltI : (j : Int) < 64 := by omega
      obtain ⟨x, hx⟩ : ∃ x, PR.getD j 0 = x := ⟨_, rfl⟩
      obtain ⟨y, hy⟩ : ∃ y, KW.getD j 0 = y := ⟨_, rfl⟩
      have cell : wr.cell? ⟨g, j, none⟩ = some (.int .u64 x) := by rw [← hx]; exact (Hrow.out.later hr.out.2).2 j (by rw [PR_length]; exact hlt)
      have hroot := root3_at j hlt wr
      rw [hx, hy] at hroot
      have Hroot := Lib.hid hroot
      have hmore : KW.take j ++ [y] = KW.take (j + 1) := by
        rw [← hy]; exact take_getD (by rw [KW_length]; exact hlt)
      have Hmore := Lib.hid hmore
      clear hroot hmore hx hy
      go_wp2_with (first
        | (go_at_call 79; refine Hroot.out.mono ?_; rintro e w' ⟨rfl, rfl⟩)
        | (at_builtin; refine wpList_append_mine rfl (.tmp 15) (.tmp 17) 97 rfl w1.heap.size 26 i32 (.int .u32 0) 4 Tryd.underlying97 gi.out gz0.out gz1.out gz2.out rfl (by decide) _ j (KW.take j) y rfl hr.out.1 rfl (by omega) hr.out.2.size ?_; intro v' w' hgr; have Hgr := Lib.hid hgr; clear hgr))
      go_roundw
      case rel => exact ⟨j + 1, by omega, by go_num, by rw [← Hmore.out]; exact ⟨Hgr.out.own, Hgr.out.low _ _ hr.out.2 (Nat.le_refl _)⟩⟩
      case measure => simp [intOf]; omega
    · obtain rfl : j = 64 := by omega
      have own := hr.out.1
      rw [List.take_of_length_le (Nat.le_of_eq KW_length)] at own
      obtain ⟨g2, c2, rfl, _, hg2, hrow2⟩ := own_rowK own rfl (by decide)
      have low2 : Below w.heap.size w wr := Low.out.trans (hr.out.2.mono Low.out.size)
      have hsz := Low.out.size
      have Hrow2 := Lib.hid hrow2
      have Low2 := Lib.hid low2
      clear own hr hrow2 low2
      go_wp2
      go_ret
      exact ⟨g2, c2, rfl, by omega, Hrow2.out, Low2.out⟩
/-- what Start's loop keeps. -/
structure StI (B k : Nat) (w1 wr : World) : Prop where
  res : ∃ Z : Array Value, Z.size = 8 ∧ wr.heap[B]? = some (.cells Z 76 (0, 0))
  row : ∃ S : Array Value, Holds S 8 k (fun j => S0.list.getD j 0) ∧ wr.heap[B + 1]? = some (.cells S 76 (0, 0))
  low : Below B w1 wr
  old : ∀ g, B + 1 < g → g < w1.heap.size → wr.heap[g]? = w1.heap[g]?
theorem StI.set {B k : Nat} {w1 wr : World} (x : StI B k w1 wr) (hk : k < 8) (v : Int) (hv : v = S0.list.getD k 0) : StI B (k + 1) w1 (wr.setCell ⟨B + 1, k, none⟩ (.int .u32 v)) := by
  obtain ⟨S, hS, hr⟩ := x.row
  obtain ⟨Z, hZ, hz⟩ := x.res
  refine ⟨⟨Z, hZ, ?_⟩, ⟨_, hS.set hk v hv, heap_setCell_same _ _ _ _ _ _ hr⟩, x.low.setCell (by simp) _, fun g h1 h2 => ?_⟩
  · rw [heap_setCell_other _ _ _ _ (by simp)]; exact hz
  · rw [heap_setCell_other _ _ _ _ (by simp; omega)]; exact x.old g h1 h2
theorem S0_length : S0.list.length = 8 := rfl
set_option maxRecDepth 100000 in
set_option maxHeartbeats 1000000 in
theorem rstart_any (w : World) :
    Calls Tryd.prog 70 #[] w fun e w' => e = .returned (.agg (u32s S0.list)) ∧ Below w.heap.size w w' := by
  go_enter Tryd.func70, Tryd.ntmps70
  have h2 := two_new w (.cells #[.int .u32 0, .int .u32 0, .int .u32 0, .int .u32 0, .int .u32 0, .int .u32 0, .int .u32 0, .int .u32 0] 76) (.cells #[.int .u32 0, .int .u32 0, .int .u32 0, .int .u32 0, .int .u32 0, .int .u32 0, .int .u32 0, .int .u32 0] 76)
  have k2 : Below w.heap.size w ((w.alloc (.cells #[.int .u32 0, .int .u32 0, .int .u32 0, .int .u32 0, .int .u32 0, .int .u32 0, .int .u32 0, .int .u32 0] 76)).alloc (.cells #[.int .u32 0, .int .u32 0, .int .u32 0, .int .u32 0, .int .u32 0, .int .u32 0, .int .u32 0, .int .u32 0] 76)) := ((Below.refl _ _).alloc (Nat.le_refl _) _).alloc (by simp) _
  have s2 : ((w.alloc (.cells #[.int .u32 0, .int .u32 0, .int .u32 0, .int .u32 0, .int .u32 0, .int .u32 0, .int .u32 0, .int .u32 0] 76)).alloc (.cells #[.int .u32 0, .int .u32 0, .int .u32 0, .int .u32 0, .int .u32 0, .int .u32 0, .int .u32 0, .int .u32 0] 76)).heap.size = w.heap.size + 2 := by simp
  have H2 := Lib.hid h2
  have K2 := Lib.hid k2
  have S2 := Lib.hid s2
  clear h2 k2 s2
  go_wp2_with (go_at_call 78; refine (primes_any 8 (by decide) (by decide) _).mono ?_; rintro e w1 ⟨g, cap, rfl, hg, hrow, low⟩; have Hrow := Lib.hid hrow; have Low := Lib.hid low; have Hg := Lib.hid hg; clear hrow low hg)
  have hst : StI w.heap.size 0 w1 w1 := ⟨⟨_, by rfl, (Low.out.block _ (by rw [S2.out]; omega)).trans H2.out.1⟩, ⟨_, Holds.nil _ _ _ (by rfl), (Low.out.block _ (by rw [S2.out]; omega)).trans H2.out.2⟩, Below.refl _ _, fun _ _ _ => rfl⟩
  have hlow1 : Below w.heap.size w w1 := K2.out.trans (Low.out.mono (by rw [S2.out]; omega))
  have hgg : w.heap.size + 1 < g := by have := Hg.out; rw [S2.out] at this; omega
  have Hst := Lib.hid hst
  have Hlow1 := Lib.hid hlow1
  clear hst hlow1 H2 K2 Low Hg
  go_loopw [3] (fun i wr => ∃ j : Nat, j ≤ 8 ∧ i = .int .i64 j ∧ Hid (StI w.heap.size j w1 wr)) (fun i _ => 8 - (intOf i).toNat)
  case atStart => exact ⟨0, by omega, rfl, Hst.out⟩
  case round =>
    obtain ⟨j, hj, rfl, hr⟩ := hrel
    by_cases hlt : j < 8
    · have hltI : (j : Int) < 8 := by omega
      obtain ⟨x, hx⟩ : ∃ x, PR.getD j 0 = x := ⟨_, rfl⟩
      obtain ⟨y, hy⟩ : ∃ y, S0.list.getD j 0 = y := ⟨_, rfl⟩
      have cell : wr.cell? ⟨g, j, none⟩ = some (.int .u64 x) := by
        rw [← hx, World.cell?_of_block (hr.out.old g hgg Hrow.out.1), Hrow.out.2 j (by rw [List.length_take, PR_length]; omega)]
        simp [List.getD_eq_getElem?_getD, hlt]
      have hroot := root2_at j hlt wr
      rw [hx, hy] at hroot
      have Hroot := Lib.hid hroot
      have Hy := Lib.hid hy
      obtain ⟨S, hS, hrw⟩ := hr.out.row
      obtain ⟨v, hv⟩ : ∃ v, wr.cell? ⟨w.heap.size + 1, j, none⟩ = some v := by
        rw [cell_row hrw]; exact ⟨_, Array.getElem?_eq_getElem (by rw [hS.1]; omega)⟩
      have hfz := free_row hrw j
      clear hroot hx hy hS hrw
      go_wp2_with (go_at_call 79; refine Hroot.out.mono ?_; rintro e w' ⟨rfl, rfl⟩)
      go_roundw
      case rel => exact ⟨j + 1, by omega, by go_num, hr.out.set hlt _ Hy.out.symm⟩
      case measure => simp [intOf]; omega
    · obtain rfl : j = 8 := by omega
      obtain ⟨S, hS, hr2⟩ := hr.out.row
      obtain ⟨Z, hZ, hz⟩ := hr.out.res
      have low : Below w.heap.size w wr := Hlow1.out.trans (hr.out.low.mono (Nat.le_refl _))
      have hS' : S = u32s S0.list := hS.whole rfl (fun j hj => rfl)
      subst hS'
      obtain ⟨L, hL⟩ : ∃ L, L = S0.list := ⟨_, rfl⟩
      rw [← hL] at hr2
      have hsz : (Tryd.prog.info? 76).map (·.size) = some (u32s L).size := by rw [u32s_size, hL, S0_length]; exact info23
      have hzz : Z.size = (u32s L).size := by rw [u32s_size, hL, S0_length]; exact hZ
      have Hsz := Lib.hid hsz
      have Hzz := Lib.hid hzz
      have Hr := Lib.hid hr2
      have Hz := Lib.hid hz
      have HL := Lib.hid hL
      clear hr hz hS hZ hr2 hsz hzz hL
      go_wp2_with (first | (refine wpList_load_row rfl 76 (.tmp 1) rfl (w.heap.size + 1) rfl 76 (u32s L) (0, 0) _ Hr.out Tryd.underlying76 rfl Hsz.out ?_) | (refine wpList_store_row rfl 76 (.tmp 0) (.tmp 16) rfl w.heap.size (u32s L) rfl rfl 76 Z Hz.out Hsz.out Hzz.out (u32s_one _) ?_))
      rw [← HL.out]
      exact bodyPost_ret (v := .agg (u32s L)) (results_cell_row rfl _ _ w.heap.size 76 _ (0, 0) _ rfl (setRow_heap wr _ _ _ _ _ Hz.out) Tryd.underlying76 rfl Hsz.out) rfl ⟨rfl, below_setRow low (Nat.le_refl _) _⟩
end Go.Proofs.YtgkmbamoffolgaaDoor
/- DERIVED. The contract of the reference's Behind of layer 1: the bytes behind n bytes. -/
namespace Go.Proofs.YtgkmbamoffolgaaDoor
open Go.RowKit
theorem padL_take (n j : Nat) (h : j < padLen n) (x : Int) (hx : x = padF n j) : (padL n).take j ++ [x] = (padL n).take (j + 1) := by
  rw [hx, padL_getD n j h]
  exact take_getD (by rw [padL_length]; exact h)
theorem rbehind_no (n : Int) (h : n < 0 ∨ 1152921504606846976 < n) (w : World) :
    Calls Tryd.prog 67 #[.int .i64 n] w fun e' w' => e' = .returned (.slice none 0 0) ∧ w' = w := by
  rcases h with h | h
  · go_enter Tryd.func67, Tryd.ntmps67
    go_wp2
    go_ret
    exact ⟨rfl, rfl⟩
  · have h' : ¬ n < 0 := by omega
    go_enter Tryd.func67, Tryd.ntmps67
    go_wp2
    go_ret
    exact ⟨rfl, rfl⟩
set_option maxRecDepth 100000 in
set_option maxHeartbeats 1000000 in
theorem rbehind_any (n : Nat) (h : n ≤ 1152921504606846976) (w : World) :
    Calls Tryd.prog 67 #[.int .i64 (n : Int)] w fun e' w' => ∃ g c, e' = .returned (.slice (some ⟨g, 0, none⟩) (padLen n) c) ∧ padLen n ≤ c ∧ w.heap.size ≤ g ∧ RowK .u8 w' g (padL n) ∧ Below w.heap.size w w' := by
  obtain ⟨i8, hi8, hz80, hz81, hz82⟩ := partsK info8k
  have gi := Lib.hid hi8
  have gz0 := Lib.hid hz80
  have gz1 := Lib.hid hz81
  have gz2 := Lib.hid hz82
  clear hi8 hz80 hz81 hz82
  have h1 : ¬ (n : Int) < 0 := by omega
  have h2 : ¬ 1152921504606846976 < (n : Int) := by omega
  have h3 : (n : Int) ≤ 1152921504606846976 := by omega
  have hz := zeros_lt n
  have hz2 : zeros n = (128 - (n % 64 + 9)) % 64 := rfl
  have hpl : padLen n = 9 + zeros n := rfl
  obtain ⟨Z, hZ⟩ : ∃ Z, zeros n = Z := ⟨_, rfl⟩
  rw [hZ] at hz hz2 hpl
  have hnew : (w.alloc (.cells #[.int .u8 128] 5)).ownsRow w.heap.size 5 1 (.slice (some ⟨w.heap.size, 0, none⟩) 1 1) 1 (valsK .u8 ((padL n).take 1)) := by
    have e : (padL n).take 1 = [128] := by
      have := padL_take n 0 (by omega) 128 (padF_zero n).symm
      simpa using this.symm
    rw [e]
    exact ⟨rfl, .inr ⟨w.heap.size, 1, _, rfl, Nat.le_refl _, Go.heap_alloc_new w _, Nat.le_refl _, by unfold maxLen; omega, rfl, rfl⟩⟩
  have low1 : Below w.heap.size w (w.alloc (.cells #[.int .u8 128] 5)) := (Below.refl _ _).alloc (Nat.le_refl _) _
  have Hnew := Lib.hid hnew
  have Low1 := Lib.hid low1
  have HZ := Lib.hid hZ
  have Hz2 := Lib.hid hz2
  have Hpl := Lib.hid hpl
  clear h hnew low1 hZ hz2 hpl
  go_enter Tryd.func67, Tryd.ntmps67
  go_wp2
  go_loopw [3] (fun v wr => ∃ (k c : Nat) (A : Option Addr), k ≤ Z ∧ v = .slice A (1 + k) c ∧ Hid (wr.ownsRow w.heap.size 5 1 v (1 + k) (valsK .u8 ((padL n).take (1 + k))) ∧ Below w.heap.size w wr)) (fun v _ => match v with | .slice _ m _ => 100 - m | _ => 0)
  case atStart => exact ⟨0, 1, _, by omega, rfl, Hnew.out, Low1.out⟩
  case round =>
    obtain ⟨k, c, A, hk, rfl, hr⟩ := hrel
    by_cases hlt : k < Z
    · have hne : ¬ (((n : Int) + (1 + (k : Int)) + 8) % 64 = 0) := by have := Hz2.out; omega
      have hmore := padL_take n (1 + k) (by rw [Hpl.out]; omega) 0 (padF_mid n (1 + k) (by omega) (by rw [HZ.out]; omega)).symm
      have Hmore := Lib.hid hmore
      clear hmore
      go_wp2_with (at_builtin; refine wpList_append_mine rfl (.tmp 21) (.tmp 22) 24 rfl w.heap.size 5 i8 (.int .u8 0) 1 Tryd.underlying24 gi.out gz0.out gz1.out gz2.out rfl (by decide) _ (1 + k) ((padL n).take (1 + k)) 0 rfl hr.out.1 rfl (by omega) hr.out.2.size ?_; intro v' w' hgr; obtain ⟨A', c', hv'⟩ := own_nilK hgr.own; subst hv'; have Hgr := Lib.hid hgr; clear hgr)
      go_roundw
      case rel => exact ⟨k + 1, c', A', by omega, by rw [show 1 + k + 1 = 1 + (k + 1) by omega], by rw [show 1 + (k + 1) = 1 + k + 1 by omega, ← Hmore.out]; exact ⟨Hgr.out.own, Hgr.out.low _ _ hr.out.2 (Nat.le_refl _)⟩⟩
      case measure => show 100 - (1 + k + 1) < 100 - (1 + k); omega
    · obtain rfl : Z = k := by omega
      have heq : ((n : Int) + (1 + (Z : Int)) + 8) % 64 = 0 := by have := Hz2.out; omega
      have hn8 : 8 * (n : Int) < 18446744073709551616 := by omega
      obtain ⟨wo, hwo⟩ : ∃ wo, wo = wr := ⟨_, rfl⟩
      subst hwo
      obtain ⟨M, hM⟩ : ∃ M : Int, M = 8 * (n : Int) := ⟨_, rfl⟩
      have HM := Lib.hid hM
      go_wp2
      rw [← hM]
      clear heq hM
      go_loopw [3, 5] (fun v i wx => ∃ j : Nat, j ≤ 8 ∧ i = .int .i64 j ∧ Hid (wx.ownsRow w.heap.size 5 1 v (1 + Z + j) (valsK .u8 ((padL n).take (1 + Z + j))) ∧ Below w.heap.size w wx)) (fun _ i _ => 8 - (intOf i).toNat)
      case atStart => exact ⟨0, by omega, rfl, hr.out⟩
      case round =>
        obtain ⟨j, hj, rfl, hq⟩ := hrel
        by_cases hlt8 : j < 8
        · have hltI : (j : Int) < 8 := by omega
          have hs : IntKind.u64.wrap (56 - 8 * (j : Int)) = ((56 - 8 * j : Nat) : Int) := by rw [show IntKind.u64.wrap (56 - 8 * (j : Int)) = (56 - 8 * (j : Int)) % 18446744073709551616 by simp [IntKind.wrap, IntKind.bits, IntKind.signed]]; omega
          have hs2 : (((56 - 8 * j : Nat) : Int)).toNat = 56 - 8 * j := by omega
          have hs3 : (56 : Int) - 8 * (j : Int) = ((56 - 8 * j : Nat) : Int) := by omega
          have hs4 : ((56 - 8 * j : Nat) : Int) < 64 := by omega
          have hs5 : 0 ≤ ((56 - 8 * j : Nat) : Int) := by omega
          have hx : M / 2 ^ (56 - 8 * j) % 256 = padF n (1 + Z + j) := by
            have h := padF_tail n (7 - j) (by omega)
            rw [show padLen n - 1 - (7 - j) = 1 + Z + j by rw [Hpl.out]; omega] at h
            rw [h, HM.out, show 8 * (7 - j) = 56 - 8 * j by omega]
          have hmore := padL_take n (1 + Z + j) (by rw [Hpl.out]; omega) _ hx
          have Hmore := Lib.hid hmore
          clear hmore hx
          go_wp2_with (at_builtin; refine wpList_append_mine rfl (.tmp 35) (.tmp 40) 24 rfl w.heap.size 5 i8 (.int .u8 0) 1 Tryd.underlying24 gi.out gz0.out gz1.out gz2.out rfl (by decide) _ (1 + Z + j) ((padL n).take (1 + Z + j)) _ rfl hq.out.1 rfl (by omega) hq.out.2.size ?_; intro v' w' hgr; have Hgr := Lib.hid hgr; clear hgr)
          go_roundw
          case rel => exact ⟨j + 1, by omega, by go_num, by rw [show 1 + Z + (j + 1) = 1 + Z + j + 1 by omega, ← Hmore.out]; exact ⟨Hgr.out.own, Hgr.out.low _ _ hq.out.2 (Nat.le_refl _)⟩⟩
          case measure => simp [intOf]; omega
        · obtain rfl : j = 8 := by omega
          have own := hq.out.1
          have hp : 1 + Z + 8 = padLen n := by rw [Hpl.out]; omega
          rw [hp, List.take_of_length_le (Nat.le_of_eq (padL_length n))] at own
          obtain ⟨g2, c2, rfl, hc2, hg2, hrow2⟩ := own_rowK own (padL_length n) (by rw [Hpl.out]; omega)
          have Hrow2 := Lib.hid hrow2
          have Low2 := Lib.hid hq.out.2
          clear own hq hrow2 hp
          go_wp2
          go_ret
          exact ⟨g2, c2, rfl, hc2, hg2, Hrow2.out, Low2.out⟩
end Go.Proofs.YtgkmbamoffolgaaDoor
/- DERIVED. The contract of the reference's told of layer 1: a state's words as a digest. -/
namespace Go.Proofs.YtgkmbamoffolgaaDoor
open Go.RowKit
theorem hashF_at2 (l : List Int) (k : Nat) : hashF l k = l.getD (k / 4) 0 / 2 ^ (24 - 8 * (k % 4)) % 256 := by
  have hf := hashF_at l (k / 4)
  have : k % 4 = 0 ∨ k % 4 = 1 ∨ k % 4 = 2 ∨ k % 4 = 3 := by omega
  rcases this with e | e | e | e
  · have h2 : hashF l k = hashF l (4 * (k / 4)) := by congr 1; omega
    rw [h2, hf.1, e]; rfl
  · have h2 : hashF l k = hashF l (4 * (k / 4) + 1) := by congr 1; omega
    rw [h2, hf.2.1, e]; rfl
  · have h2 : hashF l k = hashF l (4 * (k / 4) + 2) := by congr 1; omega
    rw [h2, hf.2.2.1, e]; rfl
  · have h2 : hashF l k = hashF l (4 * (k / 4) + 3) := by congr 1; omega
    rw [h2, hf.2.2.2, e]
    simp
/-- what the loop of told keeps. -/
structure ToI (l : List Int) (N k : Nat) (w wr : World) : Prop where
  src : wr.heap[N]? = some (.cells (u32s l) 76 (0, 0))
  res : ∃ Z : Array Value, Z.size = 32 ∧ wr.heap[N + 1]? = some (.cells Z 23 (0, 0))
  row : ∃ S : Array Value, HoldsB S 32 k (hashF l) ∧ wr.heap[N + 1 + 1]? = some (.cells S 23 (0, 0))
  low : Below N w wr
theorem ToI.set {l : List Int} {N k : Nat} {w wr : World} (h : ToI l N k w wr) (hk : k < 32) (v : Int) (hv : v = hashF l k) : ToI l N (k + 1) w (wr.setCell ⟨N + 1 + 1, k, none⟩ (.int .u8 v)) := by
  obtain ⟨S, hS, hr⟩ := h.row
  obtain ⟨Z, hZ, hz⟩ := h.res
  refine ⟨?_, ⟨Z, hZ, ?_⟩, ⟨_, hS.set hk v hv, heap_setCell_same _ _ _ _ _ _ hr⟩, h.low.setCell (by simp; omega) _⟩
  · rw [heap_setCell_other _ _ _ _ (by simp; omega)]; exact h.src
  · rw [heap_setCell_other _ _ _ _ (by simp)]; exact hz
set_option maxRecDepth 100000 in
set_option maxHeartbeats 1000000 in
theorem rtold_any (l : List Int) (hl : l.length = 8) (w : World) :
    Calls Tryd.prog 68 #[.agg (u32s l)] w fun e' w' => e' = .returned (.agg (u8s (hashL l))) ∧ Below w.heap.size w w' := by
  have Hl := Lib.hid hl
  clear hl
  go_enter Tryd.func68, Tryd.ntmps68
  have h3 := Lib.hid (three_new w (.cells (u32s l) 76))
  go_wp2
  go_loopw [4] (fun i wr => ∃ k : Nat, k ≤ 32 ∧ i = .int .i64 k ∧ Hid (ToI l w.heap.size k w wr)) (fun i _ => 32 - (intOf i).toNat)
  case atStart => exact ⟨0, Nat.zero_le _, rfl, (h3.out _ _).1, ⟨_, rfl, (h3.out _ _).2.1⟩, ⟨_, HoldsB.nil _ _ _ rfl, (h3.out _ _).2.2⟩, below3 _ _ _ _⟩
  case round =>
    obtain ⟨k, hk, rfl, hinv⟩ := hrel
    clear h3
    by_cases hlt : k < 32
    · have hltI : (k : Int) < 32 := by omega
      obtain ⟨S, hS, hr⟩ := hinv.out.row
      obtain ⟨v, hv⟩ : ∃ v, wr.cell? ⟨w.heap.size + 1 + 1, k, none⟩ = some v := by
        rw [cell_row hr]; exact ⟨_, Array.getElem?_eq_getElem (by rw [hS.1]; omega)⟩
      have hfz := free_row hr k
      obtain ⟨x, hx⟩ : ∃ x, x = l.getD (k / 4) 0 := ⟨_, rfl⟩
      have cell : wr.cell? ⟨w.heap.size, k / 4, none⟩ = some (.int .u32 x) := by rw [hx]; exact row32_cell hinv.out.src _ (by rw [Hl.out]; omega)
      have hf := hashF_at2 l k
      rw [← hx] at hf
      have Hf := Lib.hid hf
      have q1 : IntKind.i64.wrap ((k : Int).tdiv 4) = ((k / 4 : Nat) : Int) := by rw [show (k : Int).tdiv 4 = ((k / 4 : Nat) : Int) from rfl]; exact IntWalk.i64_in _ (by omega)
      have q8 : (k : Int).tmod 4 = (k : Int) % 4 := rfl
      have q5 : 24 - 8 * ((k : Int) % 4) < 32 := by omega
      have q6 : 0 ≤ 24 - 8 * ((k : Int) % 4) := by omega
      have q7 : (24 - 8 * ((k : Int) % 4)).toNat = 24 - 8 * (k % 4) := by omega
      have q9 : IntKind.u64.wrap (24 - 8 * ((k : Int) % 4)) = 24 - 8 * ((k : Int) % 4) := by rw [show IntKind.u64.wrap (24 - 8 * ((k : Int) % 4)) = (24 - 8 * ((k : Int) % 4)) % 18446744073709551616 by simp [IntKind.wrap, IntKind.bits, IntKind.signed]]; omega
      clear hr hS hx hf
      go_wp2
      go_roundw
      case rel => exact ⟨k + 1, by omega, by go_num, hinv.out.set hlt _ Hf.out.symm⟩
      case measure => simp [intOf]; omega
    · obtain rfl : k = 32 := by omega
      obtain ⟨S, hS, hr⟩ := hinv.out.row
      obtain ⟨Z, hZ, hz⟩ := hinv.out.res
      have low := hinv.out.low
      have hS' : S = u8s (hashL l) := hS.whole (hashL_length l) (fun j hj => hashL_getD l j hj)
      subst hS'
      have hs35 : (Tryd.prog.info? 23).map (·.size) = some (u8s (hashL l)).size := by rw [u8s_size, hashL_length]; exact info35
      have hzz : Z.size = (u8s (hashL l)).size := by rw [u8s_size, hashL_length, hZ]
      have Hs35 := Lib.hid hs35
      have Hzz := Lib.hid hzz
      have Hr := Lib.hid hr
      have Hz := Lib.hid hz
      clear hs35 hzz hr hz hinv hS hZ
      go_wp2_with (first | (refine wpList_load_row rfl 23 (.tmp 3) rfl (w.heap.size + 1 + 1) rfl 23 (u8s (hashL l)) (0, 0) _ Hr.out Tryd.underlying23 rfl Hs35.out ?_) | (refine wpList_store_row rfl 23 (.tmp 2) (.tmp 22) rfl (w.heap.size + 1) (u8s (hashL l)) rfl rfl 23 Z Hz.out Hs35.out Hzz.out (u8s_one _) ?_))
      exact bodyPost_ret (v := .agg (u8s (hashL l))) (results_cell_row rfl _ _ (w.heap.size + 1) 23 _ (0, 0) _ rfl (setRow_heap wr _ _ _ _ _ Hz.out) Tryd.underlying23 rfl Hs35.out) rfl ⟨rfl, below_setRow low (by omega) _⟩
end Go.Proofs.YtgkmbamoffolgaaDoor
