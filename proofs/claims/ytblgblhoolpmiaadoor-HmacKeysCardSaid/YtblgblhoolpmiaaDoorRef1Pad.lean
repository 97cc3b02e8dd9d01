/- DERIVED. The contract of the reference's Behind of layer 1: the bytes behind n bytes. -/
import Derived.Test.YtblgblhoolpmiaaDoorRef1Primes
import Derived.Test.YtblgblhoolpmiaaDoorShaPad
namespace Go.Proofs.YtblgblhoolpmiaaDoor
open Go.RowKit
theorem padL_take (n j : Nat) (h : j < padLen n) (x : Int) (hx : x = padF n j) : (padL n).take j ++ [x] = (padL n).take (j + 1) := by
  rw [hx, padL_getD n j h]
  exact take_getD (by rw [padL_length]; exact h)
theorem rbehind_no (n : Int) (h : n < 0 ∨ 1152921504606846976 < n) (w : World) :
    Calls Tryd.prog 13 #[.int .i64 n] w fun e' w' => e' = .returned (.slice none 0 0) ∧ w' = w := by
  rcases h with h | h
  · go_enter Tryd.func13, Tryd.ntmps13
    go_wp2
    go_ret
    exact ⟨rfl, rfl⟩
  · have h' : ¬ n < 0 := by omega
    go_enter Tryd.func13, Tryd.ntmps13
    go_wp2
    go_ret
    exact ⟨rfl, rfl⟩
set_option maxRecDepth 100000 in
set_option maxHeartbeats 1000000 in
theorem rbehind_any (n : Nat) (h : n ≤ 1152921504606846976) (w : World) :
    Calls Tryd.prog 13 #[.int .i64 (n : Int)] w fun e' w' => ∃ g c, e' = .returned (.slice (some ⟨g, 0, none⟩) (padLen n) c) ∧ padLen n ≤ c ∧ w.heap.size ≤ g ∧ RowK .u8 w' g (padL n) ∧ Below w.heap.size w w' := by
  obtain ⟨i8, hi8, hz80, hz81, hz82⟩ := partsK info8k
  have gi := Lib.hid hi8
  have gz0 := Lib.hid hz80
  have gz1 := Lib.hid hz81
  have gz2 := Lib.hid hz82
  clear hi8 hz80 hz81 hz82
  have h1 : ¬ (n : Int) < 0 := by omega
  have h2 : ¬ 1152921504606846976 < (n : Int) := by omega
  have h3 : (n : Int) ≤ 1152921504606846976 := by omega
  have hz := zeros_lt n
  have hz2 : zeros n = (128 - (n % 64 + 9)) % 64 := rfl
  have hpl : padLen n = 9 + zeros n := rfl
  obtain ⟨Z, hZ⟩ : ∃ Z, zeros n = Z := ⟨_, rfl⟩
  rw [hZ] at hz hz2 hpl
  have hnew : (w.alloc (.cells #[.int .u8 128] 5)).ownsRow w.heap.size 5 1 (.slice (some ⟨w.heap.size, 0, none⟩) 1 1) 1 (valsK .u8 ((padL n).take 1)) := by
    have e : (padL n).take 1 = [128] := by
      have := padL_take n 0 (by omega) 128 (padF_zero n).symm
      simpa using this.symm
    rw [e]
    exact ⟨rfl, .inr ⟨w.heap.size, 1, _, rfl, Nat.le_refl _, Go.heap_alloc_new w _, Nat.le_refl _, by unfold maxLen; omega, rfl, rfl⟩⟩
  have low1 : Below w.heap.size w (w.alloc (.cells #[.int .u8 128] 5)) := (Below.refl _ _).alloc (Nat.le_refl _) _
  have Hnew := Lib.hid hnew
  have Low1 := Lib.hid low1
  have HZ := Lib.hid hZ
  have Hz2 := Lib.hid hz2
  have Hpl := Lib.hid hpl
  clear h hnew low1 hZ hz2 hpl
  go_enter Tryd.func13, Tryd.ntmps13
  go_wp2
  go_loopw [3] (fun v wr => ∃ (k c : Nat) (A : Option Addr), k ≤ Z ∧ v = .slice A (1 + k) c ∧ Hid (wr.ownsRow w.heap.size 5 1 v (1 + k) (valsK .u8 ((padL n).take (1 + k))) ∧ Below w.heap.size w wr)) (fun v _ => match v with | .slice _ m _ => 100 - m | _ => 0)
  case atStart => exact ⟨0, 1, _, by omega, rfl, Hnew.out, Low1.out⟩
  case round =>
    obtain ⟨k, c, A, hk, rfl, hr⟩ := hrel
    by_cases hlt : k < Z
    · have hne : ¬ (((n : Int) + (1 + (k : Int)) + 8) % 64 = 0) := by have := Hz2.out; omega
      have hmore := padL_take n (1 + k) (by rw [Hpl.out]; omega) 0 (padF_mid n (1 + k) (by omega) (by rw [HZ.out]; omega)).symm
      have Hmore := Lib.hid hmore
      clear hmore
      go_wp2_with (at_builtin; refine wpList_append_mine rfl (.tmp 21) (.tmp 22) 26 rfl w.heap.size 5 i8 (.int .u8 0) 1 Tryd.underlying26 gi.out gz0.out gz1.out gz2.out rfl (by decide) _ (1 + k) ((padL n).take (1 + k)) 0 rfl hr.out.1 rfl (by omega) hr.out.2.size ?_; intro v' w' hgr; obtain ⟨A', c', hv'⟩ := own_nilK hgr.own; subst hv'; have Hgr := Lib.hid hgr; clear hgr)
      go_roundw
      case rel => exact ⟨k + 1, c', A', by omega, by rw [show 1 + k + 1 = 1 + (k + 1) by omega], by rw [show 1 + (k + 1) = 1 + k + 1 by omega, ← Hmore.out]; exact ⟨Hgr.out.own, Hgr.out.low _ _ hr.out.2 (Nat.le_refl _)⟩⟩
      case measure => show 100 - (1 + k + 1) < 100 - (1 + k); omega
    · obtain rfl : Z = k := by omega
      have heq : ((n : Int) + (1 + (Z : Int)) + 8) % 64 = 0 := by have := Hz2.out; omega
      have hn8 : 8 * (n : Int) < 18446744073709551616 := by omega
      obtain ⟨wo, hwo⟩ : ∃ wo, wo = wr := ⟨_, rfl⟩
      subst hwo
      obtain ⟨M, hM⟩ : ∃ M : Int, M = 8 * (n : Int) := ⟨_, rfl⟩
      have HM := Lib.hid hM
      go_wp2
      rw [← hM]
      clear heq hM
      go_loopw [3, 5] (fun v i wx => ∃ j : Nat, j ≤ 8 ∧ i = .int .i64 j ∧ Hid (wx.ownsRow w.heap.size 5 1 v (1 + Z + j) (valsK .u8 ((padL n).take (1 + Z + j))) ∧ Below w.heap.size w wx)) (fun _ i _ => 8 - (intOf i).toNat)
      case atStart => exact ⟨0, by omega, rfl, hr.out⟩
      case round =>
        obtain ⟨j, hj, rfl, hq⟩ := hrel
        by_cases hlt8 : j < 8
        · have hltI : (j : Int) < 8 := by omega
          have hs : IntKind.u64.wrap (56 - 8 * (j : Int)) = ((56 - 8 * j : Nat) : Int) := by rw [show IntKind.u64.wrap (56 - 8 * (j : Int)) = (56 - 8 * (j : Int)) % 18446744073709551616 by simp [IntKind.wrap, IntKind.bits, IntKind.signed]]; omega
          have hs2 : (((56 - 8 * j : Nat) : Int)).toNat = 56 - 8 * j := by omega
          have hs3 : (56 : Int) - 8 * (j : Int) = ((56 - 8 * j : Nat) : Int) := by omega
          have hs4 : ((56 - 8 * j : Nat) : Int) < 64 := by omega
          have hs5 : 0 ≤ ((56 - 8 * j : Nat) : Int) := by omega
          have hx : M / 2 ^ (56 - 8 * j) % 256 = padF n (1 + Z + j) := by
            have h := padF_tail n (7 - j) (by omega)
            rw [show padLen n - 1 - (7 - j) = 1 + Z + j by rw [Hpl.out]; omega] at h
            rw [h, HM.out, show 8 * (7 - j) = 56 - 8 * j by omega]
          have hmore := padL_take n (1 + Z + j) (by rw [Hpl.out]; omega) _ hx
          have Hmore := Lib.hid hmore
          clear hmore hx
          go_wp2_with (at_builtin; refine wpList_append_mine rfl (.tmp 35) (.tmp 40) 26 rfl w.heap.size 5 i8 (.int .u8 0) 1 Tryd.underlying26 gi.out gz0.out gz1.out gz2.out rfl (by decide) _ (1 + Z + j) ((padL n).take (1 + Z + j)) _ rfl hq.out.1 rfl (by omega) hq.out.2.size ?_; intro v' w' hgr; have Hgr := Lib.hid hgr; clear hgr)
          go_roundw
          case rel => exact ⟨j + 1, by omega, by go_num, by rw [show 1 + Z + (j + 1) = 1 + Z + j + 1 by omega, ← Hmore.out]; exact ⟨Hgr.out.own, Hgr.out.low _ _ hq.out.2 (Nat.le_refl _)⟩⟩
          case measure => simp [intOf]; omega
        · obtain rfl : j = 8 := by omega
          have own := hq.out.1
          have hp : 1 + Z + 8 = padLen n := by rw [Hpl.out]; omega
          rw [hp, List.take_of_length_le (Nat.le_of_eq (padL_length n))] at own
          obtain ⟨g2, c2, rfl, hc2, hg2, hrow2⟩ := own_rowK own (padL_length n) (by rw [Hpl.out]; omega)
          have Hrow2 := Lib.hid hrow2
          have Low2 := Lib.hid hq.out.2
          clear own hq hrow2 hp
          go_wp2
          go_ret
          exact ⟨g2, c2, rfl, hc2, hg2, Hrow2.out, Low2.out⟩
end Go.Proofs.YtblgblhoolpmiaaDoor
