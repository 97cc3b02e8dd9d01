/- DERIVED. The contracts of the reference's r, s and Schedule of layer 1: the words of a block. -/
import Derived.Test.YtblgblhoolpmiaaDoorRef1Primes
import Derived.Test.YtblgblhoolpmiaaDoorShaRot
namespace Go.Proofs.YtblgblhoolpmiaaDoor
open Go.RowKit
theorem bits_or_comm (a b : Int) : bits .or .u32 a b = bits .or .u32 b a := by
  simp [bits, BitVec.or_comm]
theorem rotr_eq2 (x : Int) (n : Nat) : bits .or .u32 (x / 2 ^ n) (x * 2 ^ (32 - n) % 4294967296) = rotr x n := by
  rw [bits_or_comm]; unfold rotr; rfl
set_option maxHeartbeats 400000 in
theorem rr_any (x : Int) (n : Nat) (h1 : 1 ≤ n) (h2 : n ≤ 31) (w : World) :
    Calls Tryd.prog 49 #[.int .u32 x, .int .u64 (n : Int)] w fun e w' => e = .returned (.int .u32 (rotr x n)) ∧ w' = w := by
  have e1 : IntKind.u64.wrap (32 - (n : Int)) = ((32 - n : Nat) : Int) := by rw [show IntKind.u64.wrap (32 - (n : Int)) = (32 - (n : Int)) % 18446744073709551616 by simp [IntKind.wrap, IntKind.bits, IntKind.signed]]; omega
  have e2 : (((32 - n : Nat) : Int)).toNat = 32 - n := by omega
  have b1 : ((32 - n : Nat) : Int) ≤ 31 := by omega
  have b2 : (0 : Int) ≤ ((32 - n : Nat) : Int) := by omega
  go_enter Tryd.func49, Tryd.ntmps49
  go_wp2
  go_ret
  exact ⟨ret_u32 (rotr_eq2 x n), rfl⟩
theorem rr_same (x n : Int) (h1 : 1 ≤ n) (h2 : n ≤ 31) (w : World) :
    Calls Tryd.prog 49 #[.int .u32 x, .int .u64 n] w fun e w' => e = .returned (.int .u32 (rotr x n.toNat)) ∧ w' = w := by
  obtain ⟨m, rfl⟩ := Int.eq_ofNat_of_zero_le (show 0 ≤ n by omega)
  exact rr_any x m (by omega) (by omega) w
set_option maxHeartbeats 400000 in
theorem rs3 (x : Int) (w : World) : Calls Tryd.prog 55 #[.int .u32 x, .int .u64 3] w fun e w' => e = .returned (.int .u32 (x / 8)) ∧ w' = w := by
  go_enter Tryd.func55, Tryd.ntmps55
  go_wp2
  go_ret
  exact ⟨rfl, rfl⟩
set_option maxHeartbeats 400000 in
theorem rs10 (x : Int) (w : World) : Calls Tryd.prog 55 #[.int .u32 x, .int .u64 10] w fun e w' => e = .returned (.int .u32 (x / 1024)) ∧ w' = w := by
  go_enter Tryd.func55, Tryd.ntmps55
  go_wp2
  go_ret
  exact ⟨rfl, rfl⟩
def sh (n : Int) : Int := if n = 3 then 8 else 1024
theorem rs_same (x n : Int) (h : n = 3 ∨ n = 10) (w : World) : Calls Tryd.prog 55 #[.int .u32 x, .int .u64 n] w fun e w' => e = .returned (.int .u32 (x / sh n)) ∧ w' = w := by
  rcases h with rfl | rfl
  · exact rs3 x w
  · exact rs10 x w
theorem or_sum (n : Nat) (hi lo : Int) (b1 : 0 ≤ lo) (b2 : lo < 4294967296) (b3 : 0 ≤ hi) (b4 : hi < 4294967296) (h1 : hi.toNat % 2 ^ n = 0) (h2 : lo.toNat < 2 ^ n) : bits .or .u32 hi lo = hi + lo := by
  rw [u32_or hi lo b3 b4 b1 b2]
  have : hi.toNat ||| lo.toNat = hi.toNat + lo.toNat := by
    have h3 : hi.toNat = 2 ^ n * (hi.toNat / 2 ^ n) := by have := Nat.div_add_mod hi.toNat (2 ^ n); omega
    rw [h3, ← Nat.two_pow_add_eq_or_of_lt h2]
  rw [this]
  omega
theorem word4_big (a b c d : Int) (ha : 0 ≤ a ∧ a < 256) (hb : 0 ≤ b ∧ b < 256) (hc : 0 ≤ c ∧ c < 256) (hd : 0 ≤ d ∧ d < 256) : word4 a b c d = a * 16777216 + b * 65536 + c * 256 + d := by
  unfold word4
  rw [or_sum 24 (a * 16777216) (b * 65536) (by omega) (by omega) (by omega) (by omega) (by omega) (by omega), or_sum 16 (a * 16777216 + b * 65536) (c * 256) (by omega) (by omega) (by omega) (by omega) (by omega) (by omega), or_sum 8 (a * 16777216 + b * 65536 + c * 256) d (by omega) (by omega) (by omega) (by omega) (by omega) (by omega)]
/-- the reference's word, so many bytes being in. -/
def accB (a b c d : Int) : Nat → Int
  | 0 => 0
  | 1 => a
  | 2 => 256 * a + b
  | 3 => 65536 * a + 256 * b + c
  | _ => 16777216 * a + 65536 * b + 256 * c + d
theorem sched_take (l : List Int) (j : Nat) (h : j < 64) : (sched l).take j ++ [W l j] = (sched l).take (j + 1) := by
  rw [W_of_sched]; exact take_getD (by rw [sched_length]; exact h)
set_option maxRecDepth 100000 in
set_option maxHeartbeats 2000000 in
theorem rsched_any (l : List Int) (hb : InB l) (g off cap : Nat) (w : World) (hg : g < w.heap.size) (hc : ∀ j, j < 64 → w.cell? ⟨g, off + j, none⟩ = some (.int .u8 (l.getD j 0))) :
    Calls Tryd.prog 48 #[.slice (some ⟨g, off, none⟩) 64 cap] w fun e w' => ∃ g' c', e = .returned (.slice (some ⟨g', 0, none⟩) 64 c') ∧ w.heap.size ≤ g' ∧ RowK .u32 w' g' (sched l) ∧ Below w.heap.size w w' := by
  obtain ⟨i32, hi32, hz320, hz321, hz322⟩ := partsK info32k
  have gi := Lib.hid hi32
  have gz0 := Lib.hid hz320
  have gz1 := Lib.hid hz321
  have gz2 := Lib.hid hz322
  have HC := Lib.hid hc
  have HB := Lib.hid hb
  clear hi32 hz320 hz321 hz322 hc hb
  go_enter Tryd.func48, Tryd.ntmps48
  go_wp2
  go_loopw [3, 4] (fun v i wr => ∃ k : Nat, k ≤ 64 ∧ i = .int .i64 k ∧ Hid (wr.ownsRow w.heap.size 22 1 v k (valsK .u32 ((sched l).take k)) ∧ Below w.heap.size w wr)) (fun _ i _ => 64 - (intOf i).toNat)
  case atStart => exact ⟨0, by omega, rfl, World.ownsRow_nil _ _ _ _, Below.refl _ _⟩
  case round =>
    obtain ⟨k, hk, rfl, hr⟩ := hrel
    by_cases hlt : k < 64
    · have hltI : (k : Int) < 64 := by omega
      by_cases h16 : k < 16
      · have h16I : (k : Int) < 16 := by omega
        obtain ⟨a, ha⟩ : ∃ a, l.getD (4 * k) 0 = a := ⟨_, rfl⟩
        obtain ⟨b, hb⟩ : ∃ a, l.getD (4 * k + 1) 0 = a := ⟨_, rfl⟩
        obtain ⟨c, hc⟩ : ∃ a, l.getD (4 * k + 2) 0 = a := ⟨_, rfl⟩
        obtain ⟨d, hd⟩ : ∃ a, l.getD (4 * k + 3) 0 = a := ⟨_, rfl⟩
        have ra := HB.out (4 * k)
        have rb := HB.out (4 * k + 1)
        have rc := HB.out (4 * k + 2)
        have rd := HB.out (4 * k + 3)
        rw [ha] at ra
        rw [hb] at rb
        rw [hc] at rc
        rw [hd] at rd
        have hW : W l k = accB a b c d 4 := by
          rw [W_lt l k h16, ha, hb, hc, hd, word4_big a b c d ra rb rc rd]
          simp only [accB]; omega
        have cl : ∀ j, j < 64 → wr.cell? ⟨g, off + j, none⟩ = some (.int .u8 (l.getD j 0)) := fun j hj => (hr.out.2.cell (p := ⟨g, off + j, none⟩) hg).trans (HC.out j hj)
        have ca := cl (4 * k) (by omega)
        have cb := cl (4 * k + 1) (by omega)
        have cc := cl (4 * k + 2) (by omega)
        have cd := cl (4 * k + 3) (by omega)
        rw [ha] at ca
        rw [hb] at cb
        rw [hc] at cc
        rw [hd] at cd
        have hmore := sched_take l k hlt
        rw [hW] at hmore
        have Ca := Lib.hid ca
        have Cb := Lib.hid cb
        have Cc := Lib.hid cc
        have Cd := Lib.hid cd
        have Ra := Lib.hid ra
        have Rb := Lib.hid rb
        have Rc := Lib.hid rc
        have Rd := Lib.hid rd
        have Hmore := Lib.hid hmore
        have t0 : (4 * (k : Int)).toNat = 4 * k := by omega
        have t1 : (4 * (k : Int) + 1).toNat = 4 * k + 1 := by omega
        have t2 : (4 * (k : Int) + 2).toNat = 4 * k + 2 := by omega
        have t3 : (4 * (k : Int) + 3).toNat = 4 * k + 3 := by omega
        have l0 : (4 * (k : Int)) < 64 := by omega
        have l1 : (4 * (k : Int) + 1) < 64 := by omega
        have l2 : (4 * (k : Int) + 2) < 64 := by omega
        have l3 : (4 * (k : Int) + 3) < 64 := by omega
        clear ha hb hc hd ra rb rc rd hW cl ca cb cc cd hmore
        obtain ⟨wo, hwo⟩ : ∃ wo, wo = wr := ⟨_, rfl⟩
        subst hwo
        go_wp2
        go_loopw [5, 6] (fun n i wx => ∃ j : Nat, j ≤ 4 ∧ i = .int .i64 (4 * (k : Int) + (j : Int)) ∧ n = .int .u32 (accB a b c d j) ∧ Hid (wx = wo)) (fun _ i _ => (4 * (k : Int) + 4 - intOf i).toNat)
        case atStart => exact ⟨0, by omega, by simp, rfl, rfl⟩
        case round =>
          obtain ⟨j, hj, rfl, rfl, hwx⟩ := hrel
          have hw0 := hwx.out
          subst hw0
          obtain rfl | rfl | rfl | rfl | rfl : j = 0 ∨ j = 1 ∨ j = 2 ∨ j = 3 ∨ j = 4 := by omega
          · have cell := Ca.out
            go_wp2
            go_roundw
            case rel => exact ⟨1, by omega, by go_num, congrArg (Value.int .u32) (by { have := Ra.out; have := Rb.out; have := Rc.out; have := Rd.out; simp only [accB]; omega }), Lib.hid trivial⟩
            case measure => simp [intOf]; omega
          · have cell := Cb.out
            go_wp2
            go_roundw
            case rel => exact ⟨2, by omega, by go_num, congrArg (Value.int .u32) (by { have := Ra.out; have := Rb.out; have := Rc.out; have := Rd.out; simp only [accB]; omega }), Lib.hid trivial⟩
            case measure => simp [intOf]; omega
          · have cell := Cc.out
            go_wp2
            go_roundw
            case rel => exact ⟨3, by omega, by go_num, congrArg (Value.int .u32) (by { have := Ra.out; have := Rb.out; have := Rc.out; have := Rd.out; simp only [accB]; omega }), Lib.hid trivial⟩
            case measure => simp [intOf]; omega
          · have cell := Cd.out
            go_wp2
            go_roundw
            case rel => exact ⟨4, by omega, by go_num, congrArg (Value.int .u32) (by { have := Ra.out; have := Rb.out; have := Rc.out; have := Rd.out; simp only [accB]; omega }), Lib.hid trivial⟩
            case measure => simp [intOf]; omega
          · obtain ⟨y, hy⟩ : ∃ y, y = accB a b c d 4 := ⟨_, rfl⟩
            rw [← hy]
            have Hy := Lib.hid hy
            clear hy Ra Rb Rc Rd Ca Cb Cc Cd
            go_wp2_with (at_builtin; refine wpList_append_mine rfl (.tmp 33) (.tmp 35) 59 rfl w.heap.size 22 i32 (.int .u32 0) 4 Tryd.underlying59 gi.out gz0.out gz1.out gz2.out rfl (by decide) _ k ((sched l).take k) y rfl hr.out.1 rfl (by omega) hr.out.2.size ?_; intro v' w' hgr; have Hgr := Lib.hid hgr; clear hgr)
            go_roundw
            case rel => exact ⟨k + 1, by omega, by go_num, by rw [← Hmore.out, ← Hy.out]; exact ⟨Hgr.out.own, Hgr.out.low _ _ hr.out.2 (Nat.le_refl _)⟩⟩
            case measure => simp [intOf]; omega
      · have h16I : ¬ (k : Int) < 16 := by omega
        obtain ⟨g2, c2, rfl, _, hg2, hrow⟩ := own_rowK hr.out.1 (by rw [List.length_take, sched_length]; omega) (by omega)
        have cl : ∀ j, j < k → wr.cell? ⟨g2, j, none⟩ = some (.int .u32 (W l j)) := fun j hj => by
          rw [hrow.2 j (by rw [List.length_take, sched_length]; omega), W_of_sched]
          simp [List.getD_eq_getElem?_getD, hj]
        obtain ⟨x, hx⟩ : ∃ x, W l (k - 15) = x := ⟨_, rfl⟩
        obtain ⟨y, hy⟩ : ∃ x, W l (k - 2) = x := ⟨_, rfl⟩
        obtain ⟨p, hp⟩ : ∃ x, W l (k - 16) = x := ⟨_, rfl⟩
        obtain ⟨q, hq⟩ : ∃ x, W l (k - 7) = x := ⟨_, rfl⟩
        have c15 := cl (k - 15) (by omega)
        have c2' := cl (k - 2) (by omega)
        have c16 := cl (k - 16) (by omega)
        have c7 := cl (k - 7) (by omega)
        rw [hx] at c15
        rw [hy] at c2'
        rw [hp] at c16
        rw [hq] at c7
        have hW : W l k = (p + s0 x + q + s1 y) % 4294967296 := by
          rw [W_ge l k (by omega) hlt]; unfold nextW; rw [hx, hy, hp, hq]
        have hmore := sched_take l k hlt
        rw [hW] at hmore
        have Hmore := Lib.hid hmore
        have i15 : (0 : Int) ≤ (k : Int) - 15 := by omega
        have i2 : (0 : Int) ≤ (k : Int) - 2 := by omega
        have i16 : (0 : Int) ≤ (k : Int) - 16 := by omega
        have i7 : (0 : Int) ≤ (k : Int) - 7 := by omega
        have t15 : ((k : Int) - 15).toNat = k - 15 := by omega
        have t2 : ((k : Int) - 2).toNat = k - 2 := by omega
        have t16 : ((k : Int) - 16).toNat = k - 16 := by omega
        have t7 : ((k : Int) - 7).toNat = k - 7 := by omega
        have b15 : (k : Int) - 15 < k := by omega
        have b2 : (k : Int) - 2 < k := by omega
        have b16 : (k : Int) - 16 < k := by omega
        have b7 : (k : Int) - 7 < k := by omega
        clear hx hy hp hq hW hmore cl hrow
        go_wp2
        go_quiet (first | (go_at_call 49; exact Calls.quiet_of_same (rr_same _ _ (by decide) (by decide) _)) | (go_at_call 55; exact Calls.quiet_of_same (rs_same _ _ (by decide) _)))
        go_wp2_with (at_builtin; refine wpList_append_mine rfl (.tmp 76) (.tmp 78) 59 rfl w.heap.size 22 i32 (.int .u32 0) 4 Tryd.underlying59 gi.out gz0.out gz1.out gz2.out rfl (by decide) _ k ((sched l).take k) _ rfl (own_stays hr.out.1 (Below.drewN (Below.refl _ _) nq)) rfl (by omega) (Below.drewN hr.out.2 nq).size ?_; intro v' w' hgr; have Hgr := Lib.hid hgr; clear hgr)
        go_roundw
        case rel => exact ⟨k + 1, by omega, by go_num, by rw [← Hmore.out]; exact ⟨Hgr.out.own, Hgr.out.low _ _ (Below.drewN hr.out.2 nq) (Nat.le_refl _)⟩⟩
        case measure => simp [intOf]; omega
    · obtain rfl : k = 64 := by omega
      have own := hr.out.1
      rw [List.take_of_length_le (Nat.le_of_eq (sched_length l))] at own
      obtain ⟨g2, c2, rfl, _, hg2, hrow2⟩ := own_rowK own (sched_length l) (by decide)
      have low2 := hr.out.2
      have Hrow2 := Lib.hid hrow2
      have Low2 := Lib.hid low2
      clear own hr hrow2 low2
      go_wp2
      go_ret
      exact ⟨g2, c2, rfl, hg2, Hrow2.out, Low2.out⟩
end Go.Proofs.YtblgblhoolpmiaaDoor
