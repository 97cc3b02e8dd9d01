/- DERIVED. Contracts of the reference's Left, Quarter and word of layer 3. -/
import Derived.Test.YtdkfofnkacmliaaDoorChaState
namespace Go.Proofs.YtdkfofnkacmliaaDoor.Cha
open Go.RowKit
set_option maxHeartbeats 400000 in
theorem left_any (x : Int) (n : Nat) (h1 : 1 ≤ n) (h2 : n ≤ 31) (w : World) :
    Calls Tryd.prog 15 #[.int .u32 x, .int .i64 (n : Int)] w fun e w' => e = .returned (.int .u32 (rotl x n)) ∧ w = w' := by
  have e1 : IntKind.i64.wrap (32 - (n : Int)) = ((32 - n : Nat) : Int) := by rw [IntWalk.i64_in _ (by omega)]; omega
  have e2 : (((32 - n : Nat) : Int)).toNat = 32 - n := by omega
  have b1 : ((32 - n : Nat) : Int) ≤ 31 := by omega
  have b2 : (0 : Int) ≤ ((32 - n : Nat) : Int) := by omega
  go_enter Tryd.func15, Tryd.ntmps15
  go_wp2
  go_ret
  exact ⟨ret_u32 (rotl_eq x n), rfl⟩
theorem left_same (x n : Int) (h1 : 1 ≤ n) (h2 : n ≤ 31) (w : World) :
    Calls Tryd.prog 15 #[.int .u32 x, .int .i64 n] w fun e w' => e = .returned (.int .u32 (rotl x n.toNat)) ∧ w = w' := by
  obtain ⟨m, rfl⟩ := Int.eq_ofNat_of_zero_le (show 0 ≤ n by omega)
  exact left_any x m (by omega) (by omega) w
theorem results_tmp4 {fn : Func} {t u v x : Tmp} (h : fn.results = #[.tmp t, .tmp u, .tmp v, .tmp x]) (tmps : Array Value) (P : Program) (w : World) :
    (results fn tmps).run P w = .ok (.tuple #[tmps.getD t undef, tmps.getD u undef, tmps.getD v undef, tmps.getD x undef]) w := by
  simp [results, h]
set_option maxRecDepth 100000 in
set_option maxHeartbeats 1000000 in
theorem rquarter_any (a b c d : Int) (w : World) :
    Calls Tryd.prog 7 #[.int .u32 a, .int .u32 b, .int .u32 c, .int .u32 d] w
      fun e' w' => e' = .returned (.tuple #[.int .u32 (qa2 a b c d), .int .u32 (qb2 a b c d), .int .u32 (qc2 a b c d), .int .u32 (qd2 a b c d)]) ∧ w = w' := by
  go_enter Tryd.func7, Tryd.ntmps7
  go_wp2_with (go_at_call 15; refine (left_same _ _ (by decide) (by decide) _).mono ?_; rintro e0 w0 ⟨rfl, rfl⟩)
  refine bodyPost_ret (results_tmp4 rfl _ _ _) rfl ?_
  exact ⟨rfl, rfl⟩
theorem or_join (n : Nat) (lo hi : Int) (b1 : 0 ≤ lo) (b2 : lo < 4294967296) (b3 : 0 ≤ hi) (b4 : hi < 4294967296) (h1 : hi.toNat % 2 ^ n = 0) (h2 : lo.toNat < 2 ^ n) : bits .or .u32 lo hi = lo + hi := by
  rw [u32_or lo hi b1 b2 b3 b4, Nat.or_comm, nat_join n _ _ h1 h2]; omega
theorem word4_sum (a b c d : Int) (ha : 0 ≤ a ∧ a < 256) (hb : 0 ≤ b ∧ b < 256) (hc : 0 ≤ c ∧ c < 256) (hd : 0 ≤ d ∧ d < 256) : word4 a b c d = a + b * 256 + c * 65536 + d * 16777216 := by
  unfold word4
  rw [or_join 8 a (b * 256) (by omega) (by omega) (by omega) (by omega) (by omega) (by omega), or_join 16 (a + b * 256) (c * 65536) (by omega) (by omega) (by omega) (by omega) (by omega) (by omega), or_join 24 (a + b * 256 + c * 65536) (d * 16777216) (by omega) (by omega) (by omega) (by omega) (by omega) (by omega)]
/-- the reference's word, so many bytes being in. -/
def accW (a b c d : Int) : Nat → Int
  | 0 => 0
  | 1 => d
  | 2 => 256 * d + c
  | 3 => 65536 * d + 256 * c + b
  | _ => 16777216 * d + 65536 * c + 256 * b + a
set_option maxRecDepth 100000 in
set_option maxHeartbeats 1000000 in
/-- the reference's word: of the four bytes from at on. -/
theorem rword_any (g n cap m : Nat) (a b c d : Int) (hm : m + 4 ≤ n) (hn : n ≤ 100000) (w : World)
    (h0 : w.cell? ⟨g, m, none⟩ = some (.int .u8 a)) (h1 : w.cell? ⟨g, m + 1, none⟩ = some (.int .u8 b)) (h2 : w.cell? ⟨g, m + 2, none⟩ = some (.int .u8 c)) (h3 : w.cell? ⟨g, m + 3, none⟩ = some (.int .u8 d))
    (ha : 0 ≤ a ∧ a < 256) (hb : 0 ≤ b ∧ b < 256) (hc : 0 ≤ c ∧ c < 256) (hd : 0 ≤ d ∧ d < 256) :
    Calls Tryd.prog 24 #[.slice (some ⟨g, 0, none⟩) n cap, .int .i64 (m : Int)] w fun e w' => e = .returned (.int .u32 (word4 a b c d)) ∧ w = w' := by
  have hs := word4_sum a b c d ha hb hc hd
  have l0 : (m : Int) < n := by omega
  have l1 : (m : Int) + 1 < n := by omega
  have l2 : (m : Int) + 2 < n := by omega
  have l3 : (m : Int) + 3 < n := by omega
  have t1 : ((m : Int) + 1).toNat = m + 1 := by omega
  have t2 : ((m : Int) + 2).toNat = m + 2 := by omega
  have t3 : ((m : Int) + 3).toNat = m + 3 := by omega
  have HS := Lib.hid hs
  have H0 := Lib.hid h0
  have H1 := Lib.hid h1
  have H2 := Lib.hid h2
  have H3 := Lib.hid h3
  have HA := Lib.hid ha
  have HB := Lib.hid hb
  have HC := Lib.hid hc
  have HD := Lib.hid hd
  clear hs h0 h1 h2 h3 ha hb hc hd hm
  go_enter Tryd.func24, Tryd.ntmps24
  go_wp2
  go_loopw [5, 6] (fun v i wr => ∃ j : Nat, j ≤ 4 ∧ i = .int .i64 (3 - (j : Int)) ∧ v = .int .u32 (accW a b c d j) ∧ wr = w) (fun _ i _ => (intOf i + 1).toNat)
  case atStart => exact ⟨0, by omega, rfl, rfl, rfl⟩
  case round =>
    obtain ⟨j, hj, rfl, rfl, hw⟩ := hrel
    obtain rfl | rfl | rfl | rfl | rfl : j = 0 ∨ j = 1 ∨ j = 2 ∨ j = 3 ∨ j = 4 := by omega
    · have hc := H3.out
      go_wp2
      go_roundw
      case rel => exact ⟨1, by omega, by go_num, congrArg (Value.int .u32) (by { have := HA.out; have := HB.out; have := HC.out; have := HD.out; simp only [accW]; omega }), trivial⟩
      case measure => simp [intOf]
    · have hc := H2.out
      go_wp2
      go_roundw
      case rel => exact ⟨2, by omega, by go_num, congrArg (Value.int .u32) (by { have := HA.out; have := HB.out; have := HC.out; have := HD.out; simp only [accW]; omega }), trivial⟩
      case measure => simp [intOf]
    · have hc := H1.out
      go_wp2
      go_roundw
      case rel => exact ⟨3, by omega, by go_num, congrArg (Value.int .u32) (by { have := HA.out; have := HB.out; have := HC.out; have := HD.out; simp only [accW]; omega }), trivial⟩
      case measure => simp [intOf]
    · have hc := H0.out
      go_wp2
      go_roundw
      case rel => exact ⟨4, by omega, by go_num, congrArg (Value.int .u32) (by { have := HA.out; have := HB.out; have := HC.out; have := HD.out; simp only [accW]; omega }), trivial⟩
      case measure => simp [intOf]
    · go_wp2
      go_ret
      exact ⟨congrArg (fun x => Ending.returned (Value.int .u32 x)) (by rw [HS.out]; simp only [accW]; omega), rfl⟩
end Go.Proofs.YtdkfofnkacmliaaDoor.Cha
