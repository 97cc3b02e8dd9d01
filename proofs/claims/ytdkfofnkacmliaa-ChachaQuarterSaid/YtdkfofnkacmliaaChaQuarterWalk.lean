/- DERIVED. The walk of the law ChachaQuarter, over whatever words. -/
import Derived.Test.YtdkfofnkacmliaaChaAwake
namespace Go.Proofs.Ytdkfofnkacmliaa.Cha
open Go.RowKit
theorem turnr_eq (x : Int) (n m : Nat) (hm : m = 32 - n) : bits .or .u32 (x / 2 ^ n) (x * 2 ^ m % 4294967296) = turnr x n := by unfold turnr; rw [hm]
set_option maxHeartbeats 400000 in
theorem right_any (x : Int) (n : Nat) (h1 : 1 ≤ n) (h2 : n ≤ 31) (w : World) :
    Calls Try.prog 5 #[.int .u32 x, .int .i64 (n : Int)] w fun e w' => e = .returned (.int .u32 (turnr x n)) ∧ w = w' := by
  have t : (32 - (n : Int)).toNat = 32 - n := by omega
  have t1 : (0 : Int) ≤ 32 - (n : Int) := by omega
  go_enter Try.func5, Try.ntmps5
  go_wp2
  go_ret
  exact ⟨ret_u32 (turnr_eq x n _ rfl), rfl⟩
theorem right_same (x n : Int) (h1 : 1 ≤ n) (h2 : n ≤ 31) (w : World) :
    Calls Try.prog 5 #[.int .u32 x, .int .i64 n] w fun e w' => e = .returned (.int .u32 (turnr x n.toNat)) ∧ w = w' := by
  obtain ⟨m, rfl⟩ := Int.eq_ofNat_of_zero_le (show 0 ≤ n by omega)
  exact right_any x m (by omega) (by omega) w
theorem turn_lit7 (x : Int) : turnr x (Int.toNat 7) = turnr x 7 := rfl
set_option maxRecDepth 100000 in
set_option maxHeartbeats 1000000 in
theorem quarter_walk (a b c d A1 B1 C1 D1 A2 B2 C2 D2 : Int) (w : World)
    (hq : ∀ W : World, Calls Try.prog 4 #[.agg #[.int .u32 a, .int .u32 b, .int .u32 c, .int .u32 d]] W fun e w' => e = .returned (.agg #[.int .u32 A2, .int .u32 B2, .int .u32 C2, .int .u32 D2]) ∧ Below W.heap.size W w')
    (h1 : bits .xor .u32 (turnr B2 7) C2 = B1) (h2 : (C2 - D2) % 4294967296 = C1) (h3 : bits .xor .u32 (turnr D2 8) A2 = D1) (h4 : (A2 - B1) % 4294967296 = A1)
    (h5 : bits .xor .u32 (turnr B1 12) C1 = b) (h6 : (C1 - D1) % 4294967296 = c) (h7 : bits .xor .u32 (turnr D1 16) A1 = d) (h8 : (A1 - b) % 4294967296 = a) :
    Calls Try.prog 3 #[.agg #[.int .u32 a, .int .u32 b, .int .u32 c, .int .u32 d]] w fun e w' => e = .returned (.bool true) ∧ Below w.heap.size w w' := by
  have he : ∀ W : World, (binOp .eql 23 (.agg #[.int .u32 a, .int .u32 b, .int .u32 c, .int .u32 d]) (.agg #[.int .u32 a, .int .u32 b, .int .u32 c, .int .u32 d])).run Try.prog W = .ok (.bool true) W := fun W => by
    have h := eql_four [a, b, c, d] [a, b, c, d] rfl rfl W
    rw [decide_eq_true rfl] at h
    exact h
  have Hq := Lib.hid hq
  clear hq
  go_enter Try.func3, Try.ntmps3
  go_wp2_with (go_at_call 4; refine (Hq.out _).mono ?_; rintro e w1 ⟨rfl, low1⟩; obtain ⟨hs2, hb1⟩ := kept_new low1; obtain ⟨c0, c1, c2, c3⟩ := cells4 hb1; have Low1 := Lib.hid low1; clear hb1 low1)
  go_quiet (fail)
  go_wp2_with (first
    | (go_at_call 5; refine (right_same _ _ (by decide) (by decide) _).mono ?_; rintro e0 w0 ⟨rfl, rfl⟩)
    | (go_at_call 6; refine (awake_any _).mono ?_; rintro e w2 ⟨rfl, low2⟩))
  go_ret
  have l0 : Below w.heap.size w (w.alloc (.cells #[.int .u32 a, .int .u32 b, .int .u32 c, .int .u32 d] 23)) := (Below.refl _ _).alloc (Nat.le_refl _) _
  have l1 := l0.trans (Low1.out.mono l0.size)
  have l2 := Below.drewN (l1.alloc l1.size (.cells #[.int .u32 A2, .int .u32 B2, .int .u32 C2, .int .u32 D2] 23)) nq
  exact ⟨rfl, l2.trans (low2.mono l2.size)⟩
/-- the law's walk, of any four words. -/
theorem quarter_law {a b c d : Int} (ha : Wd a) (hb : Wd b) (hc : Wd c) (hd : Wd d) (w : World) :
    Calls Try.prog 3 #[.agg #[.int .u32 a, .int .u32 b, .int .u32 c, .int .u32 d]] w fun e w' => e = .returned (.bool true) ∧ Below w.heap.size w w' :=
  quarter_walk a b c d (qa1 a b) (qb1 a b c d) (qc1 a b c d) (qd1 a b d) (qa2 a b c d) (qb2 a b c d) (qc2 a b c d) (qd2 a b c d) w (fun W => quarter_lit a b c d W)
    (un_b1 hb) un_c1 (un_d1 hd) un_a1 (un_b hb) (un_c hc) (un_d hd) (un_a ha)
end Go.Proofs.Ytdkfofnkacmliaa.Cha
