/- DERIVED. The contracts of label's Check, Below, Join, Meet, Order, Top and of the laws' of. -/
import Derived.Test.YtlojepagolkehaaDoorProg
import Derived.Test.YtlojepagolkehaaDoorBase2
import Derived.Laws.BitsAllLaws
import Derived.Deep.CutBlock
import Derived.Lib.Hide
import Derived.KernelRfl
import Derived.IntWalk
namespace Go.Proofs.YtlojepagolkehaaDoor.Lab
open Go.RowKit
/-- what Check tells. -/
def chk (lv : Int) : Int := if 0 ≤ lv ∧ lv ≤ 15 then 0 else 2
/-- whether a label is below another one. -/
def bel (a : Int) (c : Nat) (b : Int) (d : Nat) : Bool := decide (a ≤ b ∧ c &&& d = c)
theorem and_compl {c d : Nat} (hc : c < 18446744073709551616) (hd : d < 18446744073709551616) : c &&& (18446744073709551615 - d) = 0 ↔ c &&& d = c := by
  have e : ∀ i, (18446744073709551615 - d).testBit i = (decide (i < 64) && !d.testBit i) := fun i => by
    have h := Nat.testBit_two_pow_sub_succ (x := d) (n := 64) hd i
    rw [show 18446744073709551615 - d = 2 ^ 64 - (d + 1) by omega]
    exact h
  have hb : ∀ i, 64 ≤ i → c.testBit i = false := fun i hi => Nat.testBit_lt_two_pow (Nat.lt_of_lt_of_le (show c < 2 ^ 64 from hc) (Nat.pow_le_pow_right (Nat.succ_pos 1) hi))
  constructor
  · intro h
    apply Nat.eq_of_testBit_eq
    intro i
    have h2 := congrArg (fun n => Nat.testBit n i) h
    simp only [Nat.testBit_and, e, Nat.zero_testBit] at h2 ⊢
    by_cases hi : i < 64
    · revert h2
      cases c.testBit i <;> cases d.testBit i <;> simp [hi]
    · rw [hb i (by omega)]; rfl
  · intro h
    apply Nat.eq_of_testBit_eq
    intro i
    have h2 := congrArg (fun n => Nat.testBit n i) h
    simp only [Nat.testBit_and, e, Nat.zero_testBit] at h2 ⊢
    revert h2
    cases c.testBit i <;> cases d.testBit i <;> simp
set_option maxHeartbeats 1000000 in
theorem check_any (lv : Int) (cp : Nat) (w : World) :
    Calls Tryd.prog 13 #[.agg #[.int .i64 lv, .int .u64 (cp : Nat)]] w fun e w' => e = .returned (.int .i64 (chk lv)) ∧ Below w.heap.size w w' := by
  have low : Below w.heap.size w (w.alloc (.cells #[.int .i64 lv, .int .u64 (cp : Nat)] 24)) := (Below.refl _ _).alloc (Nat.le_refl _) _
  have Low := Lib.hid low
  clear low
  by_cases h0 : lv < 0
  · have Hc : Hid (chk lv = 2) := by show _ = _; unfold chk; rw [if_neg (by omega)]
    go_enter Tryd.func13, Tryd.ntmps13
    go_wp2
    go_ret
    exact ⟨by rw [Hc.out]; rfl, Low.out⟩
  · by_cases h1 : 15 < lv
    · have Hc : Hid (chk lv = 2) := by show _ = _; unfold chk; rw [if_neg (by omega)]
      go_enter Tryd.func13, Tryd.ntmps13
      go_wp2
      go_ret
      exact ⟨by rw [Hc.out]; rfl, Low.out⟩
    · have Hc : Hid (chk lv = 0) := by show _ = _; unfold chk; rw [if_pos (by omega)]
      go_enter Tryd.func13, Tryd.ntmps13
      go_wp2
      go_ret
      exact ⟨by rw [Hc.out]; rfl, Low.out⟩
set_option maxHeartbeats 1000000 in
theorem below_any (a b : Int) (c d : Nat) (hc : c < 18446744073709551616) (hd : d < 18446744073709551616) (w : World) :
    Calls Tryd.prog 8 #[.agg #[.int .i64 a, .int .u64 (c : Nat)], .agg #[.int .i64 b, .int .u64 (d : Nat)]] w fun e w' => e = .returned (.bool (bel a c b d)) ∧ Below w.heap.size w w' := by
  have low : Below w.heap.size w ((w.alloc (.cells #[.int .i64 a, .int .u64 (c : Nat)] 24)).alloc (.cells #[.int .i64 b, .int .u64 (d : Nat)] 24)) := ((Below.refl _ _).alloc (Nat.le_refl _) _).alloc (by simp) _
  have Low := Lib.hid low
  clear low
  have hx := u64_andNot_nat c d hc hd
  by_cases h0 : a ≤ b
  · by_cases h1 : c &&& d = c
    · have Hc : Hid (bel a c b d = true) := decide_eq_true ⟨h0, h1⟩
      rw [(and_compl hc hd).2 h1] at hx
      clear h1 hc hd
      go_enter Tryd.func8, Tryd.ntmps8
      go_wp2
      go_ret
      exact ⟨by rw [Hc.out]; rfl, Low.out⟩
    · have Hc : Hid (bel a c b d = false) := decide_eq_false (fun h => h1 h.2)
      obtain ⟨y, hy⟩ : ∃ y, y = c &&& (18446744073709551615 - d) := ⟨_, rfl⟩
      have hy0 : ¬ (y : Int) = 0 := fun h => h1 ((and_compl hc hd).1 (by omega))
      rw [← hy] at hx
      clear h1 hc hd hy
      go_enter Tryd.func8, Tryd.ntmps8
      go_wp2
      go_ret
      exact ⟨by rw [Hc.out]; show Ending.returned (Value.bool ((y : Int) == 0)) = _; rw [beq_false_of_ne hy0], Low.out⟩
  · have Hc : Hid (bel a c b d = false) := decide_eq_false (fun h => h0 h.1)
    clear hx hc hd
    go_enter Tryd.func8, Tryd.ntmps8
    go_wp2
    go_ret
    exact ⟨by rw [Hc.out]; rfl, Low.out⟩
set_option maxHeartbeats 1000000 in
theorem join_any (a b : Int) (c d : Nat) (hc : c < 18446744073709551616) (hd : d < 18446744073709551616) (w : World) :
    Calls Tryd.prog 20 #[.agg #[.int .i64 a, .int .u64 (c : Nat)], .agg #[.int .i64 b, .int .u64 (d : Nat)]] w fun e w' => e = .returned (.agg #[.int .i64 (max a b), .int .u64 ((c ||| d : Nat) : Int)]) ∧ Below w.heap.size w w' := by
  have hx := u64_or_nat c d hc hd
  clear hc hd
  go_enter Tryd.func20, Tryd.ntmps20
  go_wp2
  · exact bodyPost_ret (v := .agg #[.int .i64 b, .int .u64 ((c ||| d : Nat) : Int)]) (by simp [results, Tryd.results20, go_sem]) rfl ⟨by rw [Int.max_eq_right (by omega)], (((Below.refl _ _).alloc (Nat.le_refl _) _).alloc (by simp) _).alloc (by simp; omega) _⟩
  · exact bodyPost_ret (v := .agg #[.int .i64 a, .int .u64 ((c ||| d : Nat) : Int)]) (by simp [results, Tryd.results20, go_sem]) rfl ⟨by rw [Int.max_eq_left (by omega)], (((Below.refl _ _).alloc (Nat.le_refl _) _).alloc (by simp) _).alloc (by simp; omega) _⟩
set_option maxHeartbeats 1000000 in
theorem meet_any (a b : Int) (c d : Nat) (hc : c < 18446744073709551616) (hd : d < 18446744073709551616) (w : World) :
    Calls Tryd.prog 9 #[.agg #[.int .i64 a, .int .u64 (c : Nat)], .agg #[.int .i64 b, .int .u64 (d : Nat)]] w fun e w' => e = .returned (.agg #[.int .i64 (min a b), .int .u64 ((c &&& d : Nat) : Int)]) ∧ Below w.heap.size w w' := by
  have hx := u64_and_nat c d hc hd
  clear hc hd
  go_enter Tryd.func9, Tryd.ntmps9
  go_wp2
  · exact bodyPost_ret (v := .agg #[.int .i64 b, .int .u64 ((c &&& d : Nat) : Int)]) (by simp [results, Tryd.results9, go_sem]) rfl ⟨by rw [Int.min_eq_right (by omega)], (((Below.refl _ _).alloc (Nat.le_refl _) _).alloc (by simp) _).alloc (by simp; omega) _⟩
  · exact bodyPost_ret (v := .agg #[.int .i64 a, .int .u64 ((c &&& d : Nat) : Int)]) (by simp [results, Tryd.results9, go_sem]) rfl ⟨by rw [Int.min_eq_left (by omega)], (((Below.refl _ _).alloc (Nat.le_refl _) _).alloc (by simp) _).alloc (by simp; omega) _⟩
theorem of_any (a c : Int) (w : World) :
    Calls Tryd.prog 6 #[.int .i64 a, .int .u64 c] w fun e w' => e = .returned (.agg #[.int .i64 a, .int .u64 c]) ∧ Below w.heap.size w w' := by
  go_enter Tryd.func6, Tryd.ntmps6
  go_wp2
  exact bodyPost_ret (v := .agg #[.int .i64 a, .int .u64 c]) (by simp [results, Tryd.results6, go_sem]) rfl ⟨rfl, (Below.refl _ _).alloc (Nat.le_refl _) _⟩
theorem top_any (w : World) :
    Calls Tryd.prog 11 #[] w fun e w' => e = .returned (.agg #[.int .i64 15, .int .u64 18446744073709551615]) ∧ Below w.heap.size w w' := by
  go_enter Tryd.func11, Tryd.ntmps11
  go_wp2
  exact bodyPost_ret (v := .agg #[.int .i64 15, .int .u64 18446744073709551615]) (by simp [results, Tryd.results11, go_sem]) rfl ⟨rfl, (Below.refl _ _).alloc (Nat.le_refl _) _⟩
end Go.Proofs.YtlojepagolkehaaDoor.Lab
