/- DERIVED. The walk of MyersSteps. -/
import Derived.Test.YtnpbogioehpeoaaMyrStepsR
import Derived.Test.YtnpbogioehpeoaaMyrWorks
namespace Go.Proofs.Ytnpbogioehpeoaa.Myr
open Go.RowKit Lns
set_option maxRecDepth 100000 in
set_option maxHeartbeats 4000000 in
theorem steps_walk (La Lb : List ByteArray) (va vb : Value) (w : World) (hA : RdT La va w) (hB : RdT Lb vb w) : Calls Try.prog 3 #[va, vb] w fun e w' => e = .returned (.bool true) ∧ Below w.heap.size w w' := by
  have HA := Lib.hid hA
  have HB := Lib.hid hB
  clear hA hB
  go_enter Try.func3, Try.ntmps3
  go_wp2_with fail
  refine (cut_any La va w HA.out).mono ?_
  rintro e w1 ⟨v1, rfl, o1, b1⟩
  have hB1 := HB.out.later b1
  go_wp2_with fail
  refine (cut_any Lb vb w1 hB1).mono ?_
  rintro e w2 ⟨v2, rfl, o2, b2⟩
  have R1 := Lib.hid (o1.later b2).rd
  have R2 := Lib.hid o2.rd
  have B2 := Lib.hid (b1.trans (b2.mono b1.size))
  have l1 := cutL_len La
  have l2 := cutL_len Lb
  have z1 : Hid (∀ x ∈ cutL La, x.size ≤ 100000) := fun x hx => by have := cutL_size hx; omega
  have z2 : Hid (∀ x ∈ cutL Lb, x.size ≤ 100000) := fun x hx => by have := cutL_size hx; omega
  generalize cutL La = a at o1 R1 l1 z1
  generalize cutL Lb = b at o2 R2 l2 z2
  clear HA HB hB1 o1 o2 b1 b2
  go_wp2_with fail
  refine (diff_any a b v1 v2 w2 R1.out R2.out (by omega) (by omega) z1.out z2.out).mono ?_
  rintro e w3 ⟨v3, rfl, o3, b3⟩
  have B3 := Lib.hid (B2.out.trans (b3.mono B2.out.size))
  have S3 := Lib.hid o3.rd
  have R13 := Lib.hid (R1.out.later b3)
  have R23 := Lib.hid (R2.out.later b3)
  clear o3 b3 R1 R2 B2
  go_wp2_with fail
  refine (rdiff_any a b v1 v2 w3 R13.out R23.out (by omega) (by omega)).mono ?_
  rintro e w4 ⟨v4, rfl, o4, b4⟩
  have B4 := Lib.hid (B3.out.trans (b4.mono B3.out.size))
  have S4 := Lib.hid o4.rd
  have S34 := Lib.hid (S3.out.later b4)
  have hsl : ((sel a b).map up).length ≤ 120 := by have h := sel_len a b; rw [List.length_map]; omega
  generalize (sel a b).map up = S at S34 S4 hsl S3 o4
  have hs9 : Hid (S.length ≤ 100000) := by show _ ≤ 100000; omega
  clear o4 b4 R13 R23 B3 S3 z1 z2
  go_wp2_with fail
  refine (steps_any S v3 w4 S34.out hs9.out).mono ?_
  rintro e w5 ⟨v5, rfl, o5, b5⟩
  have B5 := Lib.hid (B4.out.trans (b5.mono B4.out.size))
  have S5 := Lib.hid o5.rd
  have S45 := Lib.hid (S4.out.later b5)
  clear o5 b5 B4 S4 S34
  obtain ⟨A4, c4, rfl, hc4, hk4⟩ := S45.out
  obtain ⟨A5, c5, rfl, hc5, hk5⟩ := S5.out
  obtain ⟨N, hN⟩ : ∃ N, N = S.length := ⟨_, rfl⟩
  have HN := Lib.hid hN
  rw [← hN] at hsl ⊢
  have HK4 := Lib.hid hk4
  have HK5 := Lib.hid hk5
  clear hc4 hc5 hk4 hk5 hN S45 S5
  go_wp2
  go_loopw [10] (fun i wr => ∃ k : Nat, i = .int .i64 k ∧ k ≤ N ∧ Hid (Below w5.heap.size w5 wr)) (fun i _ => N - (intOf i).toNat)
  case atStart => exact ⟨0, rfl, Nat.zero_le _, Below.refl _ _⟩
  case round =>
    obtain ⟨k, rfl, hk, HL⟩ := hrel
    by_cases hp : k < N
    · have hpI : (k : Int) < N := by omega
      obtain ⟨g4, off4, rfl, hg4, hc4⟩ := HK4.out (by rw [← HN.out]; omega)
      obtain ⟨g5, off5, rfl, hg5, hc5⟩ := HK5.out (by rw [← HN.out]; omega)
      obtain ⟨d0, d1, d2⟩ := hc4 k (by rw [← HN.out]; exact hp)
      obtain ⟨f0, f1, f2⟩ := hc5 k (by rw [← HN.out]; exact hp)
      have d0 := (HL.out.cell (p := ⟨g4, off4 + k * 3, none⟩) hg4).trans d0
      have d1 := (HL.out.cell (p := ⟨g4, off4 + k * 3 + 1, none⟩) hg4).trans d1
      have d2 := (HL.out.cell (p := ⟨g4, off4 + k * 3 + 2, none⟩) hg4).trans d2
      have f0 := (HL.out.cell (p := ⟨g5, off5 + k * 3, none⟩) hg5).trans f0
      have f1 := (HL.out.cell (p := ⟨g5, off5 + k * 3 + 1, none⟩) hg5).trans f1
      have f2 := (HL.out.cell (p := ⟨g5, off5 + k * 3 + 2, none⟩) hg5).trans f2
      obtain ⟨⟨t0, t1, t2⟩, ht⟩ : ∃ t, t = sth S k := ⟨_, rfl⟩
      rw [← ht] at d0 d1 d2 f0 f1 f2
      dsimp only at d0 d1 d2 f0 f1 f2
      have q0 : (t0 == t0) = true := by simp
      have q1 : (t1 == t1) = true := by simp
      have q2 : (t2 == t2) = true := by simp
      clear hc4 hc5 ht
      go_wp2
      go_quiet (fail)
      have HL2 := Lib.hid (Below.drewN HL.out nq)
      generalize wr.drewN nq = w6 at HL2 ⊢
      clear d0 d1 d2 f0 f1 f2 HL
      go_wp2
      go_roundw
      case rel => exact ⟨k + 1, by go_num, by omega, HL2⟩
      case measure => simp [intOf]; omega
    · have hpI : ¬ (k : Int) < N := by omega
      have B6 := Lib.hid (B5.out.trans (HL.out.mono B5.out.size))
      clear HL
      go_wp2_with fail
      refine (works_any wr).mono ?_
      rintro e w9 ⟨rfl, b9⟩
      have B9 := Lib.hid (B6.out.trans (b9.mono B6.out.size))
      clear b9
      go_wp2
      go_ret
      exact ⟨rfl, B9.out⟩
end Go.Proofs.Ytnpbogioehpeoaa.Myr
