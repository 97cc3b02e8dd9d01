/- DERIVED. The walk of MyersPlays. -/
import Derived.Test.YtnpbogioehpeoaaMyrRPlay
import Derived.Test.YtnpbogioehpeoaaMyrStepsR
import Derived.Test.YtnpbogioehpeoaaMyrWorks
namespace Go.Proofs.Ytnpbogioehpeoaa.Myr
open Go.RowKit Lns
theorem RdS.take {S : List Sti} {A : Option Addr} {n c : Nat} {w : World} (h : RdS S (.slice A n c) w) (k : Nat) (hk : k ≤ S.length) : RdS (S.take k) (.slice A k c) w := by
  obtain ⟨A', c', e, hc, hr⟩ := h
  cases e
  have hl : (S.take k).length = k := by rw [List.length_take]; omega
  refine ⟨A, c, by rw [hl], by rw [hl]; omega, fun h0 => ?_⟩
  rw [hl] at h0
  obtain ⟨g, off, e, hg, hcell⟩ := hr (by omega)
  refine ⟨g, off, e, hg, fun j hj => ?_⟩
  rw [hl] at hj
  have e2 : sth (S.take k) j = sth S j := by
    simp only [sth, List.getD_eq_getElem?_getD, List.getElem?_take, if_pos hj]
  rw [e2]
  exact hcell j (by omega)
theorem plays_len {a b : List ByteArray} : ∀ (S : List Sti) (i j : Nat) (o r : List ByteArray), plays a b S i j o = some r → r.length ≤ o.length + S.length
  | [], i, j, o, r, h => by
    rw [plays] at h
    split at h
    · cases h
    · cases h; exact Nat.le_refl _
  | s :: S, i, j, o, r, h => by
    rw [plays] at h
    split at h
    · cases h
    · have := plays_len S _ _ _ _ h
      split at this
      · rw [List.length_append] at this; simp only [List.length_cons, List.length_nil] at this ⊢; omega
      · simp only [List.length_cons]; omega
set_option maxRecDepth 100000 in
set_option maxHeartbeats 4000000 in
theorem plays_walk (La Lb : List ByteArray) (S0 : List Sti) (va vb vs : Value) (w : World) (hA : RdT La va w) (hB : RdT Lb vb w) (hS : RdS S0 vs w) : Calls Try.prog 4 #[va, vb, vs] w fun e w' => e = .returned (.bool true) ∧ Below w.heap.size w w' := by
  obtain ⟨A0, c0, rfl, hc0, hk0⟩ := id hS
  have HA := Lib.hid hA
  have HB := Lib.hid hB
  have Hk : ∃ kk, kk = min S0.length 200 := ⟨_, rfl⟩
  obtain ⟨kk, hkk⟩ := Hk
  have hkI : min ((S0.length : Int)) 200 = (kk : Int) := by omega
  have hkl : kk ≤ S0.length := by omega
  have hkc : kk ≤ c0 := by omega
  have hk2 : kk ≤ 200 := by omega
  have HS := Lib.hid (hS.take kk hkl)
  have hsl : (S0.take kk).length = kk := by rw [List.length_take]; omega
  generalize S0.take kk = S at HS hsl
  obtain ⟨n0, hn0⟩ : ∃ n0, n0 = S0.length := ⟨_, rfl⟩
  rw [← hn0] at hkI hkl ⊢
  have hs9 : Hid (S.length ≤ 1000) := by show _ ≤ 1000; omega
  have hs10 : Hid (S.length ≤ 100000) := by show _ ≤ 100000; omega
  clear hA hB hS hk0 hc0 hkk hn0 hsl
  go_enter Try.func4, Try.ntmps4
  go_wp2_with fail
  refine (cut_any La va w HA.out).mono ?_
  rintro e w1 ⟨v1, rfl, o1, b1⟩
  have hB1 := HB.out.later b1
  go_wp2_with fail
  refine (cut_any Lb vb w1 hB1).mono ?_
  rintro e w2 ⟨v2, rfl, o2, b2⟩
  have R1 := Lib.hid (o1.later b2).rd
  have R2 := Lib.hid o2.rd
  have B2 := Lib.hid (b1.trans (b2.mono b1.size))
  have S2 := Lib.hid ((HS.out.later b1).later b2)
  have z1 : Hid (∀ x ∈ cutL La, x.size ≤ 100000) := fun x hx => by have := cutL_size hx; omega
  have z2 : Hid (∀ x ∈ cutL Lb, x.size ≤ 100000) := fun x hx => by have := cutL_size hx; omega
  generalize cutL La = a at o1 R1 z1
  generalize cutL Lb = b at o2 R2 z2
  clear HA HB hB1 o1 o2 b1 b2 HS
  go_wp2_with fail
  refine (play_any a b S v1 v2 _ w2 R1.out R2.out S2.out hs9.out z1.out z2.out).mono ?_
  rintro e w3 ⟨v3, rfl, o3, b3⟩
  have B3 := Lib.hid (B2.out.trans (b3.mono B2.out.size))
  have S3 := Lib.hid (S2.out.later b3)
  have R13 := Lib.hid (R1.out.later b3)
  have R23 := Lib.hid (R2.out.later b3)
  have O3 := Lib.hid o3.rd
  clear o3 b3 R1 R2 B2 S2
  go_wp2_with fail
  refine (steps_any S _ w3 S3.out hs10.out).mono ?_
  rintro e w4 ⟨v4, rfl, o4, b4⟩
  have B4 := Lib.hid (B3.out.trans (b4.mono B3.out.size))
  have S4 := Lib.hid o4.rd
  have R14 := Lib.hid (R13.out.later b4)
  have R24 := Lib.hid (R23.out.later b4)
  have O34 := Lib.hid (O3.out.later b4)
  clear o4 b4 R13 R23 B3 S3 O3
  go_wp2_with fail
  refine (rplay_any a b S v1 v2 v4 w4 R14.out R24.out S4.out hs9.out).mono ?_
  rintro e w5 ⟨v5, rfl, o5, b5⟩
  have B5 := Lib.hid (B4.out.trans (b5.mono B4.out.size))
  have O5 := Lib.hid o5.rd
  have O35 := Lib.hid (O34.out.later b5)
  have hln : Hid (((plays a b S 0 0 []).getD []).length ≤ 1000000) := by
    show _ ≤ 1000000
    cases h : plays a b S 0 0 [] with
    | none => exact Nat.zero_le _
    | some r => have := plays_len S 0 0 [] r h; have := hs9.out; simp only [List.length_nil, Option.getD_some] at *; omega
  generalize (plays a b S 0 0 []).getD [] = M at O35 O5 hln o5
  obtain ⟨cd, hcd⟩ : ∃ cd, cd = codeP (plays a b S 0 0 []) := ⟨_, rfl⟩
  rw [← hcd]
  have hqc : (cd == cd) = true := by simp
  clear hcd o5 b5 B4 O34 R14 R24 S4
  go_wp2_with fail
  refine (same_any M M v3 v5 w5 O35.out O5.out hln.out).mono ?_
  rw [decide_eq_true rfl]
  rintro e w8 ⟨rfl, b8⟩
  have B8 := Lib.hid (B5.out.trans (b8.mono B5.out.size))
  clear b8
  go_wp2_with fail
  refine (works_any w8).mono ?_
  rintro e w9 ⟨rfl, b9⟩
  have B9 := Lib.hid (B8.out.trans (b9.mono B8.out.size))
  clear b9
  go_wp2
  go_ret
  exact ⟨rfl, B9.out⟩
end Go.Proofs.Ytnpbogioehpeoaa.Myr
