/- DERIVED. The walk of LinesSplit. -/
import Derived.Test.YtpaolndgagedkaaLnsWorks
namespace Go.Proofs.Ytpaolndgagedkaa.Lns
open Go.RowKit
theorem spl_len {s : ByteArray} (h : s.size ≤ 20000) : (spl s).1.length ≤ 1000000 := by
  unfold spl
  have := prtB_le s
  split
  · split
    · show (prtB s).length ≤ _; omega
    · exact Nat.zero_le _
  · exact Nat.zero_le _
theorem tld_len {s : ByteArray} (h : s.size ≤ 20000) : (tld s).1.length ≤ 1000000 := by
  unfold tld
  have := prtB_le s
  split
  · split
    · show (prtB s).length ≤ _; omega
    · exact Nat.zero_le _
  · exact Nat.zero_le _
set_option maxHeartbeats 4000000 in
theorem split_walk (s : ByteArray) (w : World) (hL : Laid w) : Calls Try.prog 3 #[.string s] w fun e w' => e = .returned (.bool true) ∧ Below w.heap.size w w' := by
  by_cases h : s.size ≤ 20000
  · have hI : ¬ (20000 : Int) < s.size := by omega
    have HL := Lib.hid hL
    have HA := Lib.hid (spl_len h)
    have HB := Lib.hid (tld_len h)
    obtain ⟨p, hp⟩ : ∃ p, p = spl s := ⟨_, rfl⟩
    obtain ⟨q, hq⟩ : ∃ q, q = tld s := ⟨_, rfl⟩
    have Hp := Lib.hid hp
    have Hq := Lib.hid hq
    obtain ⟨P, e⟩ := p
    obtain ⟨Q, f⟩ := q
    clear hL hp hq
    go_enter Try.func3, Try.ntmps3
    go_wp2_with fail
    refine (split_any s w HL.out (by omega)).mono ?_
    rw [← Hp.out]
    rintro e1 w1 ⟨v1, rfl, ho1, hb1⟩
    have a1 := (From.refl HL.out).next hb1
    go_wp2_with fail
    refine (rsplit_any s w1 (by omega)).mono ?_
    rw [← Hp.out]
    rintro e2 w2 ⟨v2, rfl, ho2, hb2⟩
    have a2 := a1.next hb2
    go_wp2_with fail
    refine (told_any s w2 a2.2 (by omega)).mono ?_
    rw [← Hq.out]
    rintro e3 w3 ⟨v3, rfl, ho3, hb3⟩
    have a3 := a2.next hb3
    go_wp2_with fail
    refine (rtold_any s w3 (by omega)).mono ?_
    rw [← Hq.out]
    rintro e4 w4 ⟨v4, rfl, ho4, hb4⟩
    have a4 := a3.next hb4
    have r1 := (((ho1.rd.later hb2).later hb3).later hb4)
    have r2 := ((ho2.rd.later hb3).later hb4)
    have r3 := ho3.rd.later hb4
    have r4 := ho4.rd
    have R1 := Lib.hid r1
    have R2 := Lib.hid r2
    have R3 := Lib.hid r3
    have R4 := Lib.hid r4
    have A4 := Lib.hid a4
    clear ho1 ho2 ho3 ho4 hb1 hb2 hb3 hb4 a1 a2 a3 a4 r1 r2 r3 r4
    go_wp2_with fail
    refine (rsame_any P P v1 v2 w4 R1.out R2.out (by have := HA.out; rw [← Hp.out] at this; exact this)).mono ?_
    rw [decide_eq_true rfl]
    rintro e5 w5 ⟨rfl, hb5⟩
    have A5 := Lib.hid (A4.out.next hb5)
    have R3' := Lib.hid (R3.out.later hb5)
    have R4' := Lib.hid (R4.out.later hb5)
    clear hb5
    go_wp2_with fail
    refine (rsame_any Q Q v3 v4 w5 R3'.out R4'.out (by have := HB.out; rw [← Hq.out] at this; exact this)).mono ?_
    rw [decide_eq_true rfl]
    rintro e6 w6 ⟨rfl, hb6⟩
    have A6 := Lib.hid (A5.out.next hb6)
    clear hb6
    go_wp2_with fail
    refine (awake_any w6 A6.out.2).mono ?_
    rintro e7 w7 ⟨rfl, hb7⟩
    have A7 := Lib.hid (A6.out.next hb7)
    clear hb7
    go_wp2
    go_ret
    exact ⟨rfl, A7.out.1⟩
  · have hI : (20000 : Int) < s.size := by omega
    have HL := Lib.hid hL
    clear hL
    go_enter Try.func3, Try.ntmps3
    go_wp2_with (go_at_call 7; refine (awake_any _ HL.out).mono ?_; rintro e w1 ⟨rfl, hb1⟩; have Hb1 := Lib.hid hb1; clear hb1)
    go_ret
    exact ⟨rfl, Hb1.out⟩
end Go.Proofs.Ytpaolndgagedkaa.Lns
