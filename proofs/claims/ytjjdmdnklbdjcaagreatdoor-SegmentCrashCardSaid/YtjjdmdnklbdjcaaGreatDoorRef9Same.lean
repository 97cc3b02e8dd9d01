/- DERIVED. Layer 9's reference: Same. -/
import Derived.Test.YtjjdmdnklbdjcaaGreatDoorSltSame
import Derived.BigQuiet
namespace Go.Proofs.YtjjdmdnklbdjcaaGreatDoor.Slt
open Go.RowKit Dsk
set_option maxHeartbeats 1000000 in
theorem rsame_any {w : World} (A A2 : Option Addr) (n m c c2 : Nat) (L M : List (List Int)) (hn : L.length = n) (hm : M.length = m) (h1 : TxAt w A L) (h2 : TxAt w A2 M) (hn1 : n ≤ 9223372036854775807) (hm1 : m ≤ 9223372036854775807) :
    Calls Tryz.prog 60 #[.slice A n c, .slice A2 m c2] w fun e w' => e = .returned (.bool (decide (L = M))) ∧ Below w.heap.size w w' := by
  have H1 := Lib.hid h1
  have H2 := Lib.hid h2
  have Hn := Lib.hid hn
  have Hm := Lib.hid hm
  by_cases hnm : n = m
  · subst hnm
    clear h1 h2 hn hm hm1
    go_enter Tryz.func60, Tryz.ntmps60
    go_wp2
    go_loopw [5] (fun v wr => ∃ i : Nat, i ≤ n ∧ v = .int .i64 i ∧ Hid (∀ j, j < i → L.getD j [] = M.getD j []) ∧ Hid (Below w.heap.size w wr)) (fun v _ => n - (intOf v).toNat)
    case atStart => exact ⟨0, Nat.zero_le _, rfl, fun j hj => absurd hj (Nat.not_lt_zero _), Below.refl _ _⟩
    case round =>
      obtain ⟨i, hi, rfl, hj, hr⟩ := hrel
      by_cases hlt : i < n
      · have hltI : (i : Int) < (n : Int) := by omega
        obtain ⟨g, off, B, cb, rfl, hg, hc, hB, hi1⟩ := H1.out.at_ i (by rw [Hn.out]; exact hlt)
        obtain ⟨g2, off2, B2, cb2, rfl, hg2, hc2, hB2, hi2⟩ := H2.out.at_ i (by rw [Hm.out]; exact hlt)
        have hcr := (hr.out.cell (p := ⟨g, off + i, none⟩) hg).trans hc
        have hcr2 := (hr.out.cell (p := ⟨g2, off2 + i, none⟩) hg2).trans hc2
        have k1 := fun a => Str.conv_any (w := wr.drewN a) ((hB.below hr.out (Nat.le_refl _)).below (Below.drewN (Below.refl _ _) a) (Nat.le_refl _)) rfl
        have k2 := fun a => Str.conv_any (w := wr.drewN a) ((hB2.below hr.out (Nat.le_refl _)).below (Below.drewN (Below.refl _ _) a) (Nat.le_refl _)) rfl
        have Hne := Lib.hid (texts_ne hi1 hi2)
        obtain ⟨T1, hT1⟩ : ∃ T, T = strOfNums (L.getD i []) := ⟨_, rfl⟩
        obtain ⟨T2, hT2⟩ : ∃ T, T = strOfNums (M.getD i []) := ⟨_, rfl⟩
        obtain ⟨l1, hl1⟩ : ∃ l, l = (L.getD i []).length := ⟨_, rfl⟩
        obtain ⟨l2, hl2⟩ : ∃ l, l = (M.getD i []).length := ⟨_, rfl⟩
        rw [← hT1, ← hl1] at k1
        rw [← hT2, ← hl2] at k2
        rw [← hl1] at hcr
        rw [← hl2] at hcr2
        rw [← hT1, ← hT2] at Hne
        have HT1 := Lib.hid hT1
        have HT2 := Lib.hid hT2
        clear hc hc2 hB hB2 hi1 hi2 hT1 hT2 hl1 hl2
        by_cases he : L.getD i [] = M.getD i []
        · have hT : T1 = T2 := by rw [HT1.out, HT2.out, he]
          subst hT
          go_upto_region 6 with (fail)
          go_quiet (fail)
          go_wp2
          refine ⟨⟨i + 1, by omega, by go_num, ?_, ?_⟩, by simp [intOf]; omega⟩
          · intro j hj1
            by_cases hji : j = i
            · subst hji; exact he
            · exact hj.out j (by omega)
          · exact Below.drewN hr.out _
        · have hT := Hne.out he
          go_upto_region 6 with (fail)
          go_quiet (fail)
          go_wp2
          go_ret
          refine ⟨by rw [decide_eq_false (lists_ne he)]; rfl, Below.drewN hr.out _⟩
      · have hltI : ¬ (i : Int) < (n : Int) := by omega
        obtain rfl : i = n := by omega
        go_wp2
        go_ret
        refine ⟨by rw [decide_eq_true (lists_eq (by rw [Hn.out, Hm.out]) (fun j hj' => hj.out j (by rw [← Hn.out]; exact hj')))]; rfl, hr.out⟩
  · have hnI : ¬ (n : Int) = (m : Int) := by omega
    clear h1 h2 hn hm
    go_enter Tryz.func60, Tryz.ntmps60
    go_wp2
    go_ret
    refine ⟨?_, Below.refl _ _⟩
    have e : decide (L = M) = false := decide_eq_false (fun e => hnm (by rw [← Hn.out, ← Hm.out, e]))
    rw [e]
    rfl
end Go.Proofs.YtjjdmdnklbdjcaaGreatDoor.Slt
