/- DERIVED. The contracts of the reference's parts of layer 5 and of label.Order. -/
import Derived.Test.YtmgjhinbkhebjaaDoorLabBox
import Derived.Deep.DeepCutAuto
import Derived.Laws.Rows
namespace Go.Proofs.YtmgjhinbkhebjaaDoor.Lab
open Go.RowKit Str
/-- the same for the load whose slot is d. -/
theorem want_dst {ops : Array Oper} {rest : List Oper} {o : Oper} {a : Act} {w : World} {Q : Exit → Act → World → Prop} (d : Nat) (_hd : o.dst = some d) (x : Operand) (ho : o.op = .load 24 x)
    (g : Nat) (hx : a.eval x = .pointer (some ⟨g, 0, none⟩)) (lv : Int) (cp : Nat) (hg : w.heap[g]? = some (.cells (lab lv cp) 24 (0, 0)))
    (hw : Region.wanted o (yielded ops a.tmps) = true) (h : wpList Tryd.prog ops Q rest (a.put o.dst (.agg (lab lv cp))) w) : wpList Tryd.prog ops Q (o :: rest) a w :=
  want_lab x ho g hx lv cp hg hw h
theorem has_bit (c i : Nat) : (((c : Int) / 2 ^ i).tmod 2 == 1) = c.testBit i := by
  rw [Nat.testBit_eq_decide_div_mod_eq]
  have e : ((c : Int) / 2 ^ i).tmod 2 = ((c / 2 ^ i % 2 : Nat) : Int) := by
    rw [show ((c : Int) / 2 ^ i) = ((c / 2 ^ i : Nat) : Int) by simp, Int.tmod_eq_emod_of_nonneg (Int.natCast_nonneg _)]
    omega
  rw [e, Bool.eq_iff_iff, beq_iff_eq, decide_eq_true_iff]
  omega
set_option maxHeartbeats 1000000 in
theorem has_any (lv : Int) (c i : Nat) (hi : i < 64) (w : World) :
    Calls Tryd.prog 26 #[.agg (lab lv c), .int .i64 (i : Nat)] w fun e w' => e = .returned (.bool (c.testBit i)) ∧ Below w.heap.size w w' := by
  have hb := Lib.hid (has_bit c i)
  go_enter Tryd.func26, Tryd.ntmps26
  go_wp2
  go_ret
  exact ⟨by rw [← hb.out]; rfl, (Below.refl _ _).alloc (Nat.le_refl _) _⟩
theorem sub_bits {c d : Nat} (hc : OkC c) : (∀ j, j < 64 → c.testBit j = true → d.testBit j = true) ↔ c &&& d = c := by
  have hb : ∀ i, 64 ≤ i → c.testBit i = false := fun i hi => Nat.testBit_lt_two_pow (Nat.lt_of_lt_of_le (show c < 2 ^ 64 from hc) (Nat.pow_le_pow_right (Nat.succ_pos 1) hi))
  constructor
  · intro h
    apply Nat.eq_of_testBit_eq
    intro i
    rw [Nat.testBit_and]
    by_cases hi : i < 64
    · cases e : c.testBit i with
      | true => rw [h i hi e]; rfl
      | false => rfl
    · rw [hb i (by omega)]; rfl
  · intro h j _ hj
    have k := congrArg (fun n => Nat.testBit n j) h
    simp only [Nat.testBit_and, hj, Bool.true_and] at k
    exact k
set_option maxHeartbeats 2000000 in
theorem refMay_any (lv : Int) (c : Nat) (w : World) :
    Calls Tryd.prog 8 #[.agg (lab lv c)] w fun e w' => e = .returned (.bool (chk lv == 0)) ∧ Below w.heap.size w w' := by
  have low : Below w.heap.size w (w.alloc (.cells (lab lv c) 24)) := (Below.refl _ _).alloc (Nat.le_refl _) _
  have Low := Lib.hid low
  clear low
  by_cases h0 : 0 ≤ lv
  · by_cases h1 : lv ≤ 15
    · have Hc : Hid ((chk lv == 0) = true) := by show _ = _; unfold chk; rw [if_pos ⟨h0, h1⟩]; rfl
      go_enter Tryd.func8, Tryd.ntmps8
      go_wp2
      go_ret
      exact ⟨by rw [Hc.out]; rfl, Low.out⟩
    · have Hc : Hid ((chk lv == 0) = false) := by show _ = _; unfold chk; rw [if_neg (by omega)]; rfl
      go_enter Tryd.func8, Tryd.ntmps8
      go_wp2
      go_ret
      exact ⟨by rw [Hc.out]; rfl, Low.out⟩
  · have Hc : Hid ((chk lv == 0) = false) := by show _ = _; unfold chk; rw [if_neg (by omega)]; rfl
    go_enter Tryd.func8, Tryd.ntmps8
    go_wp2
    go_ret
    exact ⟨by rw [Hc.out]; rfl, Low.out⟩
/-- the reference's loop in Below. -/
structure RB (w w2 : World) (c d k : Nat) (wr : World) : Prop where
  all : ∀ j, j < k → c.testBit j = true → d.testBit j = true
  low : Below w2.heap.size w2 wr
set_option maxHeartbeats 4000000 in
theorem refBelow_any (a b : Int) (c d : Nat) (hc : OkC c) (w : World) :
    Calls Tryd.prog 10 #[.agg (lab a c), .agg (lab b d)] w fun e w' => e = .returned (.bool (bel a c b d)) ∧ Below w.heap.size w w' := by
  have h2 := two_new w (.cells (lab a c) 24) (.cells (lab b d) 24)
  have low : Below w.heap.size w ((w.alloc (.cells (lab a c) 24)).alloc (.cells (lab b d) 24)) := ((Below.refl _ _).alloc (Nat.le_refl _) _).alloc (by simp) _
  obtain ⟨w2, hw2⟩ : ∃ w2, w2 = (w.alloc (.cells (lab a c) 24)).alloc (.cells (lab b d) 24) := ⟨_, rfl⟩
  rw [← hw2] at h2 low
  have Low := Lib.hid low
  have HA := Lib.hid h2.1
  have HB := Lib.hid h2.2
  have Hw := Lib.hid hw2
  have a0 : w2.cell? ⟨w.heap.size, 0, none⟩ = some (.int .i64 a) := cell_row h2.1 0
  have b0 : w2.cell? ⟨w.heap.size + 1, 0, none⟩ = some (.int .i64 b) := cell_row h2.2 0
  clear low h2 hw2
  by_cases hab : b < a
  · have Hc : Hid (bel a c b d = false) := decide_eq_false (fun h => by omega)
    go_enter Tryd.func10, Tryd.ntmps10
    go_upto_region 1 with (fail)
    rw [← Hw.out]
    go_wp2
    go_ret
    exact ⟨by rw [Hc.out]; rfl, Low.out⟩
  · have Hab : Hid (a ≤ b) := by show a ≤ b; omega
    go_enter Tryd.func10, Tryd.ntmps10
    go_upto_region 1 with (fail)
    rw [← Hw.out]
    clear Hw
    obtain ⟨g2, hg2⟩ : ∃ g2, g2 = w.heap.size + 1 := ⟨_, rfl⟩
    rw [← hg2] at HB b0 ⊢
    obtain ⟨g, hg⟩ : ∃ g, g = w.heap.size := ⟨_, rfl⟩
    rw [← hg] at HA a0 ⊢
    clear hg hg2
    have HR : Hid (RB w w2 c d 0 w2) := ⟨fun j hj => absurd hj (Nat.not_lt_zero _), Below.refl _ _⟩
    go_wp2
    go_loopw [5] (fun i wr => ∃ k : Nat, k ≤ 64 ∧ i = .int .i64 (k : Nat) ∧ Hid (RB w w2 c d k wr)) (fun i _ => 64 - (intOf i).toNat)
    case atStart => exact ⟨0, by omega, rfl, HR⟩
    case round =>
      obtain ⟨k, hk, rfl, hI⟩ := hrel
      clear HR a0 b0
      by_cases hlt : k < 64
      · have hlt' : (k : Int) < 64 := by omega
        have HF := Lib.hid (And.intro (kept hI.out.low HA.out) (And.intro (kept hI.out.low HB.out) hI.out.low))
        cases hck : c.testBit k with
        | false =>
          go_wp2_with (first
            | (go_at_call 26; refine (has_any _ _ _ hlt _).mono ?_; rintro e w3 ⟨rfl, low⟩; replace HF := Lib.hid (And.intro (kept low HF.out.1) (And.intro (kept low HF.out.2.1) (HF.out.2.2.trans (low.mono HF.out.2.2.size)))); clear low)
            | (refine want_lab (.tmp 2) rfl g rfl _ _ HF.out.1 rfl ?_)
            | (refine want_lab (.tmp 3) rfl g2 rfl _ _ HF.out.2.1 rfl ?_))
          go_roundw
          case rel => exact ⟨k + 1, by omega, by go_num, fun j hj hcj => by
            by_cases e : j = k
            · subst e; rw [hck] at hcj; cases hcj
            · exact hI.out.all j (by omega) hcj, HF.out.2.2⟩
          case measure => simp [intOf]; omega
        | true =>
          cases hdk : d.testBit k with
          | true =>
            go_wp2_with (first
              | (go_at_call 26; refine (has_any _ _ _ hlt _).mono ?_; rintro e w3 ⟨rfl, low⟩; replace HF := Lib.hid (And.intro (kept low HF.out.1) (And.intro (kept low HF.out.2.1) (HF.out.2.2.trans (low.mono HF.out.2.2.size)))); clear low)
              | (refine want_lab (.tmp 2) rfl g rfl _ _ HF.out.1 rfl ?_)
              | (refine want_lab (.tmp 3) rfl g2 rfl _ _ HF.out.2.1 rfl ?_))
            go_roundw
            case rel => exact ⟨k + 1, by omega, by go_num, fun j hj hcj => by
              by_cases e : j = k
              · subst e; exact hdk
              · exact hI.out.all j (by omega) hcj, HF.out.2.2⟩
            case measure => simp [intOf]; omega
          | false =>
            have Hc : Hid (bel a c b d = false) := decide_eq_false (fun h => by
              have := (sub_bits hc).2 h.2 k hlt hck
              rw [hdk] at this
              cases this)
            go_wp2_with (first
              | (go_at_call 26; refine (has_any _ _ _ hlt _).mono ?_; rintro e w3 ⟨rfl, low⟩; replace HF := Lib.hid (And.intro (kept low HF.out.1) (And.intro (kept low HF.out.2.1) (HF.out.2.2.trans (low.mono HF.out.2.2.size)))); clear low)
              | (refine want_lab (.tmp 2) rfl g rfl _ _ HF.out.1 rfl ?_)
              | (refine want_lab (.tmp 3) rfl g2 rfl _ _ HF.out.2.1 rfl ?_))
            go_ret
            exact ⟨by rw [Hc.out]; rfl, Low.out.trans (HF.out.2.2.mono Low.out.size)⟩
      · have hlt' : ¬ (k : Int) < 64 := by omega
        have Hc : Hid (bel a c b d = true) := decide_eq_true ⟨Hab.out, (sub_bits hc).1 fun j hj => hI.out.all j (by omega)⟩
        go_wp2
        go_ret
        exact ⟨by rw [Hc.out]; rfl, Low.out.trans (hI.out.low.mono Low.out.size)⟩
end Go.Proofs.YtmgjhinbkhebjaaDoor.Lab
