/- DERIVED. The reference: Mark, plain, Is, Check of any texts. -/
import Derived.Test.YtpaolndgagedkaaLnsCheck
import Derived.Deep.DeepCutAuto
namespace Go.Proofs.Ytpaolndgagedkaa.Lns
open Go.RowKit
theorem seven {s : ByteArray} (h : s.size = 7) : ∃ a b c d e f g, s.data.toList = [a, b, c, d, e, f, g] := by
  have hl : s.data.toList.length = 7 := by rw [← Lib.size_eq]; exact h
  match hd : s.data.toList, hl with
  | [a, b, c, d, e, f, g], _ => exact ⟨a, b, c, d, e, f, g, rfl⟩
theorem get_list (s : ByteArray) (k : Nat) (h : k < s.size) : s.data.toList[k]? = some s[k] := by
  rw [List.getElem?_eq_getElem (by rw [← Lib.size_eq]; exact h)]; rfl
theorem mk_size {s : ByteArray} (h : mkrB s = true) : s.size = 7 := by
  unfold mkrB mkL at h
  simp only [Bool.or_eq_true, beq_iff_eq] at h
  rw [Lib.size_eq]
  rcases h with h | h | h <;> rw [h] <;> rfl
theorem mk_seven {s : ByteArray} (h : s.size = 7) : mkrB s = true ↔ ((s[0] = 62 ∨ s[0] = 61 ∨ s[0] = 60) ∧ ∀ j (hj : j < 7), s[j] = s[0]) := by
  obtain ⟨a, b, c, d, e, f, g, hd⟩ := seven h
  have k : ∀ j (hj : j < 7), [a, b, c, d, e, f, g][j]? = some s[j] := fun j hj => by rw [← hd]; exact get_list s j (by omega)
  have k0 : a = s[0] := by simpa using k 0 (by omega)
  have k1 : b = s[1] := by simpa using k 1 (by omega)
  have k2 : c = s[2] := by simpa using k 2 (by omega)
  have k3 : d = s[3] := by simpa using k 3 (by omega)
  have k4 : e = s[4] := by simpa using k 4 (by omega)
  have k5 : f = s[5] := by simpa using k 5 (by omega)
  have k6 : g = s[6] := by simpa using k 6 (by omega)
  have hm : mkrB s = true ↔ (a = 62 ∧ b = 62 ∧ c = 62 ∧ d = 62 ∧ e = 62 ∧ f = 62 ∧ g = 62) ∨ (a = 61 ∧ b = 61 ∧ c = 61 ∧ d = 61 ∧ e = 61 ∧ f = 61 ∧ g = 61) ∨ (a = 60 ∧ b = 60 ∧ c = 60 ∧ d = 60 ∧ e = 60 ∧ f = 60 ∧ g = 60) := by
    unfold mkrB mkL
    rw [hd]
    simp [List.replicate]
  rw [hm]
  constructor
  · intro h
    have hall : (a = 62 ∨ a = 61 ∨ a = 60) ∧ b = a ∧ c = a ∧ d = a ∧ e = a ∧ f = a ∧ g = a := by
      rcases h with ⟨rfl, rfl, rfl, rfl, rfl, rfl, rfl⟩ | ⟨rfl, rfl, rfl, rfl, rfl, rfl, rfl⟩ | ⟨rfl, rfl, rfl, rfl, rfl, rfl, rfl⟩ <;> simp
    obtain ⟨ha, h1, h2, h3, h4, h5, h6⟩ := hall
    refine ⟨by rw [← k0]; exact ha, fun j hj => ?_⟩
    have := k j hj
    obtain rfl | rfl | rfl | rfl | rfl | rfl | rfl : j = 0 ∨ j = 1 ∨ j = 2 ∨ j = 3 ∨ j = 4 ∨ j = 5 ∨ j = 6 := by omega
    · rfl
    · rw [← k0, ← k1]; exact h1
    · rw [← k0, ← k2]; exact h2
    · rw [← k0, ← k3]; exact h3
    · rw [← k0, ← k4]; exact h4
    · rw [← k0, ← k5]; exact h5
    · rw [← k0, ← k6]; exact h6
  · rintro ⟨h0, hj⟩
    have j1 : b = a := by rw [k0, k1]; exact hj 1 (by omega)
    have j2 : c = a := by rw [k0, k2]; exact hj 2 (by omega)
    have j3 : d = a := by rw [k0, k3]; exact hj 3 (by omega)
    have j4 : e = a := by rw [k0, k4]; exact hj 4 (by omega)
    have j5 : f = a := by rw [k0, k5]; exact hj 5 (by omega)
    have j6 : g = a := by rw [k0, k6]; exact hj 6 (by omega)
    rw [← k0] at h0
    rcases h0 with h0 | h0 | h0
    · exact .inl ⟨h0, j1.trans h0, j2.trans h0, j3.trans h0, j4.trans h0, j5.trans h0, j6.trans h0⟩
    · exact .inr (.inl ⟨h0, j1.trans h0, j2.trans h0, j3.trans h0, j4.trans h0, j5.trans h0, j6.trans h0⟩)
    · exact .inr (.inr ⟨h0, j1.trans h0, j2.trans h0, j3.trans h0, j4.trans h0, j5.trans h0, j6.trans h0⟩)
theorem u8_eq {a b : UInt8} : ((a.toNat : Int) = (b.toNat : Int)) ↔ a = b := by
  constructor
  · intro h; exact UInt8.toNat_inj.1 (by omega)
  · rintro rfl; rfl
theorem u8_ne {a b : UInt8} (h : a ≠ b) : ¬ (a.toNat : Int) = (b.toNat : Int) := fun e => h (u8_eq.1 e)
set_option maxHeartbeats 2000000 in
theorem rmark_any (s : ByteArray) (w : World) : Calls Try.prog 17 #[.string s] w fun e w' => e = .returned (.bool (mkrB s)) ∧ Below w.heap.size w w' := by
  by_cases h7 : s.size = 7
  · have h0 : 0 < s.size := by omega
    have hM := mk_seven h7
    have h7I : (s.size : Int) = 7 := by omega
    by_cases hf : s[0] = 62 ∨ s[0] = 61 ∨ s[0] = 60
    · have hfI : (((s[0]'h0).toNat : Int) = 62) ∨ (((s[0]'h0).toNat : Int) = 61) ∨ (((s[0]'h0).toNat : Int) = 60) := by
        rcases hf with h | h | h <;> rw [h] <;> simp
      have Hf := Lib.hid hf
      have HM := Lib.hid hM
      clear hf hM
      obtain ⟨c0, hc0⟩ : ∃ c0 : Int, c0 = ((s[0]'h0).toNat : Int) := ⟨_, rfl⟩
      have Hc0 := Lib.hid hc0
      rw [← hc0] at hfI
      rcases hfI with rfl | rfl | rfl
      all_goals
        have e0 : ((s[0]'h0).toNat : Int) = _ := hc0.symm
        clear hc0
        go_enter Try.func17, Try.ntmps17
        go_wp2
        go_loopw [3] (fun i wr => ∃ k : Nat, i = .int .i64 k ∧ 1 ≤ k ∧ k ≤ 7 ∧ Below w.heap.size w wr ∧ Hid (∀ j (hj : j < k) (h9 : j < s.size), s[j] = s[0])) (fun i _ => 7 - (intOf i).toNat)
        case atStart => exact ⟨1, rfl, Nat.le_refl _, by omega, Below.refl _ _, fun j hj _ => by obtain rfl : j = 0 := (by omega); rfl⟩
        case round =>
          obtain ⟨k, rfl, hk1, hk7, hb, HS⟩ := hrel
          by_cases hp : k < 7
          · have hpI : (k : Int) < 7 := by omega
            have hks : k < s.size := by omega
            by_cases he : s[k] = s[0]
            · have hek : ((s[k]'hks).toNat : Int) = _ := (u8_eq.2 he).trans e0
              have HS2 : Hid (∀ j (hj : j < k + 1) (h9 : j < s.size), s[j] = s[0]) := fun j hj h9 => by
                by_cases hjk : j < k
                · exact HS.out j hjk h9
                · obtain rfl : j = k := by omega
                  exact he
              clear he HS
              go_wp2
              go_quiet (fail)
              go_wp2
              go_roundw
              case rel => exact ⟨k + 1, by go_num, by omega, by omega, Below.drewN hb _, HS2⟩
              case measure => simp [intOf]; omega
            · have hek : ¬ ((s[k]'hks).toNat : Int) = _ := fun h => u8_ne he (h.trans e0.symm)
              have HR : Hid (mkrB s = false) := by
                cases hm : mkrB s with
                | false => rfl
                | true => exact absurd ((HM.out.1 hm).2 k hp) he
              clear he HS
              go_wp2
              go_quiet (fail)
              go_wp2
              go_ret
              exact ⟨ret_b HR.out.symm, Below.drewN hb _⟩
          · have hpI : ¬ (k : Int) < 7 := by omega
            have HR : Hid (mkrB s = true) := HM.out.2 ⟨Hf.out, fun j hj => HS.out j (by omega) (by omega)⟩
            clear HS
            go_wp2
            go_ret
            exact ⟨ret_b HR.out.symm, hb⟩
    · have hfI : ¬ (((s[0]'h0).toNat : Int) = 62) ∧ ¬ (((s[0]'h0).toNat : Int) = 61) ∧ ¬ (((s[0]'h0).toNat : Int) = 60) := by
        refine ⟨fun h => hf (.inl ?_), fun h => hf (.inr (.inl ?_)), fun h => hf (.inr (.inr ?_))⟩ <;> exact UInt8.toNat_inj.1 (Int.ofNat.inj h)
      obtain ⟨f1, f2, f3⟩ := hfI
      have b1 : (((s[0]'h0).toNat : Int) != 62) = true := by simpa using f1
      have b2 : (((s[0]'h0).toNat : Int) != 61) = true := by simpa using f2
      have b3 : (((s[0]'h0).toNat : Int) != 60) = true := by simpa using f3
      have HR : Hid (mkrB s = false) := by
        cases hm : mkrB s with
        | false => rfl
        | true => exact absurd (hM.1 hm).1 hf
      clear hM hf
      go_enter Try.func17, Try.ntmps17
      go_wp2
      go_ret
      exact ⟨ret_b HR.out.symm, Below.refl _ _⟩
  · have HR : Hid (mkrB s = false) := by
      cases h : mkrB s with
      | false => rfl
      | true => exact absurd (mk_size h) h7
    have h7I : ¬ (s.size : Int) = 7 := by omega
    go_enter Try.func17, Try.ntmps17
    go_wp2
    go_ret
    exact ⟨ret_b HR.out.symm, Below.refl _ _⟩
theorem plain_parts (s : ByteArray) : plainB s = (allL s.data.toList && decide (s.size ≤ 80)) := by
  unfold plainB plainL
  rw [Bool.and_comm, ← Lib.size_eq]
set_option maxHeartbeats 1000000 in
theorem rplain_any (s : ByteArray) (w : World) (hs : s.size ≤ 1000000) : Calls Try.prog 28 #[.string s] w fun e w' => e = .returned (.bool (plainB s)) ∧ w = w' := by
  have HP := Lib.hid (plain_parts s)
  go_enter Try.func28, Try.ntmps28
  go_wp2
  go_loop [3] (fun i => ∃ (k : Nat), k ≤ s.size ∧ i = .int .i64 k ∧ Hid (allL (s.data.toList.drop k) = allL s.data.toList)) (fun i => s.size - (intOf i).toNat)
  case atStart => exact ⟨0, Nat.zero_le _, rfl, rfl⟩
  case round =>
    obtain ⟨k, hk, rfl, HS⟩ := hrel
    by_cases hp : k < s.size
    · have hpI : (k : Int) < s.size := by omega
      have hlt := (s[k]'hp).toNat_lt
      cases hal : alw ((s[k]'hp).toNat : Int)
      · have hr := HS.out
        rw [all_no hp hal] at hr
        have HR : Hid (plainB s = false) := by rw [Hid, HP.out, ← hr]; rfl
        have ha := (alw_no _).1 hal
        have h9 : ¬ ((s[k]'hp).toNat : Int) = 9 := by omega
        clear hr HS HP hal
        by_cases h32 : ((s[k]'hp).toNat : Int) < 32
        · go_wp2
          go_ret
          exact ⟨ret_b HR.out.symm, rfl⟩
        · have h126 : 126 < ((s[k]'hp).toNat : Int) := by omega
          go_wp2
          go_ret
          exact ⟨ret_b HR.out.symm, rfl⟩
      · have hr := HS.out
        rw [all_yes hp hal] at hr
        have HR := Lib.hid hr
        have ha := (alw_of _).1 hal
        clear hr HS hal
        by_cases h9 : ((s[k]'hp).toNat : Int) = 9
        · go_wp2
          go_round
          case rel => exact ⟨k + 1, by omega, by go_num, HR⟩
          case measure => simp [intOf]; omega
        · have h32 : ¬ ((s[k]'hp).toNat : Int) < 32 := by omega
          have h126 : ¬ 126 < ((s[k]'hp).toNat : Int) := by omega
          go_wp2
          go_round
          case rel => exact ⟨k + 1, by omega, by go_num, HR⟩
          case measure => simp [intOf]; omega
    · have hpI : ¬ (k : Int) < s.size := by omega
      have hr := HS.out
      rw [all_end hp] at hr
      have HR : Hid (plainB s = decide (s.size ≤ 80)) := by rw [Hid, HP.out, ← hr, Bool.true_and]
      clear hr HS HP
      by_cases h80 : s.size ≤ 80
      · have h80I : (s.size : Int) ≤ 80 := by omega
        go_wp2
        go_ret
        exact ⟨ret_b (by rw [HR.out]; simp; omega), rfl⟩
      · have h80I : ¬ (s.size : Int) ≤ 80 := by omega
        go_wp2
        go_ret
        exact ⟨ret_b (by rw [HR.out]; simp; omega), rfl⟩
end Go.Proofs.Ytpaolndgagedkaa.Lns
