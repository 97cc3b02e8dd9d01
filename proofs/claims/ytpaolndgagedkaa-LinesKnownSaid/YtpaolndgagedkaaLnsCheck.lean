/- DERIVED. lines.Check, lines.isEnded, lines.copied of any texts. -/
import Derived.Test.YtpaolndgagedkaaLnsIs
namespace Go.Proofs.Ytpaolndgagedkaa.Lns
open Go.RowKit
theorem adrop_yes {p : ByteArray → Bool} {L : List ByteArray} {k : Nat} (h : k < L.length) (hp : p (nth L k) = true) : (L.drop k).all p = (L.drop (k + 1)).all p := by
  rw [List.drop_eq_getElem_cons h, List.all_cons]
  rw [nth_lt h] at hp
  rw [hp, Bool.true_and]
theorem adrop_no {p : ByteArray → Bool} {L : List ByteArray} {k : Nat} (h : k < L.length) (hp : p (nth L k) = false) : (L.drop k).all p = false := by
  rw [List.drop_eq_getElem_cons h, List.all_cons]
  rw [nth_lt h] at hp
  rw [hp, Bool.false_and]
theorem adrop_end {p : ByteArray → Bool} {L : List ByteArray} {k : Nat} (h : ¬ k < L.length) : (L.drop k).all p = true := by
  rw [List.drop_eq_nil_iff.2 (by omega)]; rfl
theorem chk_yes {L : List ByteArray} (h : ¬ 256 < L.length) (ha : L.all isB = true) : chk L = 0 := by unfold chk; rw [if_neg h, if_pos ha]
theorem chk_no {L : List ByteArray} (h : ¬ 256 < L.length) (ha : L.all isB = false) : chk L = 4 := by unfold chk; rw [if_neg h, if_neg (by rw [ha]; decide)]
theorem chk_many {L : List ByteArray} (h : 256 < L.length) : chk L = 3 := by unfold chk; rw [if_pos h]
set_option maxHeartbeats 1000000 in
theorem check_any (L : List ByteArray) (v : Value) (w : World) (hR : RdT L v w) : Calls Try.prog 18 #[v] w fun e w' => e = .returned (.int .i64 (chk L)) ∧ Below w.heap.size w w' := by
  obtain ⟨A, c, rfl, hc, hk⟩ := hR
  obtain ⟨n, hn⟩ : ∃ n, n = L.length := ⟨_, rfl⟩
  by_cases h : 256 < L.length
  · have HR := Lib.hid (chk_many h)
    rw [← hn] at h ⊢
    have hI : (256 : Int) < n := by omega
    clear hk
    go_enter Try.func18, Try.ntmps18
    go_wp2
    go_ret
    exact ⟨ret_i HR.out.symm, Below.refl _ _⟩
  · have HY := Lib.hid (chk_yes h)
    have HN := Lib.hid (chk_no h)
    rw [← hn] at h ⊢
    have hI : ¬ (256 : Int) < n := by omega
    have Hk := Lib.hid hk
    have Hn := Lib.hid hn
    clear hk hn hc
    go_enter Try.func18, Try.ntmps18
    go_wp2
    go_loopw [10] (fun i wr => ∃ (k : Nat), i = .int .i64 k ∧ k ≤ n ∧ Below w.heap.size w wr ∧ Hid ((L.drop k).all isB = L.all isB)) (fun i _ => n - (intOf i).toNat)
    case atStart => exact ⟨0, rfl, Nat.zero_le _, Below.refl _ _, rfl⟩
    case round =>
      obtain ⟨k, rfl, hk, hb, HS⟩ := hrel
      by_cases hp : k < n
      · have hpI : (k : Int) < n := by omega
        have hpl : k < L.length := by rw [← Hn.out]; exact hp
        obtain ⟨g, off, rfl, hg, hcell⟩ := Hk.out (by omega)
        have hc := (hb.cell (p := ⟨g, off + k, none⟩) hg).trans (hcell k hpl)
        clear hcell
        cases hal : isB (nth L k)
        · have hr := HS.out
          rw [adrop_no hpl hal] at hr
          have HR := Lib.hid (HN.out hr.symm)
          have HL := Lib.hid hal
          clear hr HS HY HN hal
          go_wp2_with (go_at_call 14; refine (is_any _ _).mono ?_; rw [HL.out]; rintro e w1 ⟨rfl, hb1⟩; have Hb1 := Lib.hid hb1; clear hb1)
          go_ret
          exact ⟨ret_i HR.out.symm, hb.trans (Hb1.out.mono hb.size)⟩
        · have hr := HS.out
          rw [adrop_yes hpl hal] at hr
          have HR := Lib.hid hr
          have HL := Lib.hid hal
          clear hr HS hal
          go_wp2_with (go_at_call 14; refine (is_any _ _).mono ?_; rw [HL.out]; rintro e w1 ⟨rfl, hb1⟩; have Hb1 := Lib.hid hb1; clear hb1)
          go_roundw
          case rel => exact ⟨k + 1, by go_num, by omega, hb.trans (Hb1.out.mono hb.size), HR⟩
          case measure => simp [intOf]; omega
      · have hpI : ¬ (k : Int) < n := by omega
        have hr := HS.out
        rw [adrop_end (by rw [← Hn.out]; exact hp)] at hr
        have HR := Lib.hid (HY.out hr.symm)
        clear hr HS HY HN
        go_wp2
        go_ret
        exact ⟨ret_i HR.out.symm, hb⟩
theorem ended_any (s : ByteArray) (w : World) (hs : s.size ≤ 9223372036854775807) : Calls Try.prog 24 #[.string s] w fun e w' => e = .returned (.bool (endB s)) ∧ w = w' := by
  by_cases h1 : s.toList = []
  · have HR := Lib.hid (show endB s = true by rw [Lib.toList_data] at h1; simp [endB, h1])
    go_enter Try.func24, Try.ntmps24
    go_wp2
    go_ret
    exact ⟨ret_b HR.out.symm, rfl⟩
  · have HR := Lib.hid (show endB s = Lib.hasSuffix s.data.toList (⟨#[10]⟩ : ByteArray).data.toList by rw [Lib.toList_data] at h1; unfold endB; rw [beq_eq_false_iff_ne.2 h1]; rfl)
    go_enter Try.func24, Try.ntmps24
    go_wp2_with (go_at_call 32; refine (Try.strings_HasSuffix _ _ _ hs).mono ?_; rintro e w1 ⟨rfl, rfl⟩)
    go_ret
    exact ⟨ret_b (by rw [HR.out]; simp [h1]), rfl⟩
set_option maxHeartbeats 1000000 in
/-- lines.copied writes each text with itself. -/
theorem copied_any (B : Nat) (L : List ByteArray) (v : Value) (w : World) (hR : OwnT B L v w) (hz : ∀ x ∈ L, x.size ≤ 100000) (hn9 : L.length ≤ 100000) : Calls Try.prog 26 #[v] w fun e w' => e = .returned v ∧ Below w.heap.size w w' := by
  have hrow := hR.row
  obtain ⟨A, c, rfl, hc, hk⟩ := hR.rd
  obtain ⟨n, hn⟩ : ∃ n, n = L.length := ⟨_, rfl⟩
  rw [← hn] at hn9 ⊢
  have Hk := Lib.hid hrow
  have Hz := Lib.hid hz
  have Hn := Lib.hid hn
  clear hk hz hn hc hrow hR
  go_enter Try.func26, Try.ntmps26
  go_wp2
  go_loopw [7] (fun i wr => ∃ (k : Nat), i = .int .i64 k ∧ k ≤ n ∧ Below w.heap.size w wr) (fun i _ => n - (intOf i).toNat)
  case atStart => exact ⟨0, rfl, Nat.zero_le _, Below.refl _ _⟩
  case round =>
    obtain ⟨k, rfl, hk, hb⟩ := hrel
    by_cases hp : k < n
    · have hpI : (k : Int) < n := by omega
      have hpl : k < L.length := by rw [← Hn.out]; exact hp
      obtain ⟨g, cap, hv, hcap, _, hg, hcell, hfr⟩ := Hk.out (by omega)
      rw [← Hn.out] at hv
      cases hv
      have hc := (hb.cell (p := ⟨g, k, none⟩) hg).trans (hcell k hpl)
      have Hsz := Lib.hid (Hz.out _ (nth_mem hpl))
      have Hg := Lib.hid hg
      have Hc := Lib.hid hc
      have hfz : ∀ w1, Below wr.heap.size wr w1 → w1.frozen? ⟨g, k, none⟩ = false := fun w1 h1 => by
        have e : w1.heap[g]? = w.heap[g]? := ((h1.block g (Nat.lt_of_lt_of_le hg hb.size)).trans (hb.block g hg))
        have := hfr k
        unfold World.frozen? at this ⊢
        rw [e]; exact this
      have Hfz := Lib.hid hfz
      clear hcell hfz hg
      go_wp2_with (go_at_call 35; refine (clone_any _ _ Hsz.out).mono ?_; rintro e w1 ⟨rfl, hb1⟩; have hf1 := Hfz.out _ hb1; have hc1 := (hb1.cell (p := ⟨g, k, none⟩) (Nat.lt_of_lt_of_le Hg.out hb.size)).trans Hc.out; have Hb1 := Lib.hid hb1; have he1 := setCell_held hc1; clear hb1 hc)
      go_roundw
      case rel => exact ⟨k + 1, by go_num, by omega, hb.trans (Hb1.out.mono hb.size)⟩
      case measure => simp [intOf]; omega
    · have hpI : ¬ (k : Int) < n := by omega
      go_wp2
      go_ret
      exact ⟨rfl, hb⟩
end Go.Proofs.Ytpaolndgagedkaa.Lns
