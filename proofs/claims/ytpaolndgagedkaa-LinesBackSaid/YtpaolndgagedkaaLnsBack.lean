/- DERIVED. The walk of LinesBack. Written by mkback.py. -/
import Derived.Test.YtpaolndgagedkaaLnsWorks
import Derived.Test.YtpaolndgagedkaaLnsOpen
namespace Go.Proofs.Ytpaolndgagedkaa.Lns
open Go.RowKit
theorem all_mono {L : List ByteArray} (h : L.all isB = true) : L.all plainB = true := List.all_eq_true.2 fun x hx => is_plain (List.all_eq_true.1 h x hx)
theorem spl_ok {s : ByteArray} (h : (spl s).2 = 0) : spl s = (prtB s, 0) ∧ joinB (prtB s) = s ∧ tld s = (prtB s, 0) := by
  unfold spl at h ⊢
  unfold tld
  by_cases he : endB s = true
  · rw [if_pos he] at h ⊢
    by_cases hc : chk (prtB s) = 0
    · rw [if_pos hc]
      exact ⟨rfl, joinB_prt he, by rw [if_pos he, if_pos (all_mono (chk_zero hc).2)]⟩
    · rw [if_neg hc] at h
      exact absurd h hc
  · rw [if_neg he] at h
    cases h
theorem spl_no {s : ByteArray} (h : ¬ (spl s).2 = 0) : ∃ e, ¬ e = 0 ∧ spl s = ([], e) := by
  unfold spl at h ⊢
  by_cases he : endB s = true
  · rw [if_pos he] at h ⊢
    by_cases hc : chk (prtB s) = 0
    · rw [if_pos hc] at h
      exact absurd rfl h
    · rw [if_neg hc]
      exact ⟨_, hc, rfl⟩
  · rw [if_neg he]
    exact ⟨4, by decide, rfl⟩
theorem tld_ok {s : ByteArray} (h : (tld s).2 = 0) : tld s = (prtB s, 0) ∧ joinB (prtB s) = s := by
  unfold tld at h ⊢
  by_cases he : endB s = true
  · rw [if_pos he] at h ⊢
    by_cases hc : (prtB s).all plainB = true
    · rw [if_pos hc]
      exact ⟨rfl, joinB_prt he⟩
    · rw [if_neg hc] at h
      cases h
  · rw [if_neg he] at h
    cases h
theorem tld_no {s : ByteArray} (h : ¬ (tld s).2 = 0) : tld s = ([], 4) := by
  unfold tld at h ⊢
  by_cases he : endB s = true
  · rw [if_pos he] at h ⊢
    by_cases hc : (prtB s).all plainB = true
    · rw [if_pos hc] at h
      exact absurd rfl h
    · rw [if_neg hc]
  · rw [if_neg he]
theorem spl_join {L : List ByteArray} (h : chk L = 0) : spl (joinB L) = (L, 0) := by
  obtain ⟨_, ha⟩ := chk_zero h
  unfold spl
  rw [if_pos (joinB_end L), prtB_join ha, if_pos h]
/-- how many newlines are among the first k bytes. -/
def cnt (s : ByteArray) (k : Nat) : Nat := (s.data.toList.take k).count 10
theorem cnt_yes {s : ByteArray} {k : Nat} (h : k < s.size) (hc : s[k] = 10) : cnt s (k + 1) = cnt s k + 1 := by
  unfold cnt
  rw [List.take_succ_eq_append_getElem (by rw [← Lib.size_eq]; exact h), List.count_append]
  have : s.data.toList[k]'(by rw [← Lib.size_eq]; exact h) = 10 := hc
  rw [this]; rfl
theorem cnt_no {s : ByteArray} {k : Nat} (h : k < s.size) (hc : ¬ s[k] = 10) : cnt s (k + 1) = cnt s k := by
  unfold cnt
  rw [List.take_succ_eq_append_getElem (by rw [← Lib.size_eq]; exact h), List.count_append]
  have : ¬ s.data.toList[k]'(by rw [← Lib.size_eq]; exact h) = 10 := hc
  rw [List.count_singleton, if_neg (by simpa using this)]; rfl
theorem cnt_all (s : ByteArray) : cnt s s.size = (prtB s).length := by
  unfold cnt
  rw [prtB_len, List.take_of_length_le (by rw [← Lib.size_eq]; exact Nat.le_refl _)]
theorem cnt_le (s : ByteArray) (k : Nat) : cnt s k ≤ s.size := by
  unfold cnt
  rw [Lib.size_eq]
  exact Nat.le_trans List.count_le_length (by rw [List.length_take]; omega)
set_option maxRecDepth 100000 in
set_option maxHeartbeats 16000000 in
theorem back_walk (a : ByteArray) (L : List ByteArray) (v : Value) (w : World) (hL : Laid w) (hR : RdT L v w) (hn9 : L.length ≤ 140737488355328) (hz : ∀ x ∈ L, x.size ≤ 140737488355328) : Calls Try.prog 6 #[.string a, v] w fun e w' => e = .returned (.bool true) ∧ Below w.heap.size w w' := by
  have HL := Lib.hid hL
  have HB := Lib.hid (bytes_any L v w hR hn9 hz)
  have HR := Lib.hid hR
  obtain ⟨A, c, rfl, _, hk⟩ := hR
  have HK := Lib.hid hk
  obtain ⟨n, hn⟩ : ∃ n, n = L.length := ⟨_, rfl⟩
  rw [← hn] at HB HR ⊢
  have Hn := Lib.hid hn
  clear hL hk hn hz
  by_cases ha2 : a.size ≤ 20000
  · have haI : ¬ (20000 : Int) < a.size := by omega
    go_enter Try.func6, Try.ntmps6
    go_wp2_with fail
    refine HB.out.mono ?_
    rintro e w1 ⟨⟨m, rfl, hm⟩, rfl⟩
    by_cases h2 : m ≤ 20000
    · have h2I : ¬ 20000 < m := by omega
      have Hm := Lib.hid (hm h2)
      have hn2 : n ≤ 20000 := by have := Hm.out; omega
      have Hjs : Hid ((joinB L).size ≤ 20000) := by have := Hm.out; have := Hn.out; rw [Hid, join_size]; omega
      obtain ⟨q, hq⟩ : ∃ q, q = (prtB a).length := ⟨_, rfl⟩
      have Hq := Lib.hid hq
      have hq9 : q ≤ 20000 := by have := prtB_le a; omega
      clear hm hq
      by_cases he : (spl a).2 = 0
      · obtain ⟨s1, s2, s3⟩ := spl_ok he
        have Hsp := Lib.hid s1
        have Hjp := Lib.hid s2
        have Htl := Lib.hid s3
        clear s1 s2 s3 he
        go_wp2_with fail
        refine (split_any a w HL.out (by omega)).mono ?_
        rw [Hsp.out]
        rintro e1 w1 ⟨v1, rfl, ho1, hb1⟩
        obtain ⟨A1, c1, rfl, _, _⟩ := ho1.rd
        rw [show (prtB a, (0:Int)).1.length = q from Hq.out.symm]
        have F1 := Lib.hid ((From.refl HL.out).next hb1)
        have R1 := Lib.hid ho1.rd
        clear ho1 hb1
        go_wp2_with fail
        refine (join_any (prtB a) _ w1 (by have := R1.out; rw [show (prtB a, (0:Int)).1.length = q from Hq.out.symm] at this; exact this) (by rw [Hjp.out]; omega)).mono ?_
        rw [Hjp.out]
        rintro e2 w2 ⟨rfl, hb2⟩
        have F2 := Lib.hid (F1.out.next hb2)
        clear hb2
        go_wp2_with fail
        refine (told_any a w2 F2.out.2 (by omega)).mono ?_
        rw [Htl.out]
        rintro e3 w3 ⟨v3, rfl, ho3, hb3⟩
        obtain ⟨A3, c3, rfl, _, _⟩ := ho3.rd
        rw [show (prtB a, (0:Int)).1.length = q from Hq.out.symm]
        have F3 := Lib.hid (F2.out.next hb3)
        have R3 := Lib.hid ho3.rd
        clear ho3 hb3
        go_wp2
        go_loop [9, 10] (fun m' i => ∃ k : Nat, m' = .int .i64 (cnt a k : Nat) ∧ i = .int .i64 k ∧ k ≤ a.size) (fun _ i => a.size - (intOf i).toNat)
        case atStart => exact ⟨0, rfl, rfl, Nat.zero_le _⟩
        case round =>
          obtain ⟨k, rfl, rfl, hk⟩ := hrel
          by_cases hp : k < a.size
          · have hpI : (k : Int) < a.size := by omega
            have hcl := cnt_le a k
            by_cases h10 : a[k] = 10
            · have e10 : (((a[k]'hp).toNat : Int) == 10) = true := by rw [h10]; rfl
              have Hc := Lib.hid (cnt_yes hp h10)
              clear h10
              go_wp2
              go_round
              case rel => exact ⟨k + 1, by rw [Hc.out]; go_num, by go_num, by omega⟩
              case measure => simp [intOf]; omega
            · have e10 : (((a[k]'hp).toNat : Int) == 10) = false := by
                rw [beq_eq_false_iff_ne]
                intro e
                exact h10 (UInt8.toNat_inj.1 (Int.ofNat.inj e))
              have Hc := Lib.hid (cnt_no hp h10)
              clear h10
              go_wp2
              go_round
              case rel => exact ⟨k + 1, by rw [Hc.out], by go_num, by omega⟩
              case measure => simp [intOf]; omega
          · have hpI : ¬ (k : Int) < a.size := by omega
            obtain rfl : k = a.size := by omega
            rw [show cnt a a.size = q by rw [cnt_all, Hq.out]]
            go_wp2_with fail
            refine (join_any (prtB a) _ w3 (by have := R3.out; rw [show (prtB a, (0:Int)).1.length = q from Hq.out.symm] at this; exact this) (by rw [Hjp.out]; omega)).mono ?_
            rw [Hjp.out]
            rintro e4 w4 ⟨rfl, hb4⟩
            have F4 := Lib.hid (F3.out.next hb4)
            clear hb4
            have HV4 := Lib.hid (HR.out.below F4.out.1 (Nat.le_refl _))
            go_wp2_with fail
            refine (join_any L _ w4 HV4.out (by have := Hjs.out; omega)).mono ?_
            obtain ⟨jl, hjl⟩ : ∃ jl, jl = joinB L := ⟨_, rfl⟩
            rw [← hjl]
            have Hjl := Lib.hid hjl
            clear hjl
            rintro e5 w5 ⟨rfl, hb5⟩
            have F5 := Lib.hid (F4.out.next hb5)
            clear hb5
            by_cases hck : chk L = 0
            · have Hck := Lib.hid hck
              have Hs5 : Hid (spl jl = (L, 0)) := by rw [Hid, Hjl.out]; exact spl_join hck
              clear hck
              go_wp2_with fail
              refine (split_any jl w5 F5.out.2 (by have := Hjs.out; rw [Hjl.out]; omega)).mono ?_
              rw [Hs5.out]
              rintro e6 w6 ⟨v6, rfl, ho6, hb6⟩
              obtain ⟨A6, c6, rfl, _, hk6⟩ := ho6.rd
              rw [show (L, (0:Int)).1.length = n from Hn.out.symm]
              have F6 := Lib.hid (F5.out.next hb6)
              have HK6 := Lib.hid hk6
              have HV6 := Lib.hid (HR.out.below F6.out.1 (Nat.le_refl _))
              clear ho6 hb6 hk6
              go_wp2_with fail
              refine (check_any L _ w6 HV6.out).mono ?_
              rw [Hck.out]
              rintro e7 w7 ⟨rfl, hb7⟩
              have F7 := Lib.hid (F6.out.next hb7)
              have Hb7 := Lib.hid hb7
              clear hb7
              go_wp2
              go_loopw [13] (fun i wr => ∃ k : Nat, i = .int .i64 k ∧ k ≤ n ∧ Below w7.heap.size w7 wr) (fun i _ => n - (intOf i).toNat)
              case atStart => exact ⟨0, rfl, Nat.zero_le _, Below.refl _ _⟩
              case round =>
                obtain ⟨k, rfl, hk, hb⟩ := hrel
                by_cases hp : k < n
                · have hpI : (k : Int) < n := by omega
                  have hpl : k < L.length := by rw [← Hn.out]; exact hp
                  obtain ⟨g, off, rfl, hg, hcell⟩ := HK.out (by omega)
                  obtain ⟨g2, off2, rfl, hg2, hcell2⟩ := HK6.out (Nat.lt_of_le_of_lt (Nat.zero_le _) hpl)
                  have hb0 := F7.out.1.trans (hb.mono F7.out.1.size)
                  have e1 := (hb0.cell (p := ⟨g, off + k, none⟩) hg).trans (hcell k hpl)
                  have e2 := (hb.cell (p := ⟨g2, off2 + k, none⟩) (Nat.lt_of_lt_of_le hg2 Hb7.out.size)).trans ((Hb7.out.cell (p := ⟨g2, off2 + k, none⟩) hg2).trans (hcell2 k hpl))
                  clear hcell hcell2 hb0
                  go_wp2
                  go_quiet (fail)
                  go_wp2
                  go_roundw
                  case rel => exact ⟨k + 1, by go_num, by omega, Below.drewN hb _⟩
                  case measure => simp [intOf]; omega
                · have hpI : ¬ (k : Int) < n := by omega
                  have F8 := Lib.hid (F7.out.next hb)
                  go_wp2_with fail
                  refine (awake_any _ F8.out.2).mono ?_
                  rintro e9 w9 ⟨rfl, hb9⟩
                  have F9 := Lib.hid (F8.out.next hb9)
                  clear hb9
                  go_wp2
                  go_ret
                  exact ⟨rfl, F9.out.1⟩
            · obtain ⟨ck, hck2⟩ : ∃ ck, ck = chk L := ⟨_, rfl⟩
              have hckb : (ck == 0) = false := by rw [hck2]; simpa using hck
              have Hck := Lib.hid hck2
              clear hck hck2
              go_wp2_with fail
              refine (split_any jl w5 F5.out.2 (by have := Hjs.out; rw [Hjl.out]; omega)).mono ?_
              rintro e6 w6 ⟨v6, rfl, ho6, hb6⟩
              obtain ⟨A6, c6, rfl, _, _⟩ := ho6.rd
              have F6 := Lib.hid (F5.out.next hb6)
              have HV6 := Lib.hid (HR.out.below F6.out.1 (Nat.le_refl _))
              clear ho6 hb6
              go_wp2_with fail
              refine (check_any L _ w6 HV6.out).mono ?_
              rw [← Hck.out]
              rintro e7 w7 ⟨rfl, hb7⟩
              have F7 := Lib.hid (F6.out.next hb7)
              clear hb7
              go_wp2_with fail
              refine (awake_any _ F7.out.2).mono ?_
              rintro e9 w9 ⟨rfl, hb9⟩
              have F9 := Lib.hid (F7.out.next hb9)
              clear hb9
              go_wp2
              go_ret
              exact ⟨rfl, F9.out.1⟩
      · obtain ⟨e0, he0, s1⟩ := spl_no he
        have he0b : (e0 == 0) = false := by simpa using he0
        have Hsp := Lib.hid s1
        clear s1 he
        by_cases hf : (tld a).2 = 0
        · obtain ⟨s3, s2⟩ := tld_ok hf
          have Hjp := Lib.hid s2
          have Htl := Lib.hid s3
          clear s2 s3 hf
          go_wp2_with fail
          refine (split_any a w HL.out (by omega)).mono ?_
          rw [Hsp.out]
          rintro e1 w1 ⟨v1, rfl, ho1, hb1⟩
          obtain ⟨A1, c1, rfl, _, _⟩ := ho1.rd
          rw [show (([] : List ByteArray), e0).1.length = 0 from rfl]
          have F1 := Lib.hid ((From.refl HL.out).next hb1)
          have R1 := Lib.hid ho1.rd
          clear ho1 hb1
          have F2 := F1
          have w2 := w1
          go_wp2_with fail
          refine (told_any a w1 F2.out.2 (by omega)).mono ?_
          rw [Htl.out]
          rintro e3 w3 ⟨v3, rfl, ho3, hb3⟩
          obtain ⟨A3, c3, rfl, _, _⟩ := ho3.rd
          rw [show (prtB a, (0:Int)).1.length = q from Hq.out.symm]
          have F3 := Lib.hid (F2.out.next hb3)
          have R3 := Lib.hid ho3.rd
          clear ho3 hb3
          go_wp2
          go_loop [9, 10] (fun m' i => ∃ k : Nat, m' = .int .i64 (cnt a k : Nat) ∧ i = .int .i64 k ∧ k ≤ a.size) (fun _ i => a.size - (intOf i).toNat)
          case atStart => exact ⟨0, rfl, rfl, Nat.zero_le _⟩
          case round =>
            obtain ⟨k, rfl, rfl, hk⟩ := hrel
            by_cases hp : k < a.size
            · have hpI : (k : Int) < a.size := by omega
              have hcl := cnt_le a k
              by_cases h10 : a[k] = 10
              · have e10 : (((a[k]'hp).toNat : Int) == 10) = true := by rw [h10]; rfl
                have Hc := Lib.hid (cnt_yes hp h10)
                clear h10
                go_wp2
                go_round
                case rel => exact ⟨k + 1, by rw [Hc.out]; go_num, by go_num, by omega⟩
                case measure => simp [intOf]; omega
              · have e10 : (((a[k]'hp).toNat : Int) == 10) = false := by
                  rw [beq_eq_false_iff_ne]
                  intro e
                  exact h10 (UInt8.toNat_inj.1 (Int.ofNat.inj e))
                have Hc := Lib.hid (cnt_no hp h10)
                clear h10
                go_wp2
                go_round
                case rel => exact ⟨k + 1, by rw [Hc.out], by go_num, by omega⟩
                case measure => simp [intOf]; omega
            · have hpI : ¬ (k : Int) < a.size := by omega
              obtain rfl : k = a.size := by omega
              rw [show cnt a a.size = q by rw [cnt_all, Hq.out]]
              go_wp2_with fail
              refine (join_any (prtB a) _ w3 (by have := R3.out; rw [show (prtB a, (0:Int)).1.length = q from Hq.out.symm] at this; exact this) (by rw [Hjp.out]; omega)).mono ?_
              rw [Hjp.out]
              rintro e4 w4 ⟨rfl, hb4⟩
              have F4 := Lib.hid (F3.out.next hb4)
              clear hb4
              have HV4 := Lib.hid (HR.out.below F4.out.1 (Nat.le_refl _))
              go_wp2_with fail
              refine (join_any L _ w4 HV4.out (by have := Hjs.out; omega)).mono ?_
              obtain ⟨jl, hjl⟩ : ∃ jl, jl = joinB L := ⟨_, rfl⟩
              rw [← hjl]
              have Hjl := Lib.hid hjl
              clear hjl
              rintro e5 w5 ⟨rfl, hb5⟩
              have F5 := Lib.hid (F4.out.next hb5)
              clear hb5
              by_cases hck : chk L = 0
              · have Hck := Lib.hid hck
                have Hs5 : Hid (spl jl = (L, 0)) := by rw [Hid, Hjl.out]; exact spl_join hck
                clear hck
                go_wp2_with fail
                refine (split_any jl w5 F5.out.2 (by have := Hjs.out; rw [Hjl.out]; omega)).mono ?_
                rw [Hs5.out]
                rintro e6 w6 ⟨v6, rfl, ho6, hb6⟩
                obtain ⟨A6, c6, rfl, _, hk6⟩ := ho6.rd
                rw [show (L, (0:Int)).1.length = n from Hn.out.symm]
                have F6 := Lib.hid (F5.out.next hb6)
                have HK6 := Lib.hid hk6
                have HV6 := Lib.hid (HR.out.below F6.out.1 (Nat.le_refl _))
                clear ho6 hb6 hk6
                go_wp2_with fail
                refine (check_any L _ w6 HV6.out).mono ?_
                rw [Hck.out]
                rintro e7 w7 ⟨rfl, hb7⟩
                have F7 := Lib.hid (F6.out.next hb7)
                have Hb7 := Lib.hid hb7
                clear hb7
                go_wp2
                go_loopw [13] (fun i wr => ∃ k : Nat, i = .int .i64 k ∧ k ≤ n ∧ Below w7.heap.size w7 wr) (fun i _ => n - (intOf i).toNat)
                case atStart => exact ⟨0, rfl, Nat.zero_le _, Below.refl _ _⟩
                case round =>
                  obtain ⟨k, rfl, hk, hb⟩ := hrel
                  by_cases hp : k < n
                  · have hpI : (k : Int) < n := by omega
                    have hpl : k < L.length := by rw [← Hn.out]; exact hp
                    obtain ⟨g, off, rfl, hg, hcell⟩ := HK.out (by omega)
                    obtain ⟨g2, off2, rfl, hg2, hcell2⟩ := HK6.out (Nat.lt_of_le_of_lt (Nat.zero_le _) hpl)
                    have hb0 := F7.out.1.trans (hb.mono F7.out.1.size)
                    have e1 := (hb0.cell (p := ⟨g, off + k, none⟩) hg).trans (hcell k hpl)
                    have e2 := (hb.cell (p := ⟨g2, off2 + k, none⟩) (Nat.lt_of_lt_of_le hg2 Hb7.out.size)).trans ((Hb7.out.cell (p := ⟨g2, off2 + k, none⟩) hg2).trans (hcell2 k hpl))
                    clear hcell hcell2 hb0
                    go_wp2
                    go_quiet (fail)
                    go_wp2
                    go_roundw
                    case rel => exact ⟨k + 1, by go_num, by omega, Below.drewN hb _⟩
                    case measure => simp [intOf]; omega
                  · have hpI : ¬ (k : Int) < n := by omega
                    have F8 := Lib.hid (F7.out.next hb)
                    go_wp2_with fail
                    refine (awake_any _ F8.out.2).mono ?_
                    rintro e9 w9 ⟨rfl, hb9⟩
                    have F9 := Lib.hid (F8.out.next hb9)
                    clear hb9
                    go_wp2
                    go_ret
                    exact ⟨rfl, F9.out.1⟩
              · obtain ⟨ck, hck2⟩ : ∃ ck, ck = chk L := ⟨_, rfl⟩
                have hckb : (ck == 0) = false := by rw [hck2]; simpa using hck
                have Hck := Lib.hid hck2
                clear hck hck2
                go_wp2_with fail
                refine (split_any jl w5 F5.out.2 (by have := Hjs.out; rw [Hjl.out]; omega)).mono ?_
                rintro e6 w6 ⟨v6, rfl, ho6, hb6⟩
                obtain ⟨A6, c6, rfl, _, _⟩ := ho6.rd
                have F6 := Lib.hid (F5.out.next hb6)
                have HV6 := Lib.hid (HR.out.below F6.out.1 (Nat.le_refl _))
                clear ho6 hb6
                go_wp2_with fail
                refine (check_any L _ w6 HV6.out).mono ?_
                rw [← Hck.out]
                rintro e7 w7 ⟨rfl, hb7⟩
                have F7 := Lib.hid (F6.out.next hb7)
                clear hb7
                go_wp2_with fail
                refine (awake_any _ F7.out.2).mono ?_
                rintro e9 w9 ⟨rfl, hb9⟩
                have F9 := Lib.hid (F7.out.next hb9)
                clear hb9
                go_wp2
                go_ret
                exact ⟨rfl, F9.out.1⟩
        · have Htl := Lib.hid (tld_no hf)
          clear hf
          go_wp2_with fail
          refine (split_any a w HL.out (by omega)).mono ?_
          rw [Hsp.out]
          rintro e1 w1 ⟨v1, rfl, ho1, hb1⟩
          obtain ⟨A1, c1, rfl, _, _⟩ := ho1.rd
          rw [show (([] : List ByteArray), e0).1.length = 0 from rfl]
          have F1 := Lib.hid ((From.refl HL.out).next hb1)
          have R1 := Lib.hid ho1.rd
          clear ho1 hb1
          have F2 := F1
          have w2 := w1
          go_wp2_with fail
          refine (told_any a w1 F2.out.2 (by omega)).mono ?_
          rw [Htl.out]
          rintro e3 w3 ⟨v3, rfl, ho3, hb3⟩
          obtain ⟨A3, c3, rfl, _, _⟩ := ho3.rd
          rw [show (([] : List ByteArray), (4:Int)).1.length = 0 from rfl]
          have F3 := Lib.hid (F2.out.next hb3)
          have R3 := Lib.hid ho3.rd
          clear ho3 hb3
          go_wp2
          go_loop [9, 10] (fun m' i => ∃ k : Nat, m' = .int .i64 (cnt a k : Nat) ∧ i = .int .i64 k ∧ k ≤ a.size) (fun _ i => a.size - (intOf i).toNat)
          case atStart => exact ⟨0, rfl, rfl, Nat.zero_le _⟩
          case round =>
            obtain ⟨k, rfl, rfl, hk⟩ := hrel
            by_cases hp : k < a.size
            · have hpI : (k : Int) < a.size := by omega
              have hcl := cnt_le a k
              by_cases h10 : a[k] = 10
              · have e10 : (((a[k]'hp).toNat : Int) == 10) = true := by rw [h10]; rfl
                have Hc := Lib.hid (cnt_yes hp h10)
                clear h10
                go_wp2
                go_round
                case rel => exact ⟨k + 1, by rw [Hc.out]; go_num, by go_num, by omega⟩
                case measure => simp [intOf]; omega
              · have e10 : (((a[k]'hp).toNat : Int) == 10) = false := by
                  rw [beq_eq_false_iff_ne]
                  intro e
                  exact h10 (UInt8.toNat_inj.1 (Int.ofNat.inj e))
                have Hc := Lib.hid (cnt_no hp h10)
                clear h10
                go_wp2
                go_round
                case rel => exact ⟨k + 1, by rw [Hc.out], by go_num, by omega⟩
                case measure => simp [intOf]; omega
            · have hpI : ¬ (k : Int) < a.size := by omega
              obtain rfl : k = a.size := by omega
              rw [show cnt a a.size = q by rw [cnt_all, Hq.out]]
              have F4 := F3
              have HV4 := Lib.hid (HR.out.below F4.out.1 (Nat.le_refl _))
              go_wp2_with fail
              refine (join_any L _ w3 HV4.out (by have := Hjs.out; omega)).mono ?_
              obtain ⟨jl, hjl⟩ : ∃ jl, jl = joinB L := ⟨_, rfl⟩
              rw [← hjl]
              have Hjl := Lib.hid hjl
              clear hjl
              rintro e5 w5 ⟨rfl, hb5⟩
              have F5 := Lib.hid (F4.out.next hb5)
              clear hb5
              by_cases hck : chk L = 0
              · have Hck := Lib.hid hck
                have Hs5 : Hid (spl jl = (L, 0)) := by rw [Hid, Hjl.out]; exact spl_join hck
                clear hck
                go_wp2_with fail
                refine (split_any jl w5 F5.out.2 (by have := Hjs.out; rw [Hjl.out]; omega)).mono ?_
                rw [Hs5.out]
                rintro e6 w6 ⟨v6, rfl, ho6, hb6⟩
                obtain ⟨A6, c6, rfl, _, hk6⟩ := ho6.rd
                rw [show (L, (0:Int)).1.length = n from Hn.out.symm]
                have F6 := Lib.hid (F5.out.next hb6)
                have HK6 := Lib.hid hk6
                have HV6 := Lib.hid (HR.out.below F6.out.1 (Nat.le_refl _))
                clear ho6 hb6 hk6
                go_wp2_with fail
                refine (check_any L _ w6 HV6.out).mono ?_
                rw [Hck.out]
                rintro e7 w7 ⟨rfl, hb7⟩
                have F7 := Lib.hid (F6.out.next hb7)
                have Hb7 := Lib.hid hb7
                clear hb7
                go_wp2
                go_loopw [13] (fun i wr => ∃ k : Nat, i = .int .i64 k ∧ k ≤ n ∧ Below w7.heap.size w7 wr) (fun i _ => n - (intOf i).toNat)
                case atStart => exact ⟨0, rfl, Nat.zero_le _, Below.refl _ _⟩
                case round =>
                  obtain ⟨k, rfl, hk, hb⟩ := hrel
                  by_cases hp : k < n
                  · have hpI : (k : Int) < n := by omega
                    have hpl : k < L.length := by rw [← Hn.out]; exact hp
                    obtain ⟨g, off, rfl, hg, hcell⟩ := HK.out (by omega)
                    obtain ⟨g2, off2, rfl, hg2, hcell2⟩ := HK6.out (Nat.lt_of_le_of_lt (Nat.zero_le _) hpl)
                    have hb0 := F7.out.1.trans (hb.mono F7.out.1.size)
                    have e1 := (hb0.cell (p := ⟨g, off + k, none⟩) hg).trans (hcell k hpl)
                    have e2 := (hb.cell (p := ⟨g2, off2 + k, none⟩) (Nat.lt_of_lt_of_le hg2 Hb7.out.size)).trans ((Hb7.out.cell (p := ⟨g2, off2 + k, none⟩) hg2).trans (hcell2 k hpl))
                    clear hcell hcell2 hb0
                    go_wp2
                    go_quiet (fail)
                    go_wp2
                    go_roundw
                    case rel => exact ⟨k + 1, by go_num, by omega, Below.drewN hb _⟩
                    case measure => simp [intOf]; omega
                  · have hpI : ¬ (k : Int) < n := by omega
                    have F8 := Lib.hid (F7.out.next hb)
                    go_wp2_with fail
                    refine (awake_any _ F8.out.2).mono ?_
                    rintro e9 w9 ⟨rfl, hb9⟩
                    have F9 := Lib.hid (F8.out.next hb9)
                    clear hb9
                    go_wp2
                    go_ret
                    exact ⟨rfl, F9.out.1⟩
              · obtain ⟨ck, hck2⟩ : ∃ ck, ck = chk L := ⟨_, rfl⟩
                have hckb : (ck == 0) = false := by rw [hck2]; simpa using hck
                have Hck := Lib.hid hck2
                clear hck hck2
                go_wp2_with fail
                refine (split_any jl w5 F5.out.2 (by have := Hjs.out; rw [Hjl.out]; omega)).mono ?_
                rintro e6 w6 ⟨v6, rfl, ho6, hb6⟩
                obtain ⟨A6, c6, rfl, _, _⟩ := ho6.rd
                have F6 := Lib.hid (F5.out.next hb6)
                have HV6 := Lib.hid (HR.out.below F6.out.1 (Nat.le_refl _))
                clear ho6 hb6
                go_wp2_with fail
                refine (check_any L _ w6 HV6.out).mono ?_
                rw [← Hck.out]
                rintro e7 w7 ⟨rfl, hb7⟩
                have F7 := Lib.hid (F6.out.next hb7)
                clear hb7
                go_wp2_with fail
                refine (awake_any _ F7.out.2).mono ?_
                rintro e9 w9 ⟨rfl, hb9⟩
                have F9 := Lib.hid (F7.out.next hb9)
                clear hb9
                go_wp2
                go_ret
                exact ⟨rfl, F9.out.1⟩
    · have h2I : 20000 < m := by omega
      clear hm
      go_wp2_with (go_at_call 7; refine (awake_any _ HL.out).mono ?_; rintro e w1 ⟨rfl, hb1⟩; have Hb1 := Lib.hid hb1; clear hb1)
      go_ret
      exact ⟨rfl, Hb1.out⟩
  · have haI : (20000 : Int) < a.size := by omega
    go_enter Try.func6, Try.ntmps6
    go_wp2_with (go_at_call 7; refine (awake_any _ HL.out).mono ?_; rintro e w1 ⟨rfl, hb1⟩; have Hb1 := Lib.hid hb1; clear hb1)
    go_ret
    exact ⟨rfl, Hb1.out⟩
end Go.Proofs.Ytpaolndgagedkaa.Lns
