/- DERIVED. The walk of LinesKnown. -/
import Derived.Test.YtpaolndgagedkaaLnsWorks
namespace Go.Proofs.Ytpaolndgagedkaa.Lns
open Go.RowKit
def bl (k : Nat) : ByteArray := mkB (List.replicate k 32)
def lg (k : Nat) : ByteArray := joinB (List.replicate k ⟨#[120]⟩)
theorem bl_next (k : Nat) : bl k ++ ⟨#[32]⟩ = bl (k + 1) := bytes_eq (by simp [bl, mkB, List.replicate_succ'])
theorem bl_size (k : Nat) : (bl k).size = k := by rw [bl, mkB_size, List.length_replicate]
theorem lg_next (k : Nat) : lg k ++ ⟨#[120, 10]⟩ = lg (k + 1) := bytes_eq (by
  unfold lg
  rw [List.replicate_succ', ByteArray.data_append, Array.toList_append, joinB_data, joinB_data, List.map_append, joinN_app]
  rfl)
theorem lg_size (k : Nat) : (lg k).size = 2 * k := by
  unfold lg
  rw [join_size, List.length_replicate]
  unfold tot
  rw [List.map_replicate, List.sum_replicate_nat]
  have : (⟨#[120]⟩ : ByteArray).size = 1 := rfl
  rw [this]
  omega
theorem lg_free (k : Nat) : (List.replicate k (⟨#[120]⟩ : ByteArray)).all isB = true := by
  rw [List.all_eq_true]
  intro x hx
  rw [List.eq_of_mem_replicate hx]
  decide +kernel
theorem lg_prt (k : Nat) : prtB (lg k) = List.replicate k ⟨#[120]⟩ := prtB_join (lg_free k)
theorem lg_spl : spl (lg 257) = ([], 3) := by
  have hc : chk (prtB (lg 257)) = 3 := chk_many (by rw [lg_prt, List.length_replicate]; decide)
  unfold spl
  rw [if_pos (show endB (lg 257) = true from joinB_end _), if_neg (by rw [hc]; decide), hc]
theorem lg_tld : tld (lg 257) = (List.replicate 257 ⟨#[120]⟩, 0) := by
  unfold tld
  rw [if_pos (show endB (lg 257) = true from joinB_end _), lg_prt, if_pos (List.all_eq_true.2 fun x hx => is_plain (List.all_eq_true.1 (lg_free 257) x hx))]
theorem k_told : tld ⟨#[62, 62, 62, 62, 62, 62, 62, 10, 97, 10, 60, 60, 60, 60, 60, 60, 60, 10]⟩ = ([⟨#[62, 62, 62, 62, 62, 62, 62]⟩, ⟨#[97]⟩, ⟨#[60, 60, 60, 60, 60, 60, 60]⟩], 0) := by decide +kernel
theorem k_ab : spl ⟨#[97, 10, 98]⟩ = ([], 4) := by decide +kernel
theorem k_mid : spl ⟨#[61, 61, 61, 61, 61, 61, 61, 10]⟩ = ([], 4) := by decide +kernel
theorem k_eight : spl ⟨#[61, 61, 61, 61, 61, 61, 61, 61, 10]⟩ = ([⟨#[61, 61, 61, 61, 61, 61, 61, 61]⟩], 0) := by decide +kernel
theorem k_b81 : isB (bl 81) = false := isB_long (by rw [bl_size]; decide)
theorem k_b80 : isB ((bl 81).extract 1 81) = true := by
  have e : (bl 81).extract 1 81 = bl 80 := bytes_eq (by rw [Lib.extract_data, bl, bl, mkB_data, mkB_data]; simp)
  rw [e]
  decide +kernel
theorem k_tab : isB ⟨#[9]⟩ = true := by decide +kernel
theorem k_e : isB ⟨#[195, 169]⟩ = false := by decide +kernel
theorem k_m7 : mkrB ⟨#[60, 60, 60, 60, 60, 60, 60]⟩ = true := by decide +kernel
theorem k_m6 : mkrB ⟨#[60, 60, 60, 60, 60, 60]⟩ = false := by decide +kernel
theorem k_join : joinB [⟨#[97]⟩, ⟨#[]⟩] = ⟨#[97, 10, 10]⟩ := rfl
set_option maxRecDepth 100000 in
set_option maxHeartbeats 8000000 in
theorem known_walk (w : World) (hL : Laid w) : Calls Try.prog 5 #[] w fun e w' => e = .returned (.bool true) ∧ Below w.heap.size w w' := by
  have F0 := Lib.hid (From.refl hL)
  clear hL
  go_enter Try.func5, Try.ntmps5
  go_wp2
  go_loop [1, 3] (fun s i => ∃ k : Nat, s = .string (bl k) ∧ i = .int .i64 k ∧ k ≤ 81) (fun _ i => 81 - (intOf i).toNat)
  case atStart => exact ⟨0, rfl, rfl, Nat.zero_le _⟩
  case round =>
    obtain ⟨k, rfl, rfl, hk⟩ := hrel
    by_cases hp : k < 81
    · have hpI : (k : Int) < 81 := by omega
      have hs := bl_size k
      have Hn := Lib.hid (bl_next k)
      go_wp2
      go_round
      case rel => exact ⟨k + 1, by rw [← Hn.out], by go_num, by omega⟩
      case measure => simp [intOf]; omega
    · obtain rfl : k = 81 := by omega
      have hs1 := bl_size 81
      have HB1 := Lib.hid k_b81
      have HB2 := Lib.hid k_b80
      obtain ⟨B1, hB1⟩ : ∃ B1, B1 = bl 81 := ⟨_, rfl⟩
      rw [← hB1] at hs1 HB1 HB2 ⊢
      clear hB1
      go_wp2
      go_loop [2, 4] (fun s i => ∃ k : Nat, s = .string (lg k) ∧ i = .int .i64 k ∧ k ≤ 257) (fun _ i => 257 - (intOf i).toNat)
      case atStart => exact ⟨0, rfl, rfl, Nat.zero_le _⟩
      case round =>
        clear hk hp
        obtain ⟨k, rfl, rfl, hk⟩ := hrel
        by_cases hp : k < 257
        · have hpI : (k : Int) < 257 := by omega
          have hs := lg_size k
          have Hn := Lib.hid (lg_next k)
          go_wp2
          go_round
          case rel => exact ⟨k + 1, by rw [← Hn.out], by go_num, by omega⟩
          case measure => simp [intOf]; omega
        · obtain rfl : k = 257 := by omega
          have hs2 := lg_size 257
          have HL1 := Lib.hid lg_spl
          have HL2 := Lib.hid lg_tld
          obtain ⟨L1, hL1⟩ : ∃ L1, L1 = lg 257 := ⟨_, rfl⟩
          rw [← hL1] at hs2 HL1 HL2 ⊢
          clear hL1
          go_wp2_with fail
          refine (told_any _ _ F0.out.2 (by decide)).mono ?_
          rw [k_told]
          rintro e1 w1 ⟨v1, rfl, ho1, hb1⟩
          obtain ⟨A1, c1, rfl, _, _⟩ := ho1.rd
          rw [show ([(⟨#[62, 62, 62, 62, 62, 62, 62]⟩ : ByteArray), ⟨#[97]⟩, ⟨#[60, 60, 60, 60, 60, 60, 60]⟩], (0 : Int)).1.length = 3 from rfl]
          have F1 := Lib.hid (F0.out.next hb1)
          clear ho1 hb1
          go_wp2_with fail
          refine (told_any _ _ F1.out.2 (by omega)).mono ?_
          rw [HL2.out]
          rintro e2 w2 ⟨v2, rfl, ho2, hb2⟩
          obtain ⟨A2, c2, rfl, _, _⟩ := ho2.rd
          rw [show (List.replicate 257 (⟨#[120]⟩ : ByteArray), (0 : Int)).1.length = 257 from List.length_replicate ..]
          have F2 := Lib.hid (F1.out.next hb2)
          clear ho2 hb2
          go_wp2_with fail
          refine (awake_any _ F2.out.2).mono ?_
          rintro e3 w3 ⟨rfl, hb3⟩
          have F3 := Lib.hid (F2.out.next hb3)
          clear hb3
          go_wp2_with fail
          refine (no_any _ 4 _ F3.out.2 (by decide) k_ab).mono ?_
          rintro e4 w4 ⟨rfl, hb4⟩
          have F4 := Lib.hid (F3.out.next hb4)
          clear hb4
          go_wp2_with fail
          refine (no_any _ 4 _ F4.out.2 (by decide) k_mid).mono ?_
          rintro e5 w5 ⟨rfl, hb5⟩
          have F5 := Lib.hid (F4.out.next hb5)
          clear hb5
          go_wp2_with fail
          have F5a := F5.out.alloc (.cells #[.string ⟨#[61, 61, 61, 61, 61, 61, 61, 61]⟩] 9)
          refine (isl_any _ [⟨#[61, 61, 61, 61, 61, 61, 61, 61]⟩] _ _ F5a.2 (by decide) k_eight (row_rd (Go.heap_alloc_new w5 _) rfl) (by decide)).mono ?_
          rintro e6 w6 ⟨rfl, hb6⟩
          have F6 := Lib.hid (F5a.next hb6)
          clear hb6 F5a
          go_wp2_with fail
          refine (no_any _ 3 _ F6.out.2 (by omega) HL1.out).mono ?_
          rintro e7 w7 ⟨rfl, hb7⟩
          have F7 := Lib.hid (F6.out.next hb7)
          clear hb7
          go_wp2_with fail
          refine (is_any _ _).mono ?_
          rw [HB1.out]
          rintro e8 w8 ⟨rfl, hb8⟩
          have F8 := Lib.hid (F7.out.next hb8)
          clear hb8
          go_wp2_with fail
          refine (is_any _ _).mono ?_
          rw [HB2.out]
          rintro e9 w9 ⟨rfl, hb9⟩
          have F9 := Lib.hid (F8.out.next hb9)
          clear hb9
          go_wp2_with fail
          refine (is_any _ _).mono ?_
          rw [k_tab]
          rintro e10 w10 ⟨rfl, hb10⟩
          have F10 := Lib.hid (F9.out.next hb10)
          clear hb10
          go_wp2_with fail
          refine (is_any _ _).mono ?_
          rw [k_e]
          rintro e11 w11 ⟨rfl, hb11⟩
          have F11 := Lib.hid (F10.out.next hb11)
          clear hb11
          go_wp2_with fail
          refine (mark_any _ _).mono ?_
          rw [k_m7]
          rintro e12 w12 ⟨rfl, rfl⟩
          go_wp2_with fail
          refine (mark_any _ _).mono ?_
          rw [k_m6]
          rintro e13 w13 ⟨rfl, rfl⟩
          go_wp2_with fail
          have F12 := F11.out.alloc (.cells #[.string ⟨#[97]⟩, .string ⟨#[]⟩] 9)
          refine (join_any [⟨#[97]⟩, ⟨#[]⟩] _ _ (row_rd (Go.heap_alloc_new w11 _) rfl) (by rw [k_join]; decide)).mono ?_
          rw [k_join]
          rintro e14 w14 ⟨rfl, hb14⟩
          have F14 := Lib.hid (F12.next hb14)
          clear hb14 F12
          go_wp2
          go_ret
          exact ⟨rfl, F14.out.1⟩
end Go.Proofs.Ytpaolndgagedkaa.Lns
