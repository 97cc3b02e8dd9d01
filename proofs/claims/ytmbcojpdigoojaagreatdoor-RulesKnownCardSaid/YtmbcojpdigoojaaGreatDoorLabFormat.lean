/- DERIVED. Digits of base 16; strconv.FormatUint at base 16. -/
import Derived.Test.YtmbcojpdigoojaaGreatDoorStr
import Derived.Test.YtmbcojpdigoojaaGreatDoorProg
import Derived.Laws.BitsLemmas
import Derived.Deep.CutBlock
import Derived.Lib.Hide
import Derived.KernelRfl
namespace Go.Proofs.YtmbcojpdigoojaaGreatDoor.Lab
section
open Go.RowKit
/-- the byte of a hexadecimal digit. -/
def hexC (m : Nat) : Int := if m < 10 then (48 + m : Nat) else (87 + m : Nat)
def hexF : Nat → Nat → List Int
  | 0, n => [hexC (n % 16)]
  | k + 1, n => if n < 16 then [hexC (n % 16)] else hexF k (n / 16) ++ [hexC (n % 16)]
/-- the hexadecimal digits of a number. -/
def hexL (n : Nat) : List Int := hexF 15 n
theorem hexC_in (m : Nat) (h : m < 16) : 48 ≤ hexC m ∧ hexC m < 128 := by unfold hexC; split <;> omega
theorem hexF_in (k n : Nat) : ∀ x ∈ hexF k n, 48 ≤ x ∧ x < 128 := by
  induction k generalizing n with
  | zero => simp [hexF]; exact hexC_in _ (by omega)
  | succ k ih =>
    unfold hexF
    split
    · simp; exact hexC_in _ (by omega)
    · intro x hx
      rcases List.mem_append.1 hx with hx | hx
      · exact ih _ x hx
      · obtain rfl := List.mem_singleton.1 hx
        exact hexC_in _ (by omega)
theorem hexF_le (k n : Nat) : (hexF k n).length ≤ k + 1 := by
  induction k generalizing n with
  | zero => simp [hexF]
  | succ k ih => unfold hexF; split <;> simp; exact ih _
theorem pow16 {n k : Nat} (h : n < 16 ^ (k + 1)) : n / 16 < 16 ^ k := by
  rw [Nat.pow_succ] at h
  exact Nat.div_lt_of_lt_mul (by rw [Nat.mul_comm]; exact h)
end
end Go.Proofs.YtmbcojpdigoojaaGreatDoor.Lab
namespace Go.Proofs.YtmbcojpdigoojaaGreatDoor.Lab
section
open Go.RowKit Str
/-- what the walks read of the tables. -/
def Laid (w : World) : Prop := w.cell? ⟨3, 15, none⟩ = some (.int .u8 4)
/-- what the loop holds to: the digits that are written, X, stand behind j zeros. -/
structure FI (n : Nat) (w : World) (j m : Nat) (X : List Int) (wr : World) : Prop where
  eq : hexL n = hexF (j - 50) m ++ X
  len : X.length = 65 - j
  lt : m < 16 ^ (j - 49)
  row : wr.heap[w.heap.size]? = some (.cells (u8s (List.replicate j 0 ++ X)) 128 (0, 0))
  low : Below w.heap.size w wr
theorem lt16 {n : Nat} (h : n < 18446744073709551616) : n < 16 ^ (65 - 49) := Nat.lt_of_lt_of_le h (by decide)
theorem hex_fin : ∀ d : Fin 16, ((((⟨#[48, 49, 50, 51, 52, 53, 54, 55, 56, 57, 97, 98, 99, 100, 101, 102, 103, 104, 105, 106, 107, 108, 109, 110, 111, 112, 113, 114, 115, 116, 117, 118, 119, 120, 121, 122]⟩ : ByteArray).data.getD d.val 0).toNat : Nat) : Int) = hexC d.val := by decide
theorem hex_at (d : Nat) (hd : d < 16) (h : d < (⟨#[48, 49, 50, 51, 52, 53, 54, 55, 56, 57, 97, 98, 99, 100, 101, 102, 103, 104, 105, 106, 107, 108, 109, 110, 111, 112, 113, 114, 115, 116, 117, 118, 119, 120, 121, 122]⟩ : ByteArray).size) : ((((⟨#[48, 49, 50, 51, 52, 53, 54, 55, 56, 57, 97, 98, 99, 100, 101, 102, 103, 104, 105, 106, 107, 108, 109, 110, 111, 112, 113, 114, 115, 116, 117, 118, 119, 120, 121, 122]⟩ : ByteArray)[d]'h).toNat : Nat) : Int) = hexC d := by
  rw [← hex_fin ⟨d, hd⟩]
  congr 2
  show ByteArray.get _ _ _ = _
  simp only [ByteArray.get]
  exact (Array.getElem_eq_getD 0)
theorem rep_set (j : Nat) (h : 0 < j) (X : List Int) (v : Int) : (List.replicate j 0 ++ X).set (j - 1) v = List.replicate (j - 1) 0 ++ v :: X := by
  obtain ⟨k, rfl⟩ : ∃ k, j = k + 1 := ⟨j - 1, by omega⟩
  rw [Nat.add_sub_cancel, List.replicate_succ', List.append_assoc, List.set_append_right _ _ (by simp)]
  simp
theorem rep_get (j : Nat) (h : 0 < j) (X : List Int) : (u8s (List.replicate j 0 ++ X))[j - 1]? = some (.int .u8 0) := by
  rw [u8s_get _ _ (by simp; omega), List.getD_eq_getElem?_getD, List.getElem?_append_left (by simp; omega), List.getElem?_replicate, if_pos (by omega)]
  rfl
/-- one digit is written. -/
theorem FI.step {n j m d : Nat} {w wr : World} {X : List Int} (h : FI n w j m X wr) (hj : 50 < j) (hj1 : j ≤ 65) (hm : 16 ≤ m) (hd : d = m % 16) : FI n w (j - 1) (m / 16) (hexC d :: X) (wr.setCell ⟨w.heap.size, j - 1, none⟩ (.int .u8 (hexC d))) := by
  refine ⟨?_, by rw [List.length_cons, h.len]; omega, ?_, ?_, h.low.setCell (Nat.le_refl _) _⟩
  · rw [h.eq, show j - 50 = (j - 1 - 50) + 1 by omega, hexF, if_neg (by omega), ← hd]
    simp
  · have := h.lt
    rw [show j - 49 = (j - 1 - 49) + 1 by omega] at this
    exact pow16 this
  · rw [heap_setCell_same _ _ _ _ _ _ h.row, u8s_set, rep_set _ (by omega)]
/-- the last digit is written: the text. -/
theorem FI.last {n j m : Nat} {w wr : World} {X : List Int} (h : FI n w j m X wr) (hj : 50 ≤ j) (hj1 : j ≤ 65) (hm : m < 16) :
    Byt (wr.setCell ⟨w.heap.size, j - 1, none⟩ (.int .u8 (hexC m))) (some ⟨w.heap.size, j - 1, none⟩) (65 - (j - 1)) (hexL n) ∧ (hexL n).length = 65 - (j - 1) ∧ Below w.heap.size w (wr.setCell ⟨w.heap.size, j - 1, none⟩ (.int .u8 (hexC m))) := by
  have he : hexL n = hexC m :: X := by
    rw [h.eq]
    cases j - 50 with
    | zero => simp [hexF, Nat.mod_eq_of_lt hm]
    | succ k => simp [hexF, hm, Nat.mod_eq_of_lt hm]
  have hrow : (wr.setCell ⟨w.heap.size, j - 1, none⟩ (.int .u8 (hexC m))).heap[w.heap.size]? = some (.cells (u8s (List.replicate (j - 1) 0 ++ hexC m :: X)) 128 (0, 0)) := by
    rw [heap_setCell_same _ _ _ _ _ _ h.row, u8s_set, rep_set _ (by omega)]
  have hlen : (hexL n).length = 65 - (j - 1) := by rw [he, List.length_cons, h.len]; omega
  refine ⟨⟨by omega, (fun e => by cases e), fun _ => ⟨w.heap.size, j - 1, rfl, (Array.getElem?_eq_some_iff.1 hrow).1, fun i hi => ?_⟩⟩, hlen, h.low.setCell (Nat.le_refl _) _⟩
  have hX := h.len
  rw [hlen] at hi
  rw [cell_row hrow, u8s_get _ _ (by simp; omega), he]
  congr 2
  rw [List.getD_eq_getElem?_getD, List.getD_eq_getElem?_getD, List.getElem?_append_right (by simp), List.length_replicate, Nat.add_sub_cancel_left]
theorem and15 (m : Nat) (h : m < 18446744073709551616) : bits .and .u64 (m : Nat) 15 = ((m % 16 : Nat) : Int) := by
  have h := (bits_nat .u64 64 (by decide) (fun n h0 h1 => by rw [show IntKind.u64.wrap n = n % 18446744073709551616 by simp [IntKind.wrap, IntKind.bits, IntKind.signed]]; omega) m 15 h (by decide)).1
  rw [show (15 : Nat) = 2 ^ 4 - 1 from rfl, Nat.and_two_pow_sub_one_eq_mod] at h
  exact h
theorem al65 : Tryz.prog.arrayLen 128 = 65 := by kernel_rfl
theorem el65 : Tryz.prog.elem 128 = 5 := by kernel_rfl
theorem un65 : Tryz.prog.underlying 128 = some (.array (Tryz.prog.arrayLen 128) (Tryz.prog.elem 128)) := by kernel_rfl
/-- a[i:] of the local array. -/
theorem slice_65 (w : World) (g j : Nat) (h0 : 1 ≤ j) (h1 : j ≤ 65) :
    (Instr.sliceAt 128 (.pointer (some ⟨g, 0, none⟩)) (some (.int .i64 ((j : Int) - 1))) none none).run Tryz.prog w = .ok (.slice (some ⟨g, j - 1, none⟩) (65 - (j - 1)) (65 - (j - 1))) w := by
  rw [run_sliceAt_array_l w 128 ⟨g, 0, none⟩ un65 .i64 _ (by omega) (by rw [al65]; omega), el65, al65]
  have e : ((j : Int) - 1).toNat = j - 1 := by omega
  have e2 : ¬ 65 = j - 1 := by omega
  simp [go_sem, e, e2, slicedAt, Addr.add_mid]
theorem pow_16 (w : World) : Calls Tryz.prog 113 #[.int .i64 16] w fun e w' => e = .returned (.bool true) ∧ w = w' := by
  go_enter Tryz.func113, Tryz.ntmps113
  go_wp2
  go_ret
  exact ⟨rfl, rfl⟩
theorem zeros_16 (w : World) (hL : Laid w) : Calls Tryz.prog 114 #[.int .u64 16] w fun e w' => e = .returned (.int .i64 4) ∧ w = w' := by
  unfold Laid at hL
  go_enter Tryz.func114, Tryz.ntmps114
  have e1 : IntKind.u64.wrap (-16) = 18446744073709551600 := by kernel_rfl
  have e2 : bits .and .u64 16 18446744073709551600 = 16 := by kernel_rfl
  have e3 : IntKind.u64.wrap (16 * 285870213051353865) = 4573923408821661840 := by kernel_rfl
  go_wp2
  go_ret
  exact ⟨rfl, rfl⟩
theorem Laid.below {w w' : World} (h : Laid w) (hb : Below w.heap.size w w') : Laid w' := (hb.cell (p := ⟨3, 15, none⟩) (World.block_lt_of_cell? w _ h)).trans h
set_option maxRecDepth 100000 in
set_option maxHeartbeats 4000000 in
theorem format_any (n : Nat) (hn : n < 18446744073709551616) (w : World) (hL : Laid w) :
    Calls Tryz.prog 98 #[.slice none 0 0, .int .u64 (n : Nat), .int .i64 16, .bool false, .bool false] w fun e w' => e = .returned (.tuple #[.slice none 0 0, .string (strOfNums (hexL n))]) ∧ Below w.heap.size w w' := by
  obtain ⟨w1, hw1⟩ : ∃ w1, w1 = w.alloc (.cells (u8s (List.replicate 65 0)) 128) := ⟨_, rfl⟩
  have h1 : w1.heap[w.heap.size]? = some (.cells (u8s (List.replicate 65 0 ++ [])) 128 (0, 0)) := by rw [hw1]; exact Go.heap_alloc_new w _
  have l1 : Below w.heap.size w w1 := by rw [hw1]; exact (Below.refl _ _).alloc (Nat.le_refl _) _
  have HL2 : Hid (Laid w1) := hL.below l1
  have HF : Hid (FI n w 65 n [] w1) := ⟨by simp [hexL], rfl, lt16 hn, h1, l1⟩
  have Hw1 := Lib.hid hw1
  clear h1 l1 hw1
  clear hL
  go_enter Tryz.func98, Tryz.ntmps98
  go_upto_region 5 with (fail)
  change Code.wp _ _ _ _ (w.alloc (.cells (u8s (List.replicate 65 0)) 128))
  rw [← Hw1.out]
  clear Hw1
  go_upto_region 11 with (first
    | (go_at_call 113; refine (pow_16 _).mono ?_; rintro e w2 ⟨rfl, rfl⟩)
    | (go_at_call 114; refine (zeros_16 _ HL2.out).mono ?_; rintro e w2 ⟨rfl, rfl⟩))
  clear HL2
  go_wp2
  go_loopw [1, 13] (fun u i wr => ∃ j m : Nat, 50 ≤ j ∧ j ≤ 65 ∧ u = .int .u64 (m : Nat) ∧ i = .int .i64 (j : Nat) ∧ Hid (∃ X, FI n w j m X wr)) (fun _ i _ => (intOf i).toNat)
  case atStart => exact ⟨65, n, by omega, by omega, rfl, rfl, [], HF⟩
  case round =>
    obtain ⟨j, m, hj0, hj1, rfl, rfl, hI⟩ := hrel
    clear HF
    by_cases h16 : 16 ≤ m
    · have h16' : (16 : Int) ≤ m := by omega
      obtain ⟨X, hF⟩ := hI.out
      have hm64 : m < 18446744073709551616 := Nat.lt_of_lt_of_le hF.lt (Nat.le_trans (Nat.pow_le_pow_right (by decide) (by omega : j - 49 ≤ 16)) (by decide))
      have hj5 : 50 < j := by
        by_cases e : j = 50
        · have := hF.lt
          rw [e] at this
          omega
        · omega
      obtain ⟨d, hd⟩ : ∃ d, d = m % 16 := ⟨_, rfl⟩
      have hb := and15 m hm64
      rw [← hd] at hb
      have hd1 : d < 16 := by omega
      have c0 := (cell_row hF.row (j - 1)).trans (rep_get j (by omega) X)
      have f0 := free_row hF.row (j - 1)
      have Hd := Lib.hid hd
      have HF := Lib.hid hF
      clear hd hF hI hm64
      go_wp2
      rw [hex_at d hd1 _]
      go_roundw
      case rel => exact ⟨j - 1, m / 16, by omega, by omega, by go_num, by go_num, _, HF.out.step hj5 hj1 h16 Hd.out⟩
      case measure => simp [intOf]; omega
    · have h16' : ¬ (16 : Int) ≤ m := by omega
      obtain ⟨X, hF⟩ := hI.out
      have hm1 : m < 16 := by omega
      have c0 := (cell_row hF.row (j - 1)).trans (rep_get j (by omega) X)
      have f0 := free_row hF.row (j - 1)
      have HF := Lib.hid hF
      clear hF hI
      go_upto_region 25 with (fail)
      rw [hex_at m hm1 _]
      generalize hw2 : World.setCell _ _ _ = w2
      have hb := HF.out.last (by omega) hj1 hm1
      rw [hw2] at hb
      have cv := conv_any hb.1 (n := 65 - (j - 1)) hb.2.1
      have Hl := Lib.hid hb.2.2
      clear hw2 hb c0 f0 HF
      have hsl := slice_65 w2 w.heap.size j (by omega) hj1
      go_wp2
      go_ret2
      exact ⟨rfl, Hl.out⟩
/-- strconv.FormatUint at base 16. -/
theorem formatU_any (n : Nat) (hn : n < 18446744073709551616) (w : World) (hL : Laid w) :
    Calls Tryz.prog 51 #[.int .u64 (n : Nat), .int .i64 16] w fun e w' => e = .returned (.string (strOfNums (hexL n))) ∧ Below w.heap.size w w' := by
  have HF := Lib.hid (format_any n hn w hL)
  clear hL
  go_enter Tryz.func51, Tryz.ntmps51
  go_wp2_with (first
    | (go_at_call 98; refine HF.out.mono ?_; rintro e w2 ⟨rfl, low⟩; have Low := Lib.hid low; clear low)
    | go_in)
  go_ret
  exact ⟨rfl, Low.out⟩
end
end Go.Proofs.YtmbcojpdigoojaaGreatDoor.Lab
