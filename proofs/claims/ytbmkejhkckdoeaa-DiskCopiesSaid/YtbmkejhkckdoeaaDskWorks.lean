/- DERIVED. The statements' works: a cut leaves a byte of the second sector. -/
import Derived.Test.YtbmkejhkckdoeaaDskData
namespace Go.Proofs.Ytbmkejhkckdoeaa.Dsk
open Go.RowKit
def m1 : List Int := 1 :: List.replicate 15 0
theorem m1_in : InB m1 := by
  intro j
  match j with
  | 0 => simp [m1]
  | j + 1 =>
    simp only [m1, List.getD_cons_succ]
    exact inb_zeros 15 j
def d1 : DS := { newD 2 with laid := true, whole := 1, mask := m1 }
def b7 : List Int := List.replicate 256 7
theorem b7_in : InB b7 := by
  intro j
  simp only [b7, List.getD_eq_getElem?_getD, List.getElem?_replicate]
  split <;> simp
theorem b7_len : b7.length = 256 := List.length_replicate
theorem d1_secs : d1.secs = 2 := by kernel_rfl
def d2 : DS := (runD d1 0 b7 0 2).1
theorem d2_e : (runD d1 0 b7 0 2).2 = 12 := by kernel_rfl
theorem d2_off : d2.off = true := by kernel_rfl
theorem d2_wr : d2.writes = 2 := by kernel_rfl
theorem d2_len : d2.data.length = 256 := by kernel_rfl
theorem d2_a : d2.data.getD 127 0 = 7 := by kernel_rfl
theorem d2_b : d2.data.getD 128 0 = 7 := by kernel_rfl
theorem d2_c : d2.data.getD 129 0 = 0 := by kernel_rfl
theorem new_two (w : World) : Calls Try.prog 6 #[.int .i64 2] w fun e w' => ∃ K : DK, e = .returned (.tuple #[.pointer (some ⟨K.g, 0, none⟩), .int .i64 0]) ∧ Dsk w' K (newD 2) ∧ Below w.heap.size w w' ∧ w.heap.size ≤ K.g ∧ w.heap.size ≤ K.h := new_ok 2 w (by decide) (by decide)
theorem cut_one {w : World} {K : DK} (h : Dsk w K (newD 2)) : Calls Try.prog 10 #[.pointer (some ⟨K.g, 0, none⟩), .int .i64 1, .agg #[.int .u8 1, .int .u8 0, .int .u8 0, .int .u8 0, .int .u8 0, .int .u8 0, .int .u8 0, .int .u8 0, .int .u8 0, .int .u8 0, .int .u8 0, .int .u8 0, .int .u8 0, .int .u8 0, .int .u8 0, .int .u8 0]] w fun e w' => e = .returned (.int .i64 0) ∧ Dsk w' K d1 ∧ Chg K.bl w w' :=
  cut_any h 1 m1 (by decide) rfl m1_in
theorem write_b7 {w : World} {K : DK} {g : Nat} (h : Dsk w K d1) (hr : w.heap[g]? = some (.cells (u8s b7) 5 (0, 0))) (hg : g ∉ K.bl) : Calls Try.prog 11 #[.pointer (some ⟨K.g, 0, none⟩), .int .i64 0, .slice (some ⟨g, 0, none⟩) 256 256] w fun e w' => e = .returned (.int .i64 12) ∧ Dsk w' K d2 ∧ Chg K.bl w w' :=
  write_ok h 0 2 256 (by rw [d1_secs]; decide) rfl (some ⟨g, 0, none⟩) 256 b7 (by decide) b7_len b7_in ⟨Nat.le_of_eq b7_len, (fun h => by cases h), fun _ => ⟨g, 0, rfl, (Array.getElem?_eq_some_iff.1 hr).1, fun j hj => by rw [Nat.zero_add]; exact row8_cell hr j hj⟩⟩ (fun a ha => by cases ha; exact hg) (by decide)
theorem off_d2 {w : World} {K : DK} (h : Dsk w K d2) : Calls Try.prog 12 #[.pointer (some ⟨K.g, 0, none⟩)] w fun e w' => e = .returned (.bool true) ∧ w = w' := off_any h
theorem writes_d2 {w : World} {K : DK} (h : Dsk w K d2) : Calls Try.prog 15 #[.pointer (some ⟨K.g, 0, none⟩)] w fun e w' => e = .returned (.int .i64 2) ∧ w = w' := writes_any h
theorem bytes_d2 {w : World} {K : DK} (h : Dsk w K d2) : Calls Try.prog 9 #[.pointer (some ⟨K.g, 0, none⟩)] w fun e w' => ∃ g c, e = .returned (.slice (some ⟨g, 0, none⟩) 256 c) ∧ (w'.cell? ⟨g, 127, none⟩ = some (.int .u8 7) ∧ w'.cell? ⟨g, 128, none⟩ = some (.int .u8 7) ∧ w'.cell? ⟨g, 129, none⟩ = some (.int .u8 0)) ∧ Below w.heap.size w w' := by
  refine (bytes_any h).mono ?_
  rintro e w' ⟨v, rfl, ho, hb⟩
  rw [d2_len] at ho
  obtain ⟨g, sp, rfl, hg, hh⟩ := own_shape ho d2_len (by decide)
  have hc : ∀ j, j < 256 → w'.cell? ⟨g, j, none⟩ = some (.int .u8 (d2.data.getD j 0)) := fun j hj => body_cell (K := ⟨0, g, sp⟩) hh j (by rw [d2_len]; exact hj)
  refine ⟨g, _, rfl, ⟨?_, ?_, ?_⟩, hb⟩
  · rw [hc 127 (by decide), d2_a]
  · rw [hc 128 (by decide), d2_b]
  · rw [hc 129 (by decide), d2_c]
theorem mk256 (w : World) : (Instr.makeSlice 22 (.int .i64 256) (.int .i64 256)).run Try.prog w = .ok (.slice (some ⟨w.heap.size, 0, none⟩) 256 256) (w.alloc (.cells (u8s (List.replicate 256 0)) 5)) := mk_any 256 (by decide) w
theorem fill_set (x : Int) (i n : Nat) (h : i < n) : (u8s (List.replicate i x ++ List.replicate (n - i) 0)).setIfInBounds i (.int .u8 x) = u8s (List.replicate (i + 1) x ++ List.replicate (n - (i + 1)) 0) := by
  rw [u8s_set]
  congr 1
  rw [List.set_append_right _ _ (by simp), List.length_replicate, Nat.sub_self, show n - i = (n - (i + 1)) + 1 by omega, List.replicate_succ, List.set_cons_zero, List.replicate_succ', List.append_assoc]
  rfl
set_option maxRecDepth 100000 in
set_option maxHeartbeats 1000000 in
theorem works_any (w : World) : Calls Try.prog 13 #[] w fun e w' => e = .returned (.bool true) ∧ Below w.heap.size w w' := by
  have hmk := mk256
  go_enter Try.func13, Try.ntmps13
  go_wp2_with (go_at_call 6; refine (new_two w).mono ?_; rintro e w1 ⟨K, rfl, hd1, hb1, hg1, hh1⟩; have Hd1 := Lib.hid hd1; have Hb1 := Lib.hid hb1; have Hg1 := Lib.hid hg1; have Hh1 := Lib.hid hh1; clear hd1 hb1 hg1 hh1)
  have hr2 := Go.heap_alloc_new w1 (.cells (u8s (List.replicate 256 0)) 5)
  have hb2 := Hb1.out.alloc Hb1.out.size (.cells (u8s (List.replicate 256 0)) 5)
  have hd2 := Hd1.out.later ((Below.refl w1.heap.size w1).alloc (Nat.le_refl _) (.cells (u8s (List.replicate 256 0)) 5))
  have hgb : w1.heap.size ∉ K.bl := by
    have := Hd1.out.glt
    have := Hd1.out.hlt
    simp [DK.bl]; omega
  have Hgb := Lib.hid hgb
  have Hs1 := Lib.hid Hb1.out.size
  have Hi0 : Hid (Dsk (w1.alloc (.cells (u8s (List.replicate 256 0)) 5)) K (newD 2) ∧ (w1.alloc (.cells (u8s (List.replicate 256 0)) 5)).heap[w1.heap.size]? = some (.cells (u8s (List.replicate 0 7 ++ List.replicate (256 - 0) 0)) 5 (0, 0)) ∧ Below w.heap.size w (w1.alloc (.cells (u8s (List.replicate 256 0)) 5))) := ⟨hd2, hr2, hb2⟩
  clear hr2 hb2 hd2 hgb Hd1 Hb1 hmk
  go_loopw [4] (fun v wr => ∃ i : Nat, i ≤ 256 ∧ v = .int .i64 i ∧ Dsk wr K (newD 2) ∧ wr.heap[w1.heap.size]? = some (.cells (u8s (List.replicate i 7 ++ List.replicate (256 - i) 0)) 5 (0, 0)) ∧ Below w.heap.size w wr) (fun v _ => 256 - (intOf v).toNat)
  case atStart => exact ⟨0, Nat.zero_le _, rfl, Hi0.out⟩
  case round =>
    obtain ⟨i, hi, rfl, hd, hr, hb⟩ := hrel
    clear Hi0
    by_cases hlt : i < 256
    · have cx : wr.cell? ⟨w1.heap.size, i, none⟩ = some (.int .u8 0) := by
        rw [row8_cell hr i (by simp; omega)]
        rw [List.getD_eq_getElem?_getD, List.getElem?_append_right (by simp)]
        rw [List.length_replicate, Nat.sub_self, show 256 - i = (255 - i) + 1 by omega, List.replicate_succ]
        rfl
      have fx := free_row hr i
      have hd' : Dsk (wr.setCell ⟨w1.heap.size, i, none⟩ (.int .u8 7)) K (newD 2) := by
        refine hd.chg (S := [w1.heap.size]) (chg_one _ _ _ _) ?_ ?_
        · have := Hgb.out; simp [DK.bl] at this; simp; omega
        · have := Hgb.out; simp [DK.bl] at this; simp; omega
      have hr' := heap_setCell_same _ _ i _ _ (.int .u8 7) hr
      rw [fill_set 7 i 256 hlt] at hr'
      have hb' := hb.setCell (p := ⟨w1.heap.size, i, none⟩) Hs1.out (.int .u8 7)
      have H := Lib.hid (And.intro hd' (And.intro hr' hb'))
      clear hd hr hb hd' hr' hb'
      go_wp2
      go_roundw
      case rel => exact ⟨i + 1, by omega, by go_num, H.out⟩
      case measure => simp [intOf]; omega
    · obtain rfl : i = 256 := by omega
      have Hd := Lib.hid hd
      have hr7 : wr.heap[w1.heap.size]? = some (.cells (u8s b7) 5 (0, 0)) := hr
      have Hr := Lib.hid hr7
      have Hb := Lib.hid hb
      clear hd hr hb hr7
      go_wp2_with (first
        | (go_at_call 10; refine (cut_one Hd.out).mono ?_; rintro e w3 ⟨rfl, hd3, hc3⟩; have Hr3 := Lib.hid (hc3.at Hr.out Hgb.out); have Hb3 := Lib.hid (hc3.below Hb.out Hb.out.size (by intro k hk; simp [DK.bl] at hk; have := Hg1.out; have := Hh1.out; omega)); have Hd3 := Lib.hid hd3; clear hd3 hc3)
        | (go_at_call 11; refine (write_b7 Hd3.out Hr3.out Hgb.out).mono ?_; rintro e w4 ⟨rfl, hd4, hc4⟩; have Hb4 := Lib.hid (hc4.below Hb3.out Hb3.out.size (by intro k hk; simp [DK.bl] at hk; have := Hg1.out; have := Hh1.out; omega)); have Hd4 := Lib.hid hd4; clear hd4 hc4)
        | (go_at_call 12; refine (off_d2 Hd4.out).mono ?_; rintro e w' ⟨rfl, rfl⟩)
        | (go_at_call 15; refine (writes_d2 Hd4.out).mono ?_; rintro e w' ⟨rfl, rfl⟩)
        | (go_at_call 9; refine (bytes_d2 Hd4.out).mono ?_; rintro e w5 ⟨g5, c5, rfl, ⟨ca, cb, cc⟩, hb5⟩; have Hb5 := Lib.hid (Hb4.out.trans (hb5.mono Hb4.out.size)); clear hb5))
      go_ret
      exact ⟨rfl, Hb5.out⟩
end Go.Proofs.Ytbmkejhkckdoeaa.Dsk
