/- DERIVED. The contract of the reference's Text of layer 1. -/
import Derived.Test.YtbondffjghanlaaDoorShaTurnedMath
import Derived.BigQuiet
import Derived.Deep.QuietTactic
import Derived.KernelRfl
namespace Go.Proofs.YtbondffjghanlaaDoor
open Go.RowKit
/-- a digit of the constant text. -/
theorem sl_fin : ∀ (v : Fin 16) (W : World), (Instr.sliceAt 9 (.string ⟨#[48, 49, 50, 51, 52, 53, 54, 55, 56, 57, 97, 98, 99, 100, 101, 102]⟩) (some (.int .u8 ((v.val : Nat) : Int))) (some (.int .u8 (IntKind.u8.wrap (((v.val : Nat) : Int) + 1)))) none).run Tryd.prog W = .ok (.string ⟨#[UInt8.ofNat (dig ((v.val : Nat) : Int)).toNat]⟩) W
  | ⟨0, _⟩, _ => by kernel_rfl
  | ⟨1, _⟩, _ => by kernel_rfl
  | ⟨2, _⟩, _ => by kernel_rfl
  | ⟨3, _⟩, _ => by kernel_rfl
  | ⟨4, _⟩, _ => by kernel_rfl
  | ⟨5, _⟩, _ => by kernel_rfl
  | ⟨6, _⟩, _ => by kernel_rfl
  | ⟨7, _⟩, _ => by kernel_rfl
  | ⟨8, _⟩, _ => by kernel_rfl
  | ⟨9, _⟩, _ => by kernel_rfl
  | ⟨10, _⟩, _ => by kernel_rfl
  | ⟨11, _⟩, _ => by kernel_rfl
  | ⟨12, _⟩, _ => by kernel_rfl
  | ⟨13, _⟩, _ => by kernel_rfl
  | ⟨14, _⟩, _ => by kernel_rfl
  | ⟨15, _⟩, _ => by kernel_rfl
  | ⟨n + 16, h⟩, _ => absurd h (by omega)
theorem sl_dig (v : Int) (h0 : 0 ≤ v) (h1 : v < 16) (W : World) : (Instr.sliceAt 9 (.string ⟨#[48, 49, 50, 51, 52, 53, 54, 55, 56, 57, 97, 98, 99, 100, 101, 102]⟩) (some (.int .u8 v)) (some (.int .u8 (IntKind.u8.wrap (v + 1)))) none).run Tryd.prog W = .ok (.string ⟨#[UInt8.ofNat (dig v).toNat]⟩) W := by
  obtain ⟨k, rfl⟩ := Int.eq_ofNat_of_zero_le h0
  exact sl_fin ⟨k, by omega⟩ W
theorem text_two (l : List Int) (k : Nat) (h : k < 32) : (textL l).take (2 * (k + 1)) = (textL l).take (2 * k) ++ [dig (l.getD k 0 / 16), dig (l.getD k 0 % 16)] := by
  have hl := textL_length l
  rw [show 2 * (k + 1) = 2 * k + 1 + 1 by omega, List.take_succ_eq_append_getElem (by omega), List.take_succ_eq_append_getElem (by omega), List.append_assoc]
  have e1 : (textL l)[2 * k]'(by omega) = dig (l.getD k 0 / 16) := by
    have h1 := textL_getD l (2 * k) (by omega)
    rw [(textF_at l k).1] at h1
    rw [h1]
    simp [List.getD_eq_getElem?_getD, hl, show 2 * k < 64 by omega]
  have e2 : (textL l)[2 * k + 1]'(by omega) = dig (l.getD k 0 % 16) := by
    have h1 := textL_getD l (2 * k + 1) (by omega)
    rw [(textF_at l k).2] at h1
    rw [h1]
    simp [List.getD_eq_getElem?_getD, hl, show 2 * k + 1 < 64 by omega]
  rw [e1, e2]
  rfl
/-- what the loop keeps. -/
def RTI (l : List Int) (w : World) (o i : Value) (wr : World) : Prop :=
  ∃ (k q : Nat) (s : ByteArray), k ≤ 32 ∧ i = .int .i64 k ∧ o = .string s ∧ Hid (s.data.toList = ((textL l).take (2 * k)).map fun n => UInt8.ofNat n.toNat) ∧ Hid (wr = (w.alloc (.cells (u8s l) 35)).drewN q)
set_option maxRecDepth 100000 in
set_option maxHeartbeats 1000000 in
theorem refText_any (l : List Int) (hl : l.length = 32) (hb : InB l) (w : World) :
    Calls Tryd.prog 31 #[.agg (u8s l)] w fun e' w' => e' = .returned (.string (strOfNums (textL l))) ∧ Below w.heap.size w w' := by
  have Hl := Lib.hid hl
  have Hb := Lib.hid hb
  clear hl hb
  go_enter Tryd.func31, Tryd.ntmps31
  go_wp2
  go_loopw [4, 5] (fun o i wr => RTI l w o i wr) (fun _ i _ => 32 - (intOf i).toNat)
  case atStart => exact ⟨0, 0, ⟨#[]⟩, by omega, rfl, rfl, rfl, rfl⟩
  case round =>
    obtain ⟨k, q, s, hk, rfl, rfl, hs, hwr⟩ := hrel
    by_cases hlt : k < 32
    · have c1 : wr.cell? ⟨w.heap.size, k, none⟩ = some (.int .u8 (l.getD k 0)) := by
        rw [hwr.out]
        show (w.alloc (.cells (u8s l) 35)).cell? _ = _
        rw [cell_row (Go.heap_alloc_new w _), u8s_get _ _ (by rw [Hl.out]; exact hlt)]
      have hx := Hb.out k
      obtain ⟨x, hxx⟩ : ∃ x, x = l.getD k 0 := ⟨_, rfl⟩
      rw [← hxx] at c1 hx
      obtain ⟨x0, x1⟩ := hx
      have Hx := Lib.hid hxx
      have hltI : (k : Int) < 32 := by omega
      have h16 : x / 16 < 16 := by omega
      have h17 : 0 ≤ x / 16 := by omega
      have g16 : x % 16 < 16 := by omega
      have g17 : 0 ≤ x % 16 := by omega
      clear hxx
      go_wp2
      go_quiet (fail)
      go_wp2
      have d1 := fun W => sl_dig (x / 16) h17 h16 W
      have d2 := fun W => sl_dig (x % 16) g17 g16 W
      have hsz : s.size = 2 * k := by
        have h := congrArg List.length hs.out
        rw [List.length_map, List.length_take, textL_length] at h
        have : s.size = s.data.toList.length := by rw [Array.length_toList]; rfl
        omega
      have z1 : ¬ 9223372036854775807 < s.size + 1 := by omega
      have z2 : ¬ 9223372036854775807 < s.size + 1 + 1 := by omega
      clear hsz
      refine wp_region_quiet_lit (by kernel_rfl) (by kernel_rfl) ?_
      iterate 14 (refine wpQuiet_step (fun K hK => ?_); go_simp; refine hK _ ?_; clear hK K)
      refine wpQuiet_nil ?_
      rintro w2 ⟨nq2, rfl⟩
      clear d1 d2 z1 z2
      go_wp2
      go_roundw
      case rel =>
        refine ⟨k + 1, q + (nq + nq2), _, by omega, by go_num, rfl, ?_, ?_⟩
        · show _ = _
          rw [text_two l k hlt, List.map_append, ← hs.out, ← Hx.out]
          simp
        · show wr.drewN (nq + nq2) = _
          rw [hwr.out, World.drewN_drewN]
      case measure => simp [intOf]; omega
    · obtain rfl : k = 32 := by omega
      have low : Below w.heap.size w wr := by
        rw [hwr.out]
        have h := (Below.refl w.heap.size w).alloc (Nat.le_refl _) (.cells (u8s l) 35)
        exact ⟨h.os, h.tape, h.output, h.size, h.block⟩
      have hst : s = strOfNums (textL l) := by
        apply ByteArray.ext
        apply Array.toList_inj.1
        have h := hs.out
        rw [List.take_of_length_le (by rw [textL_length]; omega)] at h
        rw [h, strOfNums_data]
      clear hs
      subst hst
      have Low := Lib.hid low
      clear low hwr
      go_wp2
      go_ret
      exact ⟨rfl, Low.out⟩
end Go.Proofs.YtbondffjghanlaaDoor
