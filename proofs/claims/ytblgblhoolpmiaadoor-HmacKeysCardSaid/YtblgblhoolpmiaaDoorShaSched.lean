/- DERIVED. The contract of sha.schedule: the 64 words of a block. -/
import Derived.Test.YtblgblhoolpmiaaDoorShaRot
import Derived.StillTailTactics
import Derived.Laws.Tables
import Derived.Deep.DeepMust
import Derived.Lib.Hide
import Derived.IntWalk
import Derived.Laws.CopyOwn
namespace Go.Proofs.YtblgblhoolpmiaaDoor
open Go.RowKit
theorem info25 : (Tryd.prog.info? 25).map (·.size) = some 64 := by kernel_rfl
theorem info55 : (Tryd.prog.info? 55).map (·.size) = some 64 := by kernel_rfl
/-- what the loops of schedule keep. -/
structure SInv (l : List Int) (N k : Nat) (w wr : World) : Prop where
  blk : wr.heap[N]? = some (.cells (u8s l) 25 (0, 0))
  res : ∃ Z : Array Value, Z.size = 64 ∧ wr.heap[N + 1]? = some (.cells Z 55 (0, 0))
  row : ∃ S : Array Value, Holds S 64 k (W l) ∧ wr.heap[N + 1 + 1]? = some (.cells S 55 (0, 0))
  low : Below N w wr
theorem SInv.drewN {l : List Int} {N k : Nat} {w wr : World} (h : SInv l N k w wr) (n : Nat) : SInv l N k w (wr.drewN n) :=
  ⟨h.blk, h.res, h.row, ⟨h.low.os, h.low.tape, h.low.output, h.low.size, h.low.block⟩⟩
theorem SInv.drew {l : List Int} {N k : Nat} {w wr : World} (h : SInv l N k w wr) : SInv l N k w wr.drew := h.drewN 1
theorem SInv.set {l : List Int} {N k : Nat} {w wr : World} (h : SInv l N k w wr) (hk : k < 64) (v : Int) (hv : v = W l k) : SInv l N (k + 1) w (wr.setCell ⟨N + 1 + 1, k, none⟩ (.int .u32 v)) := by
  obtain ⟨S, hS, hr⟩ := h.row
  obtain ⟨Z, hZ, hz⟩ := h.res
  refine ⟨?_, ⟨Z, hZ, ?_⟩, ⟨_, hS.set hk v hv, heap_setCell_same _ _ _ _ _ _ hr⟩, h.low.setCell (by simp; omega) _⟩
  · rw [heap_setCell_other _ _ _ _ (by simp; omega)]; exact h.blk
  · rw [heap_setCell_other _ _ _ _ (by simp)]; exact hz
theorem slice25 (wr : World) (g k : Nat) (h : k < 16) : (Instr.sliceAt 25 (.pointer (some ⟨g, 0, none⟩)) (some (.int .i64 (4 * (k : Int)))) none none).run Tryd.prog wr = .ok (.slice (some ⟨g, 4 * k, none⟩) (64 - 4 * k) (64 - 4 * k)) wr := by
  have h1 : (4 * (k : Int)).toNat = 4 * k := by omega
  have h2 : ¬ 64 = 4 * k := by omega
  have h3 : 0 ≤ 4 * (k : Int) := by omega
  have h4 : 4 * (k : Int) ≤ 64 := by omega
  have hs : ∀ w', (sizeOf 5).run Tryd.prog w' = .ok 1 w' := fun _ => by kernel_rfl
  have hu : Tryd.prog.underlying 25 = some (.array 64 5) := by kernel_rfl
  simp [Instr.sliceAt, Instr.sureAddr, run_underlying hu, Instr.sliceBounds, Instr.sliceBound, asIntOf, h1, h2, h3, h4, hs, Addr.add]
  intro h
  exact h.symm
set_option maxRecDepth 100000 in
set_option maxHeartbeats 1000000 in
theorem schedule_any (l : List Int) (hl : l.length = 64) (hb : InB l) (w : World) :
    Calls Tryd.prog 28 #[.agg (u8s l)] w fun e w' => e = .returned (.agg (u32s (sched l))) ∧ Below w.heap.size w w' := by
  have H64 : Hid (l.length = 64) := hl
  have Hb : Hid (InB l) := hb
  clear hl hb
  go_enter Tryd.func28, Tryd.ntmps28
  go_wp2
  go_loopw [8] (fun i wr => ∃ k : Nat, k ≤ 16 ∧ i = .int .i64 k ∧ SInv l w.heap.size k w wr) (fun i _ => 16 - (intOf i).toNat)
  case atStart =>
    have h3 := three_new w
    exact ⟨0, Nat.zero_le _, rfl, (h3 _ _ _).1, ⟨_, rfl, (h3 _ _ _).2.1⟩, ⟨_, Holds.nil _ _ _ rfl, (h3 _ _ _).2.2⟩, below3 _ _ _ _⟩
  case round =>
    obtain ⟨k, hk, rfl, hinv⟩ := hrel
    by_cases hlt : k < 16
    · obtain ⟨S, hS, hr⟩ := hinv.row
      have hblk := hinv.blk
      have hin := Hb.out
      have hlen := H64.out
      obtain ⟨v, hv⟩ : ∃ v, wr.cell? ⟨w.heap.size + 1 + 1, k, none⟩ = some v := by
        rw [cell_row hr]; exact ⟨_, Array.getElem?_eq_getElem (by rw [hS.1]; omega)⟩
      have hfz := free_row hr k
      have c0 : wr.cell? ⟨w.heap.size, 4 * k, none⟩ = some (.int .u8 (l.getD (4 * k) 0)) := by rw [cell_row hblk, u8s_get l _ (by omega)]
      have c1 : wr.cell? ⟨w.heap.size, 4 * k + 1, none⟩ = some (.int .u8 (l.getD (4 * k + 1) 0)) := by rw [cell_row hblk, u8s_get l _ (by omega)]
      have c2 : wr.cell? ⟨w.heap.size, 4 * k + 2, none⟩ = some (.int .u8 (l.getD (4 * k + 2) 0)) := by rw [cell_row hblk, u8s_get l _ (by omega)]
      have c3 : wr.cell? ⟨w.heap.size, 4 * k + 3, none⟩ = some (.int .u8 (l.getD (4 * k + 3) 0)) := by rw [cell_row hblk, u8s_get l _ (by omega)]
      have Hc : Hid (Calls Tryd.prog 46 #[.slice (some ⟨w.heap.size, 4 * k, none⟩) (64 - 4 * k) (64 - 4 * k)] wr fun e w' => e = .returned (.int .u32 (W l k)) ∧ ∃ n, w' = wr.drewN n) := by
        rw [W_lt l k hlt]
        exact word_any _ _ _ _ _ _ _ _ (by omega) _ c0 c1 c2 c3 (hin _) (hin _) (hin _) (hin _)
      have hsl := slice25 wr w.heap.size k hlt
      clear c0 c1 c2 c3 hblk hin hlen hr hS
      go_wp2_with (go_at_call 46; refine Hc.out.mono ?_; rintro e w' ⟨rfl, n, rfl⟩)
      go_roundw
      case rel => exact ⟨k + 1, by omega, by go_num, ((hinv.drewN _).set (by omega) _ rfl)⟩
      case measure => simp [intOf]; omega
    · have h16 : k = 16 := by omega
      rw [h16] at hinv
      have H16 : Hid (k = 16) := h16
      clear h16 hk
      obtain ⟨w1, hw1⟩ : ∃ w1, w1 = wr := ⟨_, rfl⟩
      subst hw1
      go_wp2
      go_loopw [5] (fun i wr => ∃ k : Nat, 16 ≤ k ∧ k ≤ 64 ∧ i = .int .i64 k ∧ SInv l w.heap.size k w wr) (fun i _ => 64 - (intOf i).toNat)
      case atStart => exact ⟨16, by omega, by omega, rfl, hinv⟩
      case round =>
        obtain ⟨k, hk16, hk, rfl, hinv⟩ := hrel
        by_cases hlt : k < 64
        · obtain ⟨S, hS, hr⟩ := hinv.row
          have hv : ∀ j, j < 64 → (wr.cell? ⟨w.heap.size + 1 + 1, j, none⟩).isSome = true := fun j hj => by
            rw [cell_row hr, Array.getElem?_eq_getElem (by rw [hS.1]; omega)]; rfl
          obtain ⟨v, hv⟩ := Option.isSome_iff_exists.1 (hv k hlt)
          have hfz := free_row hr k
          have c16 : wr.cell? ⟨w.heap.size + 1 + 1, k - 16, none⟩ = some (.int .u32 (W l (k - 16))) := by rw [cell_row hr, hS.2 _ (by omega)]
          have c15 : wr.cell? ⟨w.heap.size + 1 + 1, k - 15, none⟩ = some (.int .u32 (W l (k - 15))) := by rw [cell_row hr, hS.2 _ (by omega)]
          have c7 : wr.cell? ⟨w.heap.size + 1 + 1, k - 7, none⟩ = some (.int .u32 (W l (k - 7))) := by rw [cell_row hr, hS.2 _ (by omega)]
          have c2 : wr.cell? ⟨w.heap.size + 1 + 1, k - 2, none⟩ = some (.int .u32 (W l (k - 2))) := by rw [cell_row hr, hS.2 _ (by omega)]
          clear hr hS
          have i15 : (0 : Int) ≤ (k : Int) - 15 := by omega
          have i2 : (0 : Int) ≤ (k : Int) - 2 := by omega
          have i16 : (0 : Int) ≤ (k : Int) - 16 := by omega
          have i7 : (0 : Int) ≤ (k : Int) - 7 := by omega
          have t15 : ((k : Int) - 15).toNat = k - 15 := by omega
          have t2 : ((k : Int) - 2).toNat = k - 2 := by omega
          have t16 : ((k : Int) - 16).toNat = k - 16 := by omega
          have t7 : ((k : Int) - 7).toNat = k - 7 := by omega
          go_wp2
          go_quiet (fail)
          go_wp2
          have e16 : IntKind.i64.wrap ((k : Int) - 16) = (k : Int) - 16 := IntWalk.i64_in _ (by omega)
          have e7 : IntKind.i64.wrap ((k : Int) - 7) = (k : Int) - 7 := IntWalk.i64_in _ (by omega)
          have m16 : (16 : Int) ≤ k := by omega
          have m7 : (7 : Int) ≤ k := by omega
          have j16 : (k : Int) - 16 < 64 := by omega
          have j7 : (k : Int) - 7 < 64 := by omega
          refine wp_region_still_tail 28 (by kernel_rfl) (by kernel_rfl) ?_
          simp only [List.take_succ_cons, List.take_zero, List.drop_succ_cons, List.drop_zero]
          change wpStill _ _ (wr.drewN nq).drew _ _ _
          repeat (first | (refine wpStill_step (fun K hK => ?_); go_simp; refine hK _ ?_; clear hK K) | (refine wpStill_step (fun K hK => ?_); go_simp; refine ⟨_, right_same _ _ (by decide) (by decide) _, hK _ ?_⟩; clear hK K))
          refine wpStill_nil ?_
          change wpList _ _ _ _ _ (wr.drewN nq).drew
          go_wp2
          go_roundw
          case rel => exact ⟨k + 1, by omega, by omega, by go_num, ((hinv.drewN _).drew.set (by omega) _ (by rw [W_ge l k hk16 hlt]; rfl))⟩
          case measure => simp [intOf]; omega
        · have h64 : k = 64 := by omega
          rw [h64] at hinv
          have H16 : Hid (k = 64) := h64
          clear h64 hk hk16
          obtain ⟨S, hS, hr⟩ := hinv.row
          obtain ⟨Z, hZ, hz⟩ := hinv.res
          have low := hinv.low
          have hS' : S = u32s (sched l) := hS.whole (sched_length l) (fun j hj => W_of_sched l j)
          subst hS'
          clear hinv hS
          have hrow := setRow_heap wr _ _ (u32s (sched l)) _ _ hz
          have hlow : Below w.heap.size w (wr.setRow (w.heap.size + 1) (u32s (sched l))) := below_setRow low (by omega) _
          have hsz : (Tryd.prog.info? 55).map (·.size) = some (u32s (sched l)).size := by rw [u32s_size, sched_length]; exact info55
          have hzz : Z.size = (u32s (sched l)).size := by rw [u32s_size, sched_length, hZ]
          have Hsz := Lib.hid hsz
          have Hzz := Lib.hid hzz
          have Hr := Lib.hid hr
          have Hz := Lib.hid hz
          have Hrow := Lib.hid hrow
          clear hsz hzz hr hz hrow hZ
          go_wp2_with (first | (with_reducible refine wpList_load_row rfl 55 (.tmp 3) rfl (w.heap.size + 1 + 1) rfl 55 (u32s (sched l)) (0, 0) _ Hr.out Tryd.underlying55 rfl Hsz.out ?_) | (with_reducible refine wpList_store_row rfl 55 (.tmp 2) (.tmp 59) rfl (w.heap.size + 1) (u32s (sched l)) rfl rfl 55 Z Hz.out Hsz.out Hzz.out (u32s_one _) ?_))
          exact bodyPost_ret (v := .agg (u32s (sched l))) (results_cell_row rfl _ _ (w.heap.size + 1) 55 _ (0, 0) _ rfl Hrow.out Tryd.underlying55 rfl Hsz.out) rfl ⟨rfl, hlow⟩
end Go.Proofs.YtblgblhoolpmiaaDoor
