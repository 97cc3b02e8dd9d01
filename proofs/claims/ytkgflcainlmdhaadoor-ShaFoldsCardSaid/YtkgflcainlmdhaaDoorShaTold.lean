/- DERIVED. The contract of the statements' own helper told: a state as a digest. -/
import Derived.Test.YtkgflcainlmdhaaDoorShaSum
namespace Go.Proofs.YtkgflcainlmdhaaDoor
open Go.RowKit
theorem hashF_div (l : List Int) (i : Nat) : hashF l i = l.getD (i / 4) 0 / 2 ^ (24 - 8 * (i % 4)) % 256 := by
  have hf := hashF_at l (i / 4)
  have h4 : i % 4 = 0 ∨ i % 4 = 1 ∨ i % 4 = 2 ∨ i % 4 = 3 := by omega
  rcases h4 with e | e | e | e
  · rw [e]; have : i = 4 * (i / 4) := by omega
    rw [show hashF l i = hashF l (4 * (i / 4)) by rw [← this], hf.1]; rfl
  · rw [e]; have : i = 4 * (i / 4) + 1 := by omega
    rw [show hashF l i = hashF l (4 * (i / 4) + 1) by rw [← this], hf.2.1]; rfl
  · rw [e]; have : i = 4 * (i / 4) + 2 := by omega
    rw [show hashF l i = hashF l (4 * (i / 4) + 2) by rw [← this], hf.2.2.1]; rfl
  · rw [e]; have : i = 4 * (i / 4) + 3 := by omega
    rw [show hashF l i = hashF l (4 * (i / 4) + 3) by rw [← this], hf.2.2.2]; simp
/-- what the loop of told keeps. -/
structure DInv (l : List Int) (N k : Nat) (w wr : World) : Prop where
  blk : wr.heap[N]? = some (.cells (u32s l) 24 (0, 0))
  res : ∃ Z : Array Value, Z.size = 32 ∧ wr.heap[N + 1]? = some (.cells Z 35 (0, 0))
  row : ∃ S : Array Value, HoldsB S 32 k (hashF l) ∧ wr.heap[N + 1 + 1]? = some (.cells S 35 (0, 0))
  low : Below N w wr
theorem DInv.set {l : List Int} {N k : Nat} {w wr : World} (h : DInv l N k w wr) (hk : k < 32) (v : Int) (hv : v = hashF l k) : DInv l N (k + 1) w (wr.setCell ⟨N + 1 + 1, k, none⟩ (.int .u8 v)) := by
  obtain ⟨S, hS, hr⟩ := h.row
  obtain ⟨Z, hZ, hz⟩ := h.res
  refine ⟨?_, ⟨Z, hZ, ?_⟩, ⟨_, hS.set hk v hv, heap_setCell_same _ _ _ _ _ _ hr⟩, h.low.setCell (by simp; omega) _⟩
  · rw [heap_setCell_other _ _ _ _ (by simp; omega)]; exact h.blk
  · rw [heap_setCell_other _ _ _ _ (by simp)]; exact hz
set_option maxRecDepth 100000 in
set_option maxHeartbeats 1000000 in
theorem told_any (l : List Int) (hl : l.length = 8) (w : World) :
    Calls Tryd.prog 27 #[.agg (u32s l)] w fun e' w' => e' = .returned (.agg (u8s (hashL l))) ∧ Below w.heap.size w w' := by
  have Hl := Lib.hid hl
  clear hl
  go_enter Tryd.func27, Tryd.ntmps27
  have h3 := Lib.hid (three_new w (.cells (u32s l) 24))
  go_wp2
  go_loopw [4] (fun i wr => ∃ k : Nat, k ≤ 32 ∧ i = .int .i64 k ∧ DInv l w.heap.size k w wr) (fun i _ => 32 - (intOf i).toNat)
  case atStart => exact ⟨0, Nat.zero_le _, rfl, (h3.out _ _).1, ⟨_, rfl, (h3.out _ _).2.1⟩, ⟨_, HoldsB.nil _ _ _ rfl, (h3.out _ _).2.2⟩, below3 _ _ _ _⟩
  case round =>
    obtain ⟨k, hk, rfl, hinv⟩ := hrel
    clear h3
    by_cases hlt : k < 32
    · obtain ⟨S, hS, hr⟩ := hinv.row
      obtain ⟨v, hv⟩ : ∃ v, wr.cell? ⟨w.heap.size + 1 + 1, k, none⟩ = some v := by
        rw [cell_row hr]; exact ⟨_, Array.getElem?_eq_getElem (by rw [hS.1]; omega)⟩
      have hfz := free_row hr k
      obtain ⟨x, hx⟩ : ∃ x, x = l.getD (k / 4) 0 := ⟨_, rfl⟩
      have hc : wr.cell? ⟨w.heap.size, k / 4, none⟩ = some (.int .u32 x) := by rw [cell_row hinv.blk, u32s_get l _ (by rw [Hl.out]; omega), hx]
      have Hx := Lib.hid hx
      clear hr hS hx
      go_wp2
      go_roundw
      case rel => exact ⟨k + 1, by omega, by go_num, hinv.set hlt _ (by rw [hashF_div, Hx.out])⟩
      case measure => simp [intOf]; omega
    · have h8 : k = 32 := by omega
      rw [h8] at hinv
      clear h8 hk
      obtain ⟨S, hS, hr⟩ := hinv.row
      obtain ⟨Z, hZ, hz⟩ := hinv.res
      have low := hinv.low
      have hS' : S = u8s (hashL l) := hS.whole (hashL_length l) (fun j hj => hashL_getD l j hj)
      subst hS'
      have hs35 : (Tryd.prog.info? 35).map (·.size) = some (u8s (hashL l)).size := by rw [u8s_size, hashL_length]; exact info35
      have hzz : Z.size = (u8s (hashL l)).size := by rw [u8s_size, hashL_length, hZ]
      have Hs35 := Lib.hid hs35
      have Hzz := Lib.hid hzz
      have Hr := Lib.hid hr
      have Hz := Lib.hid hz
      clear hs35 hzz hr hz hinv hS hZ
      go_wp2_with (first | (refine wpList_load_row rfl 35 (.tmp 3) rfl (w.heap.size + 1 + 1) rfl 35 (u8s (hashL l)) (0, 0) _ Hr.out Tryd.underlying35 rfl Hs35.out ?_) | (refine wpList_store_row rfl 35 (.tmp 2) (.tmp 22) rfl (w.heap.size + 1) (u8s (hashL l)) rfl rfl 35 Z Hz.out Hs35.out Hzz.out (u8s_one _) ?_))
      exact bodyPost_ret (v := .agg (u8s (hashL l))) (results_cell_row rfl _ _ (w.heap.size + 1) 35 _ (0, 0) _ rfl (setRow_heap wr _ _ _ _ _ Hz.out) Tryd.underlying35 rfl Hs35.out) rfl ⟨rfl, below_setRow low (by omega) _⟩
end Go.Proofs.YtkgflcainlmdhaaDoor
