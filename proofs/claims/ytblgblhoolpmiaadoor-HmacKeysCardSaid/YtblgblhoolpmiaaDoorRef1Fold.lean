/- DERIVED. The contract of the reference's told of layer 1: a state's words as a digest. -/
import Derived.Test.YtblgblhoolpmiaaDoorRef1Primes
import Derived.Test.YtblgblhoolpmiaaDoorShaStart
namespace Go.Proofs.YtblgblhoolpmiaaDoor
open Go.RowKit
theorem hashF_at2 (l : List Int) (k : Nat) : hashF l k = l.getD (k / 4) 0 / 2 ^ (24 - 8 * (k % 4)) % 256 := by
  have hf := hashF_at l (k / 4)
  have : k % 4 = 0 ∨ k % 4 = 1 ∨ k % 4 = 2 ∨ k % 4 = 3 := by omega
  rcases this with e | e | e | e
  · have h2 : hashF l k = hashF l (4 * (k / 4)) := by congr 1; omega
    rw [h2, hf.1, e]; rfl
  · have h2 : hashF l k = hashF l (4 * (k / 4) + 1) := by congr 1; omega
    rw [h2, hf.2.1, e]; rfl
  · have h2 : hashF l k = hashF l (4 * (k / 4) + 2) := by congr 1; omega
    rw [h2, hf.2.2.1, e]; rfl
  · have h2 : hashF l k = hashF l (4 * (k / 4) + 3) := by congr 1; omega
    rw [h2, hf.2.2.2, e]
    simp
/-- what the loop of told keeps. -/
structure ToI (l : List Int) (N k : Nat) (w wr : World) : Prop where
  src : wr.heap[N]? = some (.cells (u32s l) 23 (0, 0))
  res : ∃ Z : Array Value, Z.size = 32 ∧ wr.heap[N + 1]? = some (.cells Z 35 (0, 0))
  row : ∃ S : Array Value, HoldsB S 32 k (hashF l) ∧ wr.heap[N + 1 + 1]? = some (.cells S 35 (0, 0))
  low : Below N w wr
theorem ToI.set {l : List Int} {N k : Nat} {w wr : World} (h : ToI l N k w wr) (hk : k < 32) (v : Int) (hv : v = hashF l k) : ToI l N (k + 1) w (wr.setCell ⟨N + 1 + 1, k, none⟩ (.int .u8 v)) := by
  obtain ⟨S, hS, hr⟩ := h.row
  obtain ⟨Z, hZ, hz⟩ := h.res
  refine ⟨?_, ⟨Z, hZ, ?_⟩, ⟨_, hS.set hk v hv, heap_setCell_same _ _ _ _ _ _ hr⟩, h.low.setCell (by simp; omega) _⟩
  · rw [heap_setCell_other _ _ _ _ (by simp; omega)]; exact h.src
  · rw [heap_setCell_other _ _ _ _ (by simp)]; exact hz
set_option maxRecDepth 100000 in
set_option maxHeartbeats 1000000 in
theorem rtold_any (l : List Int) (hl : l.length = 8) (w : World) :
    Calls Tryd.prog 35 #[.agg (u32s l)] w fun e' w' => e' = .returned (.agg (u8s (hashL l))) ∧ Below w.heap.size w w' := by
  have Hl := Lib.hid hl
  clear hl
  go_enter Tryd.func35, Tryd.ntmps35
  have h3 := Lib.hid (three_new w (.cells (u32s l) 23))
  go_wp2
  go_loopw [4] (fun i wr => ∃ k : Nat, k ≤ 32 ∧ i = .int .i64 k ∧ Hid (ToI l w.heap.size k w wr)) (fun i _ => 32 - (intOf i).toNat)
  case atStart => exact ⟨0, Nat.zero_le _, rfl, (h3.out _ _).1, ⟨_, rfl, (h3.out _ _).2.1⟩, ⟨_, HoldsB.nil _ _ _ rfl, (h3.out _ _).2.2⟩, below3 _ _ _ _⟩
  case round =>
    obtain ⟨k, hk, rfl, hinv⟩ := hrel
    clear h3
    by_cases hlt : k < 32
    · have hltI : (k : Int) < 32 := by omega
      obtain ⟨S, hS, hr⟩ := hinv.out.row
      obtain ⟨v, hv⟩ : ∃ v, wr.cell? ⟨w.heap.size + 1 + 1, k, none⟩ = some v := by
        rw [cell_row hr]; exact ⟨_, Array.getElem?_eq_getElem (by rw [hS.1]; omega)⟩
      have hfz := free_row hr k
      obtain ⟨x, hx⟩ : ∃ x, x = l.getD (k / 4) 0 := ⟨_, rfl⟩
      have cell : wr.cell? ⟨w.heap.size, k / 4, none⟩ = some (.int .u32 x) := by rw [hx]; exact row32_cell hinv.out.src _ (by rw [Hl.out]; omega)
      have hf := hashF_at2 l k
      rw [← hx] at hf
      have Hf := Lib.hid hf
      have q1 : IntKind.i64.wrap ((k : Int).tdiv 4) = ((k / 4 : Nat) : Int) := by rw [show (k : Int).tdiv 4 = ((k / 4 : Nat) : Int) from rfl]; exact IntWalk.i64_in _ (by omega)
      have q8 : (k : Int).tmod 4 = (k : Int) % 4 := rfl
      have q5 : 24 - 8 * ((k : Int) % 4) < 32 := by omega
      have q6 : 0 ≤ 24 - 8 * ((k : Int) % 4) := by omega
      have q7 : (24 - 8 * ((k : Int) % 4)).toNat = 24 - 8 * (k % 4) := by omega
      have q9 : IntKind.u64.wrap (24 - 8 * ((k : Int) % 4)) = 24 - 8 * ((k : Int) % 4) := by rw [show IntKind.u64.wrap (24 - 8 * ((k : Int) % 4)) = (24 - 8 * ((k : Int) % 4)) % 18446744073709551616 by simp [IntKind.wrap, IntKind.bits, IntKind.signed]]; omega
      clear hr hS hx hf
      go_wp2
      go_roundw
      case rel => exact ⟨k + 1, by omega, by go_num, hinv.out.set hlt _ Hf.out.symm⟩
      case measure => simp [intOf]; omega
    · obtain rfl : k = 32 := by omega
      obtain ⟨S, hS, hr⟩ := hinv.out.row
      obtain ⟨Z, hZ, hz⟩ := hinv.out.res
      have low := hinv.out.low
      have hS' : S = u8s (hashL l) := hS.whole (hashL_length l) (fun j hj => hashL_getD l j hj)
      subst hS'
      have hs35 : (Tryd.prog.info? 35).map (·.size) = some (u8s (hashL l)).size := by rw [u8s_size, hashL_length]; exact info35
      have hzz : Z.size = (u8s (hashL l)).size := by rw [u8s_size, hashL_length, hZ]
      have Hs35 := Lib.hid hs35
      have Hzz := Lib.hid hzz
      have Hr := Lib.hid hr
      have Hz := Lib.hid hz
      clear hs35 hzz hr hz hinv hS hZ
      go_wp2_with (first | (refine wpList_load_row rfl 35 (.tmp 3) rfl (w.heap.size + 1 + 1) rfl 35 (u8s (hashL l)) (0, 0) _ Hr.out Tryd.underlying35 rfl Hs35.out ?_) | (refine wpList_store_row rfl 35 (.tmp 2) (.tmp 22) rfl (w.heap.size + 1) (u8s (hashL l)) rfl rfl 35 Z Hz.out Hs35.out Hzz.out (u8s_one _) ?_))
      exact bodyPost_ret (v := .agg (u8s (hashL l))) (results_cell_row rfl _ _ (w.heap.size + 1) 35 _ (0, 0) _ rfl (setRow_heap wr _ _ _ _ _ Hz.out) Tryd.underlying35 rfl Hs35.out) rfl ⟨rfl, below_setRow low (by omega) _⟩
end Go.Proofs.YtblgblhoolpmiaaDoor
