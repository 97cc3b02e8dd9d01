/- DERIVED. The contracts of sha.Start and sha.hashOf: the first state; a state as a digest. -/
import Derived.Test.YtblgblhoolpmiaaDoorShaMix
import Derived.Deep.MidRow
namespace Go.Proofs.YtblgblhoolpmiaaDoor
open Go.RowKit
/-- H0 to H7. -/
def S0 : W8 := ⟨1779033703, 3144134277, 1013904242, 2773480762, 1359893119, 2600822924, 528734635, 1541459225⟩
theorem start_range {w : World} (hL : Laid w) : w.rangeAt 0 0 (u32s S0.list).toList := fun j v hv => by
  have hj : j < 8 := by
    have := (List.getElem?_eq_some_iff.1 hv).1
    simpa [u32s_size, W8.list] using this
  rw [Nat.zero_add, hL.s j hj, ← hv]
  have : (u32s S0.list).toList[j]? = (u32s S0.list)[j]? := by simp
  rw [this, u32s_get _ _ (by simpa [W8.list] using hj)]
  rfl
theorem info23 : (Tryd.prog.info? 23).map (·.size) = some 8 := by kernel_rfl
theorem info35 : (Tryd.prog.info? 35).map (·.size) = some 32 := by kernel_rfl
set_option maxRecDepth 100000 in
set_option maxHeartbeats 1000000 in
theorem start_any (w : World) (hL : Laid w) :
    Calls Tryd.prog 8 #[] w fun e' w' => e' = .returned (.agg (u32s S0.list)) ∧ Below w.heap.size w w' := by
  have hr := Lib.hid (start_range hL)
  clear hL
  obtain ⟨L, hL⟩ : ∃ L, L = S0.list := ⟨_, rfl⟩
  have hl : L.length = 8 := by rw [hL]; rfl
  rw [← hL] at hr
  have Hl := Lib.hid hl
  have Hi : Hid ((Tryd.prog.info? 23).map (·.size) = some (u32s L).toList.length) := by show _ = _; rw [Array.length_toList, u32s_size, hl]; exact info23
  have HL := Lib.hid hL
  clear hl hL
  go_enter Tryd.func8, Tryd.ntmps8
  go_wp2_with (first
    | (refine wpList_load_mid rfl 23 (.global 0) rfl 0 0 rfl (u32s L).toList _ (World.rangeAt_alloc hr.out _) Tryd.underlying23 rfl Hi.out ?_)
    | (refine wpList_store_row rfl 24 (.tmp 0) (.tmp 1) rfl w.heap.size (u32s L) rfl rfl 24 _ (Go.heap_alloc_new _ _) (by rw [u32s_size, Hl.out]; exact info24) (by rw [u32s_size, Hl.out]; rfl) (u32s_one _) ?_; rw [World.setRow_alloc_new]))
  rw [HL.out]
  exact bodyPost_ret (v := .agg (u32s S0.list)) (results_cell_row rfl _ _ w.heap.size 24 _ (0, 0) _ rfl (Go.heap_alloc_new w _) Tryd.underlying24 rfl info24) rfl ⟨rfl, (Below.refl _ _).alloc (Nat.le_refl _) _⟩
/-- the bytes of a word. -/
def bytes4 (x : Int) : List Int := [x / 16777216 % 256, x / 65536 % 256, x / 256 % 256, x % 256]
/-- the digest of the words l 0 .. l 7, byte by byte. -/
def hashF (l : List Int) (j : Nat) : Int := (bytes4 (l.getD (j / 4) 0)).getD (j % 4) 0
def hashL (l : List Int) : List Int := (List.range 32).map (hashF l)
theorem hashL_length (l : List Int) : (hashL l).length = 32 := by simp [hashL]
theorem hashF_at (l : List Int) (k : Nat) : hashF l (4 * k) = l.getD k 0 / 16777216 % 256 ∧ hashF l (4 * k + 1) = l.getD k 0 / 65536 % 256 ∧ hashF l (4 * k + 2) = l.getD k 0 / 256 % 256 ∧ hashF l (4 * k + 3) = l.getD k 0 % 256 := by
  unfold hashF
  rw [show 4 * k / 4 = k by omega, show 4 * k % 4 = 0 by omega, show (4 * k + 1) / 4 = k by omega, show (4 * k + 1) % 4 = 1 by omega, show (4 * k + 2) / 4 = k by omega, show (4 * k + 2) % 4 = 2 by omega, show (4 * k + 3) / 4 = k by omega, show (4 * k + 3) % 4 = 3 by omega]
  exact ⟨rfl, rfl, rfl, rfl⟩
theorem hashL_getD (l : List Int) (j : Nat) (h : j < 32) : hashF l j = (hashL l).getD j 0 := by
  simp [hashL, h]
attribute [irreducible] hashF
theorem index24 (l : List Int) (hl : l.length = 8) (k : Nat) (hk : k < 8) (w : World) : (Instr.index 24 (.agg (u32s l)) (.int .i64 (k : Int))).run Tryd.prog w = .ok (.int .u32 (l.getD k 0)) w := by
  have hu : Tryd.prog.underlying 24 = some (.array 8 22) := by kernel_rfl
  have ha : ∀ w', (isAgg 22).run Tryd.prog w' = .ok false w' := fun _ => by kernel_rfl
  have hs : ∀ w', (sizeOf 22).run Tryd.prog w' = .ok 1 w' := fun _ => by kernel_rfl
  simp [Instr.index, asIntOf, run_underlying hu, part, ha, hs, u32s_get l k (by omega)]
  exact fun h => absurd hk (by omega)
/-- what the loop of hashOf keeps. -/
structure HInv (l : List Int) (N k : Nat) (w wr : World) : Prop where
  res : ∃ Z : Array Value, Z.size = 32 ∧ wr.heap[N + 1]? = some (.cells Z 35 (0, 0))
  row : ∃ S : Array Value, HoldsB S 32 (4 * k) (hashF l) ∧ wr.heap[N + 1 + 1]? = some (.cells S 35 (0, 0))
  low : Below N w wr
theorem HInv.set {l : List Int} {N k : Nat} {w wr : World} (h : HInv l N k w wr) (hk : k < 8) (x : Int) (hx : x = l.getD k 0) :
    HInv l N (k + 1) w ((((wr.setCell ⟨N + 1 + 1, 4 * k, none⟩ (.int .u8 (x / 16777216 % 256))).setCell ⟨N + 1 + 1, 4 * k + 1, none⟩ (.int .u8 (x / 65536 % 256))).setCell ⟨N + 1 + 1, 4 * k + 2, none⟩ (.int .u8 (x / 256 % 256))).setCell ⟨N + 1 + 1, 4 * k + 3, none⟩ (.int .u8 (x % 256))) := by
  obtain ⟨S, hS, hr⟩ := h.row
  obtain ⟨Z, hZ, hz⟩ := h.res
  have hf := hashF_at l k
  rw [← hx] at hf
  refine ⟨⟨Z, hZ, ?_⟩, ⟨_, (((hS.set (by omega) _ hf.1.symm).set (by omega) _ hf.2.1.symm).set (by omega) _ hf.2.2.1.symm).set (by omega) _ hf.2.2.2.symm, ?_⟩, (((h.low.setCell (by simp; omega) _).setCell (by simp; omega) _).setCell (by simp; omega) _).setCell (by simp; omega) _⟩
  · rw [heap_setCell_other _ _ _ _ (by simp), heap_setCell_other _ _ _ _ (by simp), heap_setCell_other _ _ _ _ (by simp), heap_setCell_other _ _ _ _ (by simp)]; exact hz
  · exact heap_setCell_same _ _ _ _ _ _ (heap_setCell_same _ _ _ _ _ _ (heap_setCell_same _ _ _ _ _ _ (heap_setCell_same _ _ _ _ _ _ hr)))
set_option maxRecDepth 100000 in
set_option maxHeartbeats 1000000 in
theorem hashOf_any (l : List Int) (hl : l.length = 8) (w : World) :
    Calls Tryd.prog 52 #[.agg (u32s l)] w fun e' w' => e' = .returned (.agg (u8s (hashL l))) ∧ Below w.heap.size w w' := by
  have Hl := Lib.hid hl
  have Hsz : Hid ((Tryd.prog.info? 24).map (·.size) = some (u32s l).size) := by show _ = _; rw [u32s_size, hl]; exact info24
  clear hl
  go_enter Tryd.func52, Tryd.ntmps52
  have h3 := Lib.hid (three_new w (.cells (u32s l) 24))
  go_wp2_with (refine wpList_load_row rfl 24 (.tmp 1) rfl w.heap.size rfl 24 (u32s l) (0, 0) _ (h3.out _ _).1 Tryd.underlying24 rfl Hsz.out ?_)
  go_loopw [7] (fun i wr => ∃ k : Nat, k ≤ 8 ∧ i = .int .i64 k ∧ HInv l w.heap.size k w wr) (fun i _ => 8 - (intOf i).toNat)
  case atStart => exact ⟨0, Nat.zero_le _, rfl, ⟨_, rfl, (h3.out _ _).2.1⟩, ⟨_, HoldsB.nil _ _ _ rfl, (h3.out _ _).2.2⟩, below3 _ _ _ _⟩
  case round =>
    obtain ⟨k, hk, rfl, hinv⟩ := hrel
    clear h3
    by_cases hlt : k < 8
    · obtain ⟨S, hS, hr⟩ := hinv.row
      have hv : ∀ j, j < 32 → (wr.cell? ⟨w.heap.size + 1 + 1, j, none⟩).isSome = true := fun j hj => by
        rw [cell_row hr, Array.getElem?_eq_getElem (by rw [hS.1]; omega)]; rfl
      obtain ⟨v0, hv0⟩ := Option.isSome_iff_exists.1 (hv (4 * k) (by omega))
      obtain ⟨v1, hv1⟩ := Option.isSome_iff_exists.1 (hv (4 * k + 1) (by omega))
      obtain ⟨v2, hv2⟩ := Option.isSome_iff_exists.1 (hv (4 * k + 2) (by omega))
      obtain ⟨v3, hv3⟩ := Option.isSome_iff_exists.1 (hv (4 * k + 3) (by omega))
      have f0 := free_row hr (4 * k)
      have f1 := free_row hr (4 * k + 1)
      have f2 := free_row hr (4 * k + 2)
      have f3 := free_row hr (4 * k + 3)
      obtain ⟨x, hx⟩ : ∃ x, x = l.getD k 0 := ⟨_, rfl⟩
      have hix := index24 l Hl.out k hlt wr
      rw [← hx] at hix
      have Hx := Lib.hid hx
      clear hr hS hv hx
      go_wp2
      go_roundw
      case rel => exact ⟨k + 1, by omega, by go_num, hinv.set hlt x Hx.out⟩
      case measure => simp [intOf]; omega
    · have h8 : k = 8 := by omega
      rw [h8] at hinv
      clear h8 hk
      obtain ⟨S, hS, hr⟩ := hinv.row
      obtain ⟨Z, hZ, hz⟩ := hinv.res
      have low := hinv.low
      have hS' : S = u8s (hashL l) := hS.whole (hashL_length l) (fun j hj => hashL_getD l j hj)
      subst hS'
      have hs35 : (Tryd.prog.info? 35).map (·.size) = some (u8s (hashL l)).size := by rw [u8s_size, hashL_length]; exact info35
      have hzz : Z.size = (u8s (hashL l)).size := by rw [u8s_size, hashL_length, hZ]
      have Hs35 := Lib.hid hs35
      have Hzz := Lib.hid hzz
      have Hr := Lib.hid hr
      have Hz := Lib.hid hz
      clear hs35 hzz hr hz hinv hS hZ
      go_wp2_with (first | (refine wpList_load_row rfl 35 (.tmp 3) rfl (w.heap.size + 1 + 1) rfl 35 (u8s (hashL l)) (0, 0) _ Hr.out Tryd.underlying35 rfl Hs35.out ?_) | (refine wpList_store_row rfl 35 (.tmp 2) (.tmp 38) rfl (w.heap.size + 1) (u8s (hashL l)) rfl rfl 35 Z Hz.out Hs35.out Hzz.out (u8s_one _) ?_))
      exact bodyPost_ret (v := .agg (u8s (hashL l))) (results_cell_row rfl _ _ (w.heap.size + 1) 35 _ (0, 0) _ rfl (setRow_heap wr _ _ _ _ _ Hz.out) Tryd.underlying35 rfl Hs35.out) rfl ⟨rfl, below_setRow low (by omega) _⟩
end Go.Proofs.YtblgblhoolpmiaaDoor
