/- DERIVED. The contract of the statements' helper given: the key of the examples. -/
import Derived.Test.YtdkfofnkacmliaaDoorChaStreamNo
namespace Go.Proofs.YtdkfofnkacmliaaDoor.Cha
open Go.RowKit
def givenF (j : Nat) : Int := j
def givenL : List Int := (List.range 32).map givenF
theorem givenL_length : givenL.length = 32 := by simp [givenL]
theorem givenL_in : InB givenL := by
  intro j
  by_cases h : j < 32
  · have : givenL.getD j 0 = (j : Nat) := by simp [givenL, givenF, h]
    rw [this]; omega
  · rw [getD_out _ _ (by rw [givenL_length]; omega)]; omega
structure GInv (B k : Nat) (w wr : World) : Prop where
  res : ∃ Z : List Int, Z.length = 32 ∧ wr.heap[B]? = some (.cells (u8s Z) 25 (0, 0))
  row : ∃ C : Array Value, HoldsB C 32 k givenF ∧ wr.heap[B + 1]? = some (.cells C 25 (0, 0))
  low : Below B w wr
theorem GInv.set {B k : Nat} {w wr : World} (h : GInv B k w wr) (hk : k < 32) : GInv B (k + 1) w (wr.setCell ⟨B + 1, k, none⟩ (.int .u8 (k : Nat))) := by
  obtain ⟨Z, hZ, hz⟩ := h.res
  obtain ⟨C, hC, hr⟩ := h.row
  exact ⟨⟨Z, hZ, by rw [heap_setCell_other _ _ _ _ (by simp)]; exact hz⟩, ⟨_, hC.set hk _ rfl, heap_setCell_same _ _ _ _ _ _ hr⟩, h.low.setCell (by simp) _⟩
theorem infoH : (Tryd.prog.info? 25).map (·.size) = some 32 := by kernel_rfl
set_option maxRecDepth 100000 in
set_option maxHeartbeats 1000000 in
theorem given_any (w : World) : Calls Tryd.prog 14 #[] w fun e w' => e = .returned (.agg (u8s givenL)) ∧ Below w.heap.size w w' := by
  go_enter Tryd.func14, Tryd.ntmps14
  go_wp2
  go_loopw [2] (fun i wr => ∃ k : Nat, k ≤ 32 ∧ i = .int .i64 k ∧ GInv w.heap.size k w wr) (fun i _ => 32 - (intOf i).toNat)
  case atStart =>
    have h2 := two_new w
    exact ⟨0, Nat.zero_le _, rfl, ⟨List.replicate 32 0, rfl, (h2 _ _).1⟩, ⟨_, HoldsB.nil _ _ _ rfl, (h2 _ _).2⟩, ((Below.refl _ _).alloc (Nat.le_refl _) _).alloc (by simp) _⟩
  case round =>
    obtain ⟨k, hk, rfl, hinv⟩ := hrel
    by_cases hlt : k < 32
    · obtain ⟨C, hC, hr⟩ := hinv.row
      obtain ⟨v, hv⟩ : ∃ v, wr.cell? ⟨w.heap.size + 1, k, none⟩ = some v := by rw [cell_row hr]; exact ⟨_, Array.getElem?_eq_getElem (by rw [hC.1]; exact hlt)⟩
      have hfz := free_row hr k
      have hlt' : (k : Int) < 32 := by omega
      clear hr hC
      go_wp2
      go_roundw
      case rel => exact ⟨k + 1, by omega, by go_num, hinv.set hlt⟩
      case measure => simp [intOf]; omega
    · have h32 : k = 32 := by omega
      rw [h32] at hinv
      have H32 := Lib.hid h32
      clear h32 hk
      obtain ⟨C, hC, hr⟩ := hinv.row
      obtain ⟨Z, hZ, hz⟩ := hinv.res
      have hCe : C = u8s givenL := hC.whole givenL_length (fun j hj => by simp [givenL, hj])
      rw [hCe] at hr
      have hrow := setRow_heap wr _ _ (u8s givenL) _ _ hz
      have hlow : Below w.heap.size w (wr.setRow w.heap.size (u8s givenL)) := below_setRow hinv.low (Nat.le_refl _) _
      have Hsz : Hid ((Tryd.prog.info? 25).map (·.size) = some (u8s givenL).size) := by show _ = _; rw [u8s_size, givenL_length]; exact infoH
      have Hzz : Hid ((u8s Z).size = (u8s givenL).size) := by show _ = _; rw [u8s_size, u8s_size, givenL_length, hZ]
      have Hr := Lib.hid hr
      have Hz := Lib.hid hz
      have Hrow := Lib.hid hrow
      clear hCe hC hr hz hrow hinv hZ
      go_wp2_with (first | (with_reducible refine wpList_load_row rfl 25 (.tmp 1) rfl (w.heap.size + 1) rfl 25 (u8s givenL) (0, 0) _ Hr.out Tryd.underlying25 rfl Hsz.out ?_) | (with_reducible refine wpList_store_row rfl 25 (.tmp 0) (.tmp 11) rfl w.heap.size (u8s givenL) rfl rfl 25 (u8s Z) Hz.out Hsz.out Hzz.out (u8s_one _) ?_))
      exact bodyPost_ret (v := .agg (u8s givenL)) (results_cell_row rfl _ _ w.heap.size 25 _ (0, 0) _ rfl Hrow.out Tryd.underlying25 rfl Hsz.out) rfl ⟨rfl, hlow⟩
def noN : List Int := [0, 0, 0, 9, 0, 0, 0, 74, 0, 0, 0, 0]
def wantL : List Int := [16, 241, 231, 228, 209, 59, 89, 21, 80, 15, 221, 31, 163, 32, 113, 196]
theorem ex_block : (blockL givenL 1 noN).take 16 = wantL := by kernel_rfl
end Go.Proofs.YtdkfofnkacmliaaDoor.Cha
