/- DERIVED. The contract of hmac.masked: a block, each byte xored. -/
import Derived.Test.YtblgblhoolpmiaaDoorHmacBlock
namespace Go.Proofs.YtblgblhoolpmiaaDoor
open Go.RowKit
/-- what the loop of masked keeps. -/
structure XInv (l : List Int) (m : Int) (N k : Nat) (w wr : World) : Prop where
  row : ∃ C : Array Value, C.size = 64 ∧ wr.heap[N]? = some (.cells C 67 (0, 0)) ∧ ∀ j, j < 64 → C[j]? = some (.int .u8 (if j < k then bits .xor .u8 (l.getD j 0) m else l.getD j 0))
  res : wr.heap[N + 1]? = some (.cells zero64 67 (0, 0))
  low : Below N w wr
theorem XInv.set {l : List Int} {m : Int} {N k : Nat} {w wr : World} (h : XInv l m N k w wr) (hk : k < 64) : XInv l m N (k + 1) w (wr.setCell ⟨N, k, none⟩ (.int .u8 (bits .xor .u8 (l.getD k 0) m))) := by
  obtain ⟨C, hC, hr, hc⟩ := h.row
  refine ⟨⟨_, ?_, heap_setCell_same _ _ _ _ _ _ hr, ?_⟩, ?_, h.low.setCell (by simp) _⟩
  · simp [hC]
  · intro j hj
    rw [Array.getElem?_setIfInBounds]
    by_cases e : k = j
    · subst e; rw [if_pos rfl, if_pos (by omega), if_pos (by omega)]
    · rw [if_neg e, hc j hj]
      by_cases e2 : j < k
      · rw [if_pos e2, if_pos (by omega)]
      · rw [if_neg e2, if_neg (by omega)]
  · rw [heap_setCell_other _ _ _ _ (by simp)]; exact h.res
theorem XInv.whole {l : List Int} {m : Int} {N : Nat} {w wr : World} (h : XInv l m N 64 w wr) (hl : l.length = 64) : wr.heap[N]? = some (.cells (u8s (xorL m l)) 67 (0, 0)) := by
  obtain ⟨C, hC, hr, hc⟩ := h.row
  have : C = u8s (xorL m l) := by
    apply Array.ext_getElem?
    intro j
    by_cases hj : j < 64
    · rw [hc j hj, if_pos hj, u8s_get _ _ (by rw [xorL_length]; omega)]
      simp [xorL, List.getD_eq_getElem?_getD, hl, hj]
    · rw [Array.getElem?_eq_none (by omega), Array.getElem?_eq_none (by rw [u8s_size, xorL_length]; omega)]
  rw [hr, this]
set_option maxRecDepth 100000 in
set_option maxHeartbeats 1000000 in
theorem masked_any (l : List Int) (m : Int) (hl : l.length = 64) (w : World) :
    Calls Tryd.prog 39 #[.agg (u8s l), .int .u8 m] w fun e w' => e = .returned (.agg (u8s (xorL m l))) ∧ Below w.heap.size w w' := by
  have Hl := Lib.hid hl
  have h2 := Lib.hid (two_new w (.cells (u8s l) 67) (.cells zero64 67))
  have b2 : Below w.heap.size w ((w.alloc (.cells (u8s l) 67)).alloc (.cells zero64 67)) := ((Below.refl _ _).alloc (Nat.le_refl _) _).alloc (by simp) _
  have B2 := Lib.hid b2
  have hi0 : XInv l m w.heap.size 0 w ((w.alloc (.cells (u8s l) 67)).alloc (.cells zero64 67)) :=
    ⟨⟨u8s l, by rw [u8s_size, hl], h2.out.1, fun j hj => by rw [u8s_get _ _ (by omega), if_neg (Nat.not_lt_zero _)]⟩, h2.out.2, b2⟩
  have Hi0 := Lib.hid hi0
  unfold zero64 at Hi0
  clear hl h2 b2 B2 hi0
  go_enter Tryd.func39, Tryd.ntmps39
  go_wp2
  go_loopw [6] (fun i wr => ∃ k : Nat, k ≤ 64 ∧ i = .int .i64 k ∧ XInv l m w.heap.size k w wr) (fun i _ => 64 - (intOf i).toNat)
  case atStart => exact ⟨0, Nat.zero_le _, rfl, Hi0.out⟩
  case round =>
    obtain ⟨k, hk, rfl, hinv⟩ := hrel
    clear Hi0
    by_cases hlt : k < 64
    · obtain ⟨C, hC, hr, hc⟩ := hinv.row
      have c1 : wr.cell? ⟨w.heap.size, k, none⟩ = some (.int .u8 (l.getD k 0)) := by rw [cell_row hr, hc k hlt, if_neg (Nat.lt_irrefl _)]
      have f1 := free_row hr k
      obtain ⟨x, hx⟩ : ∃ x, x = l.getD k 0 := ⟨_, rfl⟩
      rw [← hx] at c1
      have Hx := Lib.hid hx
      have hlt' : (k : Int) < 64 := by omega
      clear hC hr hc hx
      go_wp2
      go_roundw
      case rel => exact ⟨k + 1, by omega, by go_num, by rw [Hx.out]; exact hinv.set hlt⟩
      case measure => simp [intOf]; omega
    · have h64 : k = 64 := by omega
      rw [h64] at hinv
      have hr := hinv.whole Hl.out
      have hz := hinv.res
      have Hr := Lib.hid hr
      have Hz := Lib.hid hz
      have Low := Lib.hid hinv.low
      have Hi : Hid ((Tryd.prog.info? 67).map (·.size) = some (u8s (xorL m l)).size) := by show _ = _; rw [u8s_size, xorL_length, Hl.out]; exact info79
      clear hr hz hinv h64 hk
      go_wp2_with (first
        | (refine wpList_load_row rfl 67 (.tmp 2) rfl w.heap.size (by rfl) 67 (u8s (xorL m l)) (0, 0) _ Hr.out Tryd.underlying67 rfl Hi.out ?_)
        | (refine wpList_store_row rfl 67 (.tmp 4) (.tmp 16) rfl (w.heap.size + 1) (u8s (xorL m l)) (by rfl) (by rfl) 67 _ Hz.out Hi.out (by rw [u8s_size, xorL_length, Hl.out]; rfl) (u8s_one _) ?_))
      exact bodyPost_ret (v := .agg (u8s (xorL m l))) (results_cell_row rfl _ _ (w.heap.size + 1) 67 _ (0, 0) _ rfl (setRow_heap wr _ _ _ _ _ Hz.out) Tryd.underlying67 rfl Hi.out) rfl ⟨rfl, below_setRow Low.out (by omega) _⟩
end Go.Proofs.YtblgblhoolpmiaaDoor
