/- DERIVED. The contract of hmac.blockOf: a key's block. -/
import Derived.Test.YtblgblhoolpmiaaDoorHmacSpec
namespace Go.Proofs.YtblgblhoolpmiaaDoor
open Go.RowKit
theorem info79 : (Tryd.prog.info? 67).map (·.size) = some 64 := by kernel_rfl
/-- the copied key, as the block. -/
structure KInv (k : List Int) (N g : Nat) (w wr : World) : Prop where
  row : wr.heap[g]? = some (.cells (u8s (pad64 k)) 67 (0, 0))
  res : wr.heap[N]? = some (.cells zero64 67 (0, 0))
  low : Below N w wr
set_option maxRecDepth 100000 in
set_option maxHeartbeats 1000000 in
theorem block_short (K : List Int) (A : Option Addr) (c n : Nat) (w : World) (hn : K.length = n) (hB : Byt w A c K) (hs : n ≤ 64) :
    Calls Tryd.prog 38 #[.slice A n c] w fun e w' => e = .returned (.agg (u8s (pad64 K))) ∧ Below w.heap.size w w' := by
  have hs' : ¬ (64 : Int) < n := by omega
  have h2 := two_new w (.cells zero64 67) (.cells zero64 67)
  have b1 : Below w.heap.size w (w.alloc (.cells zero64 67)) := (Below.refl _ _).alloc (Nat.le_refl _) _
  have b2 : Below (w.heap.size + 1) (w.alloc (.cells zero64 67)) ((w.alloc (.cells zero64 67)).alloc (.cells zero64 67)) := (Below.refl _ _).alloc (by simp) _
  have hmin : (vals K).length = Nat.min n 64 := by rw [vals_length, hn]; exact (Nat.min_eq_left hs).symm
  have hpos : 0 < (vals K).length → ∃ ad, A = some ad ∧ ∀ j v, (vals K)[j]? = some v → ((w.alloc (.cells zero64 67)).alloc (.cells zero64 67)).cell? (ad.add j) = some v := by
    intro h
    rw [vals_length] at h
    obtain ⟨g, off, rfl, hg, hc⟩ := hB.2.2 h
    exact ⟨_, rfl, hB.cells (fun p hp => by rw [World.cell?_alloc_lt _ _ _ (by simp; omega), World.cell?_alloc_lt _ _ _ hp]) _ rfl⟩
  have Hmin := Lib.hid hmin
  have Hpos := Lib.hid hpos
  have hrow : ((w.alloc (.cells zero64 67)).alloc (.cells zero64 67)).heap[w.heap.size + 1]? = some (.cells (vals (List.replicate 64 0)).toArray 67 (0, 0)) := by
    rw [h2.2, zero64_eq]; rfl
  have Hrow := Lib.hid hrow
  have H1 := Lib.hid h2.1
  have B1 := Lib.hid b1
  have B2 := Lib.hid b2
  have Hn := Lib.hid hn
  have Hi : Hid ((Tryd.prog.info? 67).map (·.size) = some (u8s (pad64 K)).size) := by show _ = _; rw [u8s_size, pad64_length (by omega)]; exact info79
  unfold zero64 at Hpos Hrow H1 B1 B2
  clear h2 b1 b2 hmin hpos hrow hn hB
  go_enter Tryd.func38, Tryd.ntmps38
  go_wp2_with (first
    | (refine wpList_copy_splice rfl (.tmp 11) (.tmp 12) 26 26 rfl 5 Tryd.underlying26 info26 (some ⟨w.heap.size + 1, 0, none⟩) A 64 64 n c (by rfl) (by rfl) (w.heap.size + 1) 0 (vals (List.replicate 64 0)) 67 Hrow.out (vals K) Hmin.out (fun h => ⟨rfl, Hpos.out h⟩) (by rw [Hmin.out, vals_length, List.length_replicate, Nat.zero_add]; exact Nat.min_le_right _ _) (vals_one _) (w.heap.size + 1) _ B2.out (Nat.le_refl _) ?_; intro w2 h2 low2; have h3 := h2.out; rw [splice_key K] at h3; have H3 := Lib.hid h3; have H0 := Lib.hid ((low2.block _ (Nat.lt_succ_self _)).trans (Go.heap_alloc_new w _)); have Low := Lib.hid (B1.out.trans (low2.mono (Nat.le_succ _))); clear h2 h3 low2)
    | (refine wpList_load_row rfl 67 (.tmp 4) rfl (w.heap.size + 1) (by rfl) 67 (u8s (pad64 K)) (0, 0) _ H3.out Tryd.underlying67 rfl Hi.out ?_)
    | (refine wpList_store_row rfl 67 (.tmp 2) (.tmp 14) rfl w.heap.size (u8s (pad64 K)) (by rfl) (by rfl) 67 _ H0.out Hi.out (by rw [u8s_size, pad64_length (by rw [Hn.out]; exact hs)]; rfl) (u8s_one _) ?_))
  exact bodyPost_ret (v := .agg (u8s (pad64 K))) (results_cell_row rfl _ _ w.heap.size 67 _ (0, 0) _ rfl (setRow_heap w2 _ _ _ _ _ H0.out) Tryd.underlying67 rfl Hi.out) rfl ⟨rfl, below_setRow Low.out (Nat.le_refl _) _⟩
theorem long_row (w : World) (X : List Int) : ((w.alloc (.cells (u8s X) 35)).alloc (.cells zero64 67)).heap[w.heap.size + 1]? = some (.cells (vals (List.replicate 64 0)).toArray 67 (0, 0)) := by
  rw [(two_new w _ _).2, zero64_eq]; rfl
theorem long_src (w : World) (X : List Int) : ∀ j v, (vals X)[j]? = some v → ((w.alloc (.cells (u8s X) 35)).alloc (.cells zero64 67)).cell? ((⟨w.heap.size, 0, none⟩ : Addr).add j) = some v := by
  intro j v hv
  obtain ⟨hj, rfl⟩ := vals_get hv
  rw [Addr.add_mid, cell_row (two_new w _ _).1, Nat.zero_add, u8s_get _ _ hj]
theorem long_low (w : World) (X : List Int) : Below (w.heap.size + 1) (w.alloc (.cells (u8s X) 35)) ((w.alloc (.cells (u8s X) 35)).alloc (.cells zero64 67)) := (Below.refl _ _).alloc (by simp) _
set_option maxRecDepth 100000 in
set_option maxHeartbeats 1000000 in
theorem block_long (K : List Int) (A : Option Addr) (c n : Nat) (w : World) (hn : K.length = n) (hb : InB K) (hB : Byt w A c K) (hL : Laid w) (hs : 64 < n) (hx : n < 2305843009213693952) :
    Calls Tryd.prog 38 #[.slice A n c] w fun e w' => e = .returned (.agg (u8s (pad64 (sumL K)))) ∧ Below w.heap.size w w' := by
  have hs' : (64 : Int) < n := by omega
  have b1 : Below w.heap.size w (w.alloc (.cells zero64 67)) := (Below.refl _ _).alloc (Nat.le_refl _) _
  have H1 := Lib.hid (Go.heap_alloc_new w (.cells zero64 67))
  have B1 := Lib.hid b1
  have HS := Lib.hid (sum_any K A c n (w.alloc (.cells zero64 67)) hn hb (hB.below b1 (Nat.le_refl _)) (hL.below b1 hL.sz) hx)
  have Hl := Lib.hid (sumL_length K)
  obtain ⟨X, hX⟩ : ∃ X, X = sumL K := ⟨_, rfl⟩
  rw [← hX] at HS Hl ⊢
  have Hi : Hid ((Tryd.prog.info? 67).map (·.size) = some (u8s (pad64 X)).size) := by show _ = _; rw [u8s_size, pad64_length (by rw [Hl.out]; omega)]; exact info79
  have H35 : Hid ((Tryd.prog.info? 35).map (·.size) = some (u8s X).size) := by show _ = _; rw [u8s_size, Hl.out]; exact info35
  have Hmin : Hid ((vals X).length = Nat.min 32 64) := by show _ = _; rw [vals_length, Hl.out]; rfl
  unfold zero64 at HS H1 B1
  clear b1 hn hb hB hL hX
  go_enter Tryd.func38, Tryd.ntmps38
  go_wp2_with (first
    | (go_at_call 15; refine HS.out.mono ?_; rintro e w1 ⟨rfl, low1⟩; have R1 := Lib.hid ((low1.block _ (Array.getElem?_eq_some_iff.1 H1.out).1).trans H1.out); have Low1 := Lib.hid (B1.out.trans (low1.mono (by simp))); clear low1)
    | (refine wpList_store_row rfl 35 (.tmp 3) (.tmp 9) rfl w1.heap.size (u8s X) (by rfl) (by rfl) 35 _ (Go.heap_alloc_new w1 _) H35.out (by rw [u8s_size, Hl.out]; rfl) (u8s_one _) ?_; rw [World.setRow_alloc_new])
    | (refine wpList_copy_splice rfl (.tmp 11) (.tmp 12) 26 26 rfl 5 Tryd.underlying26 info26 (some ⟨w1.heap.size + 1, 0, none⟩) (some ⟨w1.heap.size, 0, none⟩) 64 64 32 32 (by rfl) (by rfl) (w1.heap.size + 1) 0 (vals (List.replicate 64 0)) 67 (long_row w1 X) (vals X) Hmin.out (fun _ => ⟨rfl, _, rfl, long_src w1 X⟩) (by rw [Hmin.out, vals_length, List.length_replicate, Nat.zero_add]; exact Nat.min_le_right _ _) (vals_one _) (w1.heap.size + 1) _ (long_low w1 X) (Nat.le_refl _) ?_; intro w2 h2 low2; have h3 := h2.out; rw [splice_key X] at h3; have H3 := Lib.hid h3; have H0 := Lib.hid ((low2.block _ (Nat.lt_succ_of_lt (Array.getElem?_eq_some_iff.1 R1.out).1)).trans ((Go.heap_alloc_old w1 _ (Array.getElem?_eq_some_iff.1 R1.out).1).trans R1.out)); have Low := Lib.hid ((Low1.out.alloc Low1.out.size _).trans (low2.mono (Nat.le_trans Low1.out.size (Nat.le_succ _)))); clear h2 h3 low2)
    | (refine wpList_load_row rfl 67 (.tmp 4) rfl (w1.heap.size + 1) (by rfl) 67 (u8s (pad64 X)) (0, 0) _ H3.out Tryd.underlying67 rfl Hi.out ?_)
    | (refine wpList_store_row rfl 67 (.tmp 2) (.tmp 14) rfl w.heap.size (u8s (pad64 X)) (by rfl) (by rfl) 67 _ H0.out Hi.out (by rw [u8s_size, pad64_length (by rw [Hl.out]; omega)]; rfl) (u8s_one _) ?_))
  exact bodyPost_ret (v := .agg (u8s (pad64 X))) (results_cell_row rfl _ _ w.heap.size 67 _ (0, 0) _ rfl (setRow_heap w2 _ _ _ _ _ H0.out) Tryd.underlying67 rfl Hi.out) rfl ⟨rfl, below_setRow Low.out (Nat.le_refl _) _⟩
/-- hmac.blockOf: what it returns. -/
theorem block_any (K : List Int) (A : Option Addr) (c n : Nat) (w : World) (hn : K.length = n) (hb : InB K) (hB : Byt w A c K) (hL : Laid w) (hx : n < 2305843009213693952) :
    Calls Tryd.prog 38 #[.slice A n c] w fun e w' => e = .returned (.agg (u8s (blockL K))) ∧ Below w.heap.size w w' := by
  by_cases hs : n ≤ 64
  · have h := block_short K A c n w hn hB hs
    unfold blockL keyL
    rw [if_pos (by omega)]
    exact h
  · have h := block_long K A c n w hn hb hB hL (by omega) hx
    unfold blockL keyL
    rw [if_neg (by omega)]
    exact h
end Go.Proofs.YtblgblhoolpmiaaDoor
