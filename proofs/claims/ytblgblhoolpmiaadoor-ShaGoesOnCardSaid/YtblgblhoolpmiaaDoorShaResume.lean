/- DERIVED. The contracts of sha.wordsOf and sha.Resume: a digest as a state; going on from a digest. -/
import Derived.Test.YtblgblhoolpmiaaDoorShaDigest
import Derived.Test.YtblgblhoolpmiaaDoorShaAwake
namespace Go.Proofs.YtblgblhoolpmiaaDoor
open Go.RowKit
def wordAt (h : List Int) (i : Nat) : Int := word4 (h.getD (4 * i) 0) (h.getD (4 * i + 1) 0) (h.getD (4 * i + 2) 0) (h.getD (4 * i + 3) 0)
/-- a digest's bytes as a state. -/
def wordsW (h : List Int) : W8 := ⟨wordAt h 0, wordAt h 1, wordAt h 2, wordAt h 3, wordAt h 4, wordAt h 5, wordAt h 6, wordAt h 7⟩
theorem wordsW_getD (h : List Int) (k : Nat) (hk : k < 8) : wordAt h k = (wordsW h).list.getD k 0 := by
  have : k = 0 ∨ k = 1 ∨ k = 2 ∨ k = 3 ∨ k = 4 ∨ k = 5 ∨ k = 6 ∨ k = 7 := by omega
  rcases this with e | e | e | e | e | e | e | e <;> subst e <;> rfl
attribute [irreducible] wordAt
/-- what the loop of wordsOf keeps. -/
structure OInv (h : List Int) (N k : Nat) (w wr : World) : Prop where
  blk : wr.heap[N]? = some (.cells (u8s h) 35 (0, 0))
  res : ∃ Z : Array Value, Z.size = 8 ∧ wr.heap[N + 1]? = some (.cells Z 24 (0, 0))
  row : ∃ S : Array Value, Holds S 8 k (wordAt h) ∧ wr.heap[N + 1 + 1]? = some (.cells S 24 (0, 0))
  low : Below N w wr
theorem OInv.drewN {h : List Int} {N k : Nat} {w wr : World} (x : OInv h N k w wr) (n : Nat) : OInv h N k w (wr.drewN n) :=
  ⟨x.blk, x.res, x.row, ⟨x.low.os, x.low.tape, x.low.output, x.low.size, x.low.block⟩⟩
theorem OInv.set {h : List Int} {N k : Nat} {w wr : World} (x : OInv h N k w wr) (hk : k < 8) (v : Int) (hv : v = wordAt h k) : OInv h N (k + 1) w (wr.setCell ⟨N + 1 + 1, k, none⟩ (.int .u32 v)) := by
  obtain ⟨S, hS, hr⟩ := x.row
  obtain ⟨Z, hZ, hz⟩ := x.res
  refine ⟨?_, ⟨Z, hZ, ?_⟩, ⟨_, hS.set hk v hv, heap_setCell_same _ _ _ _ _ _ hr⟩, x.low.setCell (by simp; omega) _⟩
  · rw [heap_setCell_other _ _ _ _ (by simp; omega)]; exact x.blk
  · rw [heap_setCell_other _ _ _ _ (by simp)]; exact hz
theorem slice35 (wr : World) (g k : Nat) (h : k < 8) : (Instr.sliceAt 35 (.pointer (some ⟨g, 0, none⟩)) (some (.int .i64 (4 * (k : Int)))) none none).run Tryd.prog wr = .ok (.slice (some ⟨g, 4 * k, none⟩) (32 - 4 * k) (32 - 4 * k)) wr := by
  have h1 : (4 * (k : Int)).toNat = 4 * k := by omega
  have h2 : ¬ 32 = 4 * k := by omega
  have h3 : 0 ≤ 4 * (k : Int) := by omega
  have h4 : 4 * (k : Int) ≤ 32 := by omega
  have hs : ∀ w', (sizeOf 5).run Tryd.prog w' = .ok 1 w' := fun _ => by kernel_rfl
  have hu : Tryd.prog.underlying 35 = some (.array 32 5) := by kernel_rfl
  simp [Instr.sliceAt, Instr.sureAddr, run_underlying hu, Instr.sliceBounds, Instr.sliceBound, asIntOf, h1, h2, h3, h4, hs, Addr.add]
  intro h
  exact h.symm
set_option maxRecDepth 100000 in
set_option maxHeartbeats 1000000 in
theorem wordsOf_any (h : List Int) (hl : h.length = 32) (hb : InB h) (w : World) :
    Calls Tryd.prog 37 #[.agg (u8s h)] w fun e w' => e = .returned (.agg (u32s (wordsW h).list)) ∧ Below w.heap.size w w' := by
  have H32 := Lib.hid hl
  have Hb := Lib.hid hb
  clear hl hb
  go_enter Tryd.func37, Tryd.ntmps37
  have h3 := Lib.hid (three_new w (.cells (u8s h) 35))
  go_wp2
  go_loopw [5] (fun i wr => ∃ k : Nat, k ≤ 8 ∧ i = .int .i64 k ∧ OInv h w.heap.size k w wr) (fun i _ => 8 - (intOf i).toNat)
  case atStart => exact ⟨0, Nat.zero_le _, rfl, (h3.out _ _).1, ⟨_, rfl, (h3.out _ _).2.1⟩, ⟨_, Holds.nil _ _ _ rfl, (h3.out _ _).2.2⟩, below3 _ _ _ _⟩
  case round =>
    obtain ⟨k, hk, rfl, hinv⟩ := hrel
    clear h3
    by_cases hlt : k < 8
    · obtain ⟨S, hS, hr⟩ := hinv.row
      have hblk := hinv.blk
      have hin := Hb.out
      have hlen := H32.out
      obtain ⟨v, hv⟩ : ∃ v, wr.cell? ⟨w.heap.size + 1 + 1, k, none⟩ = some v := by
        rw [cell_row hr]; exact ⟨_, Array.getElem?_eq_getElem (by rw [hS.1]; omega)⟩
      have hfz := free_row hr k
      have Hc : Hid (Calls Tryd.prog 46 #[.slice (some ⟨w.heap.size, 4 * k, none⟩) (32 - 4 * k) (32 - 4 * k)] wr fun e w' => e = .returned (.int .u32 (wordAt h k)) ∧ ∃ n, w' = wr.drewN n) := by
        unfold wordAt
        exact word_any _ _ _ _ _ _ _ _ (by omega) _ (by rw [cell_row hblk, u8s_get h _ (by omega)]) (by rw [cell_row hblk, u8s_get h _ (by omega)]) (by rw [cell_row hblk, u8s_get h _ (by omega)]) (by rw [cell_row hblk, u8s_get h _ (by omega)]) (hin _) (hin _) (hin _) (hin _)
      have hsl := slice35 wr w.heap.size k hlt
      clear hblk hin hlen hr hS
      go_wp2_with (go_at_call 46; refine Hc.out.mono ?_; rintro e w' ⟨rfl, n, rfl⟩)
      go_roundw
      case rel => exact ⟨k + 1, by omega, by go_num, ((hinv.drewN _).set (by omega) _ rfl)⟩
      case measure => simp [intOf]; omega
    · have h8 : k = 8 := by omega
      rw [h8] at hinv
      have H8 := Lib.hid h8
      clear h8 hk
      obtain ⟨S, hS, hr⟩ := hinv.row
      obtain ⟨Z, hZ, hz⟩ := hinv.res
      have low := hinv.low
      have hS' : S = u32s (wordsW h).list := hS.whole rfl (fun j hj => wordsW_getD h j hj)
      subst hS'
      have Hsz : Hid ((Tryd.prog.info? 24).map (·.size) = some (u32s (wordsW h).list).size) := info24
      have Hzz := Lib.hid hZ
      have Hr := Lib.hid hr
      have Hz := Lib.hid hz
      clear hr hz hinv hS hZ
      go_wp2_with (first | (refine wpList_load_row rfl 24 (.tmp 3) rfl (w.heap.size + 1 + 1) rfl 24 (u32s (wordsW h).list) (0, 0) _ Hr.out Tryd.underlying24 rfl Hsz.out ?_) | (refine wpList_store_row rfl 24 (.tmp 2) (.tmp 15) rfl (w.heap.size + 1) (u32s (wordsW h).list) rfl rfl 24 Z Hz.out Hsz.out Hzz.out (u32s_one _) ?_))
      exact bodyPost_ret (v := .agg (u32s (wordsW h).list)) (results_cell_row rfl _ _ (w.heap.size + 1) 24 _ (0, 0) _ rfl (setRow_heap wr _ _ _ _ _ Hz.out) Tryd.underlying24 rfl Hsz.out) rfl ⟨rfl, below_setRow low (by omega) _⟩
set_option maxRecDepth 100000 in
set_option maxHeartbeats 1000000 in
theorem resume_any (h M : List Int) (A : Option Addr) (c m n : Nat) (w : World) (hl : h.length = 32) (hb : InB h) (hm : M.length = m) (hbM : InB M) (hB : Byt w A c M) (hL : Laid w) (hn : n ≤ 72057594037927936) (hmm : m ≤ 1000000) :
    Calls Tryd.prog 17 #[.agg (u8s h), .int .i64 (n : Int), .slice A m c] w fun e' w' => e' = .returned (.tuple #[.agg (u8s (fin (wordsW h) M (n + padLen n + m))), .int .i64 0]) ∧ Below w.heap.size w w' := by
  have Hl := Lib.hid hl
  have Hb := Lib.hid hb
  have Hm := Lib.hid hm
  have HbM := Lib.hid hbM
  have HB := Lib.hid hB
  have HL := Lib.hid hL
  have hsz := hL.sz
  have h2 := two_new w (.cells (u8s h) 35) (.cells zero32 35)
  have H2 := Lib.hid h2
  have low0 := Lib.hid (((Below.refl w.heap.size w).alloc (Nat.le_refl _) (.cells (u8s h) 35)).alloc (by simp) (.cells zero32 35))
  have sz0 : ((w.alloc (.cells (u8s h) 35)).alloc (.cells zero32 35)).heap.size = w.heap.size + 2 := by simp
  have Sz0 := Lib.hid sz0
  obtain ⟨P, hP⟩ : ∃ P, P = padLen n := ⟨_, rfl⟩
  have hP2 : P ≤ 72 := by have := zeros_lt n; rw [hP]; unfold padLen; omega
  have Hpad := Lib.hid (padding_any n (by omega))
  rw [← hP] at Hpad
  have hn1 : (n : Int) ≤ 72057594037927936 := by omega
  have hn2 : ¬ (n : Int) < 0 := by omega
  have hsum : ((n : Int) + P) + m = ((n + P + m : Nat) : Int) := by omega
  have Hsum := Lib.hid hsum
  have Hfn : Hid (n + P + m < 2305843009213693952) := by show _ < _; omega
  have H35h : Hid ((Tryd.prog.info? 35).map (·.size) = some (u8s h).size) := by show _ = _; rw [u8s_size, hl]; exact info35
  rw [← hP]
  have HP := Lib.hid hP
  unfold zero32 at H2 low0 Sz0
  clear hl hb hm hbM hB hL hn h2 sz0 hP hsum
  have H35 : Hid ((Tryd.prog.info? 35).map (·.size) = some (u8s (fin (wordsW h) M (n + P + m))).size) := by show _ = _; rw [u8s_size, fin, hashL_length]; exact info35
  go_enter Tryd.func17, Tryd.ntmps17
  go_wp2_with (first
    | (go_at_call 32; refine (Hpad.out _).mono ?_; rintro e w2 ⟨rfl, hp2, low2⟩; have h0 := (low2.block w.heap.size (by rw [Sz0.out]; omega)).trans H2.out.1; have hz := (low2.block (w.heap.size + 1) (by rw [Sz0.out]; omega)).trans H2.out.2; have lowA := low0.out.trans (low2.mono low0.out.size); have H0 := Lib.hid h0; have Hz := Lib.hid hz; have LowA := Lib.hid lowA; clear hp2 h0 hz low2 lowA)
    | (refine wpList_load_row rfl 35 (.tmp 3) rfl w.heap.size rfl 35 (u8s h) (0, 0) _ H0.out Tryd.underlying35 rfl H35h.out ?_)
    | (go_at_call 37; refine (wordsOf_any h Hl.out Hb.out _).mono ?_; rintro e w3 ⟨rfl, low3⟩; have hz3 := (low3.block _ (Array.getElem?_eq_some_iff.1 Hz.out).1).trans Hz.out; have Hz3 := Lib.hid hz3; have LowB := Lib.hid (LowA.out.trans (low3.mono LowA.out.size)); clear hz3 low3)
    | (go_at_call 34; rw [Hsum.out]; refine (finish_any (wordsW h) M A c m (n + P + m) w3 Hm.out HbM.out (HB.out.below LowB.out (Nat.le_refl _)) (HL.out.below LowB.out hsz) Hfn.out).mono ?_; rintro e w4 ⟨rfl, low4⟩; have hz4 := (low4.block _ (Array.getElem?_eq_some_iff.1 Hz3.out).1).trans Hz3.out; have Hz4 := Lib.hid hz4; have LowC := Lib.hid (LowB.out.trans (low4.mono LowB.out.size)); clear hz4 low4)
    | (refine wpList_store_row rfl 35 (.tmp 6) (.tmp 32) rfl (w.heap.size + 1) (u8s (fin (wordsW h) M (n + P + m))) rfl rfl 35 _ Hz4.out H35.out (by rw [u8s_size, fin, hashL_length]; rfl) (u8s_one _) ?_))
  exact bodyPost_ret (v := .tuple #[.agg (u8s (fin (wordsW h) M (n + P + m))), .int .i64 0]) (results_row_tmp rfl _ _ (w.heap.size + 1) 35 _ (0, 0) _ _ rfl rfl (setRow_heap w4 _ _ _ _ _ Hz4.out) Tryd.underlying35 rfl H35.out) rfl ⟨rfl, below_setRow LowC.out (by omega) _⟩
end Go.Proofs.YtblgblhoolpmiaaDoor
