/- DERIVED. Texts of ours, merged: XShaStart XShaPad XShaCat XShaBlocks. -/
import Derived.Test.YtgkmbamoffolgaaDoorMseal1
import Derived.Deep.MidRow
import Derived.OwnWalk
import Derived.Laws.MakeOwn
import Derived.Lib.AppendZeros
import Derived.Laws.AppendOwnNone
import Derived.Laws.ResultCell
import Derived.Laws.CopyOwn
/- DERIVED. The contracts of sha.Start and sha.hashOf: the first state; a state as a digest. -/
namespace Go.Proofs.YtgkmbamoffolgaaDoor
open Go.RowKit
/-- H0 to H7. -/
def S0 : W8 := ⟨1779033703, 3144134277, 1013904242, 2773480762, 1359893119, 2600822924, 528734635, 1541459225⟩
theorem start_range {w : World} (hL : Laid w) : w.rangeAt 0 0 (u32s S0.list).toList := fun j v hv => by
  have hj : j < 8 := by
    have := (List.getElem?_eq_some_iff.1 hv).1
    simpa [u32s_size, W8.list] using this
  rw [Nat.zero_add, hL.s j hj, ← hv]
  have : (u32s S0.list).toList[j]? = (u32s S0.list)[j]? := by simp
  rw [this, u32s_get _ _ (by simpa [W8.list] using hj)]
  rfl
theorem info23 : (Tryd.prog.info? 76).map (·.size) = some 8 := by kernel_rfl
theorem info35 : (Tryd.prog.info? 23).map (·.size) = some 32 := by kernel_rfl
set_option maxRecDepth 100000 in
set_option maxHeartbeats 1000000 in
theorem start_any (w : World) (hL : Laid w) :
    Calls Tryd.prog 48 #[] w fun e' w' => e' = .returned (.agg (u32s S0.list)) ∧ Below w.heap.size w w' := by
  have hr := Lib.hid (start_range hL)
  clear hL
  obtain ⟨L, hL⟩ : ∃ L, L = S0.list := ⟨_, rfl⟩
  have hl : L.length = 8 := by rw [hL]; rfl
  rw [← hL] at hr
  have Hl := Lib.hid hl
  have Hi : Hid ((Tryd.prog.info? 76).map (·.size) = some (u32s L).toList.length) := by show _ = _; rw [Array.length_toList, u32s_size, hl]; exact info23
  have HL := Lib.hid hL
  clear hl hL
  go_enter Tryd.func48, Tryd.ntmps48
  go_wp2_with (first
    | (refine wpList_load_mid rfl 76 (.global 0) rfl 0 0 rfl (u32s L).toList _ (World.rangeAt_alloc hr.out _) Tryd.underlying76 rfl Hi.out ?_)
    | (refine wpList_store_row rfl 77 (.tmp 0) (.tmp 1) rfl w.heap.size (u32s L) rfl rfl 77 _ (Go.heap_alloc_new _ _) (by rw [u32s_size, Hl.out]; exact info24) (by rw [u32s_size, Hl.out]; rfl) (u32s_one _) ?_; rw [World.setRow_alloc_new]))
  rw [HL.out]
  exact bodyPost_ret (v := .agg (u32s S0.list)) (results_cell_row rfl _ _ w.heap.size 77 _ (0, 0) _ rfl (Go.heap_alloc_new w _) Tryd.underlying77 rfl info24) rfl ⟨rfl, (Below.refl _ _).alloc (Nat.le_refl _) _⟩
/-- the bytes of a word. -/
def bytes4 (x : Int) : List Int := [x / 16777216 % 256, x / 65536 % 256, x / 256 % 256, x % 256]
/-- the digest of the words l 0 .. l 7, byte by byte. -/
def hashF (l : List Int) (j : Nat) : Int := (bytes4 (l.getD (j / 4) 0)).getD (j % 4) 0
def hashL (l : List Int) : List Int := (List.range 32).map (hashF l)
theorem hashL_length (l : List Int) : (hashL l).length = 32 := by simp [hashL]
theorem hashF_at (l : List Int) (k : Nat) : hashF l (4 * k) = l.getD k 0 / 16777216 % 256 ∧ hashF l (4 * k + 1) = l.getD k 0 / 65536 % 256 ∧ hashF l (4 * k + 2) = l.getD k 0 / 256 % 256 ∧ hashF l (4 * k + 3) = l.getD k 0 % 256 := by
  unfold hashF
  rw [show 4 * k / 4 = k by omega, show 4 * k % 4 = 0 by omega, show (4 * k + 1) / 4 = k by omega, show (4 * k + 1) % 4 = 1 by omega, show (4 * k + 2) / 4 = k by omega, show (4 * k + 2) % 4 = 2 by omega, show (4 * k + 3) / 4 = k by omega, show (4 * k + 3) % 4 = 3 by omega]
  exact ⟨rfl, rfl, rfl, rfl⟩
theorem hashL_getD (l : List Int) (j : Nat) (h : j < 32) : hashF l j = (hashL l).getD j 0 := by
  simp [hashL, h]
attribute [irreducible] hashF
theorem index24 (l : List Int) (hl : l.length = 8) (k : Nat) (hk : k < 8) (w : World) : (Instr.index 77 (.agg (u32s l)) (.int .i64 (k : Int))).run Tryd.prog w = .ok (.int .u32 (l.getD k 0)) w := by
  have hu : Tryd.prog.underlying 77 = some (.array 8 26) := by kernel_rfl
  have ha : ∀ w', (isAgg 26).run Tryd.prog w' = .ok false w' := fun _ => by kernel_rfl
  have hs : ∀ w', (sizeOf 26).run Tryd.prog w' = .ok 1 w' := fun _ => by kernel_rfl
  simp [Instr.index, asIntOf, run_underlying hu, part, ha, hs, u32s_get l k (by omega)]
  exact fun h => absurd hk (by omega)
/-- what the loop of hashOf keeps. -/
structure HInv (l : List Int) (N k : Nat) (w wr : World) : Prop where
  res : ∃ Z : Array Value, Z.size = 32 ∧ wr.heap[N + 1]? = some (.cells Z 23 (0, 0))
  row : ∃ S : Array Value, HoldsB S 32 (4 * k) (hashF l) ∧ wr.heap[N + 1 + 1]? = some (.cells S 23 (0, 0))
  low : Below N w wr
theorem HInv.set {l : List Int} {N k : Nat} {w wr : World} (h : HInv l N k w wr) (hk : k < 8) (x : Int) (hx : x = l.getD k 0) :
    HInv l N (k + 1) w ((((wr.setCell ⟨N + 1 + 1, 4 * k, none⟩ (.int .u8 (x / 16777216 % 256))).setCell ⟨N + 1 + 1, 4 * k + 1, none⟩ (.int .u8 (x / 65536 % 256))).setCell ⟨N + 1 + 1, 4 * k + 2, none⟩ (.int .u8 (x / 256 % 256))).setCell ⟨N + 1 + 1, 4 * k + 3, none⟩ (.int .u8 (x % 256))) := by
  obtain ⟨S, hS, hr⟩ := h.row
  obtain ⟨Z, hZ, hz⟩ := h.res
  have hf := hashF_at l k
  rw [← hx] at hf
  refine ⟨⟨Z, hZ, ?_⟩, ⟨_, (((hS.set (by omega) _ hf.1.symm).set (by omega) _ hf.2.1.symm).set (by omega) _ hf.2.2.1.symm).set (by omega) _ hf.2.2.2.symm, ?_⟩, (((h.low.setCell (by simp; omega) _).setCell (by simp; omega) _).setCell (by simp; omega) _).setCell (by simp; omega) _⟩
  · rw [heap_setCell_other _ _ _ _ (by simp), heap_setCell_other _ _ _ _ (by simp), heap_setCell_other _ _ _ _ (by simp), heap_setCell_other _ _ _ _ (by simp)]; exact hz
  · exact heap_setCell_same _ _ _ _ _ _ (heap_setCell_same _ _ _ _ _ _ (heap_setCell_same _ _ _ _ _ _ (heap_setCell_same _ _ _ _ _ _ hr)))
set_option maxRecDepth 100000 in
set_option maxHeartbeats 1000000 in
theorem hashOf_any (l : List Int) (hl : l.length = 8) (w : World) :
    Calls Tryd.prog 61 #[.agg (u32s l)] w fun e' w' => e' = .returned (.agg (u8s (hashL l))) ∧ Below w.heap.size w w' := by
  have Hl := Lib.hid hl
  have Hsz : Hid ((Tryd.prog.info? 77).map (·.size) = some (u32s l).size) := by show _ = _; rw [u32s_size, hl]; exact info24
  clear hl
  go_enter Tryd.func61, Tryd.ntmps61
  have h3 := Lib.hid (three_new w (.cells (u32s l) 77))
  go_wp2_with (refine wpList_load_row rfl 77 (.tmp 1) rfl w.heap.size rfl 77 (u32s l) (0, 0) _ (h3.out _ _).1 Tryd.underlying77 rfl Hsz.out ?_)
  go_loopw [7] (fun i wr => ∃ k : Nat, k ≤ 8 ∧ i = .int .i64 k ∧ HInv l w.heap.size k w wr) (fun i _ => 8 - (intOf i).toNat)
  case atStart => exact ⟨0, Nat.zero_le _, rfl, ⟨_, rfl, (h3.out _ _).2.1⟩, ⟨_, HoldsB.nil _ _ _ rfl, (h3.out _ _).2.2⟩, below3 _ _ _ _⟩
  case round =>
    obtain ⟨k, hk, rfl, hinv⟩ := hrel
    clear h3
    by_cases hlt : k < 8
    · obtain ⟨S, hS, hr⟩ := hinv.row
      have hv : ∀ j, j < 32 → (wr.cell? ⟨w.heap.size + 1 + 1, j, none⟩).isSome = true := fun j hj => by
        rw [cell_row hr, Array.getElem?_eq_getElem (by rw [hS.1]; omega)]; rfl
      obtain ⟨v0, hv0⟩ := Option.isSome_iff_exists.1 (hv (4 * k) (by omega))
      obtain ⟨v1, hv1⟩ := Option.isSome_iff_exists.1 (hv (4 * k + 1) (by omega))
      obtain ⟨v2, hv2⟩ := Option.isSome_iff_exists.1 (hv (4 * k + 2) (by omega))
      obtain ⟨v3, hv3⟩ := Option.isSome_iff_exists.1 (hv (4 * k + 3) (by omega))
      have f0 := free_row hr (4 * k)
      have f1 := free_row hr (4 * k + 1)
      have f2 := free_row hr (4 * k + 2)
      have f3 := free_row hr (4 * k + 3)
      obtain ⟨x, hx⟩ : ∃ x, x = l.getD k 0 := ⟨_, rfl⟩
      have hix := index24 l Hl.out k hlt wr
      rw [← hx] at hix
      have Hx := Lib.hid hx
      clear hr hS hv hx
      go_wp2
      go_roundw
      case rel => exact ⟨k + 1, by omega, by go_num, hinv.set hlt x Hx.out⟩
      case measure => simp [intOf]; omega
    · have h8 : k = 8 := by omega
      rw [h8] at hinv
      clear h8 hk
      obtain ⟨S, hS, hr⟩ := hinv.row
      obtain ⟨Z, hZ, hz⟩ := hinv.res
      have low := hinv.low
      have hS' : S = u8s (hashL l) := hS.whole (hashL_length l) (fun j hj => hashL_getD l j hj)
      subst hS'
      have hs35 : (Tryd.prog.info? 23).map (·.size) = some (u8s (hashL l)).size := by rw [u8s_size, hashL_length]; exact info35
      have hzz : Z.size = (u8s (hashL l)).size := by rw [u8s_size, hashL_length, hZ]
      have Hs35 := Lib.hid hs35
      have Hzz := Lib.hid hzz
      have Hr := Lib.hid hr
      have Hz := Lib.hid hz
      clear hs35 hzz hr hz hinv hS hZ
      go_wp2_with (first | (refine wpList_load_row rfl 23 (.tmp 3) rfl (w.heap.size + 1 + 1) rfl 23 (u8s (hashL l)) (0, 0) _ Hr.out Tryd.underlying23 rfl Hs35.out ?_) | (refine wpList_store_row rfl 23 (.tmp 2) (.tmp 38) rfl (w.heap.size + 1) (u8s (hashL l)) rfl rfl 23 Z Hz.out Hs35.out Hzz.out (u8s_one _) ?_))
      exact bodyPost_ret (v := .agg (u8s (hashL l))) (results_cell_row rfl _ _ (w.heap.size + 1) 23 _ (0, 0) _ rfl (setRow_heap wr _ _ _ _ _ Hz.out) Tryd.underlying23 rfl Hs35.out) rfl ⟨rfl, below_setRow low (by omega) _⟩
end Go.Proofs.YtgkmbamoffolgaaDoor
/- DERIVED. The contracts of sha.padding and sha.Behind: the bytes behind n bytes. -/
namespace Go.Proofs.YtgkmbamoffolgaaDoor
open Go.RowKit
/-- how many zero bytes. -/
def zeros (n : Nat) : Nat := (128 - (n % 64 + 9)) % 64
def padLen (n : Nat) : Nat := 9 + zeros n
/-- byte j of the padding behind n bytes. -/
def padF (n j : Nat) : Int := if j = 0 then 128 else if j < 1 + zeros n then 0 else ((8 * n : Nat) : Int) / 2 ^ (8 * (padLen n - 1 - j)) % 256
def padL (n : Nat) : List Int := (List.range (padLen n)).map (padF n)
theorem padL_length (n : Nat) : (padL n).length = padLen n := by simp [padL]
theorem padL_getD (n j : Nat) (h : j < padLen n) : padF n j = (padL n).getD j 0 := by simp [padL, h]
theorem padF_zero (n : Nat) : padF n 0 = 128 := rfl
theorem padF_mid (n j : Nat) (h0 : j ≠ 0) (h : j < 1 + zeros n) : padF n j = 0 := by unfold padF; rw [if_neg h0, if_pos h]
theorem padF_tail (n i : Nat) (h : i < 8) : padF n (padLen n - 1 - i) = 8 * (n : Int) / 2 ^ (8 * i) % 256 := by
  unfold padF
  rw [if_neg (by unfold padLen; omega), if_neg (by unfold padLen; omega), show padLen n - 1 - (padLen n - 1 - i) = i by unfold padLen; omega]
  rw [show ((8 * n : Nat) : Int) = 8 * (n : Int) by omega]
attribute [irreducible] padF
theorem zeros_lt (n : Nat) : zeros n < 64 := by unfold zeros; omega
theorem whole_blocks (n : Nat) : (n + padLen n) % 64 = 0 := by unfold padLen zeros; omega
theorem info5 : (Tryd.prog.info? 5).map (fun i => (i.zero, i.size, i.bytes)) = some (some (.int .u8 0), 1, 1) := by kernel_rfl
theorem made_row {w : World} {base g n : Nat} (h : w.ownsRow base 5 1 (.slice (some ⟨g, 0, none⟩) n n) n (madeCells (Value.cells (.int .u8 0)) (n * 1)).toList) :
    ∃ C : Array Value, C.size = n ∧ w.heap[g]? = some (.cells C 5 (0, 0)) ∧ ∀ j, j < n → C[j]? = some (.int .u8 0) := by
  obtain ⟨_, h⟩ := h
  rcases h with ⟨h, _⟩ | ⟨g', cap, cur, hv, _, hh, _, _, hs, ht⟩
  · cases h
  · simp only [Value.slice.injEq, Option.some.injEq, Addr.mk.injEq, and_true] at hv
    obtain ⟨rfl, _, rfl⟩ := hv
    refine ⟨cur, by omega, hh, fun j hj => ?_⟩
    have h1 : cur.toList = (madeCells (Value.cells (.int .u8 0)) (n * 1)).toList := by
      rw [← ht, List.take_of_length_le (by rw [Array.length_toList]; omega)]
    have h2 : cur[j]? = cur.toList[j]? := by simp
    rw [h2, h1]
    have h3 : j % 1 = 0 := by omega
    simp [madeCells, Value.cells, hj, h3]
/-- what the loop of padding keeps. -/
structure PInv (n N P k : Nat) (w wr : World) : Prop where
  row : ∃ C : Array Value, C.size = P ∧ wr.heap[N]? = some (.cells C 5 (0, 0)) ∧ (∀ j, j < P - 8 → C[j]? = some (.int .u8 (padF n j))) ∧ ∀ i, i < k → C[P - 1 - i]? = some (.int .u8 (padF n (P - 1 - i)))
  low : Below N w wr
theorem PInv.set {n N P k : Nat} {w wr : World} (h : PInv n N P k w wr) (hP : 9 ≤ P) (hk : k < 8) (v : Int) (hv : v = padF n (P - 1 - k)) :
    PInv n N P (k + 1) w (wr.setCell ⟨N, P - 1 - k, none⟩ (.int .u8 v)) := by
  obtain ⟨C, hC, hr, h1, h2⟩ := h.row
  refine ⟨⟨_, ?_, heap_setCell_same _ _ _ _ _ _ hr, ?_, ?_⟩, h.low.setCell (by simp) _⟩
  · simp [hC]
  · intro j hj
    rw [Array.getElem?_setIfInBounds, if_neg (by omega)]
    exact h1 j hj
  · intro i hi
    rw [Array.getElem?_setIfInBounds]
    by_cases e : P - 1 - k = P - 1 - i
    · rw [if_pos e, if_pos (by omega), hv, e]
    · rw [if_neg e]; exact h2 i (by omega)
set_option maxRecDepth 100000 in
set_option maxHeartbeats 1000000 in
theorem padding_any (n : Nat) (hn : n < 2305843009213693952) (w : World) :
    Calls Tryd.prog 60 #[.int .u64 (n : Int)] w fun e' w' => e' = .returned (.slice (some ⟨w.heap.size, 0, none⟩) (padLen n) (padLen n)) ∧ w'.heap[w.heap.size]? = some (.cells (u8s (padL n)) 5 (0, 0)) ∧ Below w.heap.size w w' := by
  obtain ⟨i0, hi, hz0, hz1, hz2⟩ := info_parts info5
  have hi := Lib.hid hi
  have hz0 := Lib.hid hz0
  have hz1 := Lib.hid hz1
  have hz2 := Lib.hid hz2
  have z1 := zeros_lt n
  obtain ⟨P, hP⟩ : ∃ P, P = padLen n := ⟨_, rfl⟩
  have hP1 : 9 ≤ P := by rw [hP]; unfold padLen; omega
  have hP2 : P ≤ 72 := by rw [hP]; unfold padLen; omega
  have HL : Hid ((1 + (128 - ((n : Int) % 64 + 1 + 8)) % 64 + 8) = (P : Int)) := by show _ = _; rw [hP]; unfold padLen zeros; omega
  rw [← hP]
  have HP := Lib.hid hP
  have Hn := Lib.hid hn
  have hn' : (n : Int) < 2305843009213693952 := by omega
  clear hP hn z1
  go_enter Tryd.func60, Tryd.ntmps60
  go_wp2_with (refine wpList_make_full _ rfl (.tmp 18) (.tmp 18) 24 rfl w.heap.size 5 i0 (.int .u8 0) 1 Tryd.underlying24 hi.out hz0.out hz1.out .i64 .i64 _ _ P rfl rfl HL.out HL.out (by rw [hz2.out]; omega) (by unfold maxLen; omega) (Nat.le_refl _) ?_; intro w1 hown hgrow; obtain ⟨C, hC, hr, hc⟩ := made_row hown; have hs1 := hgrow.size; have low1 := (Below.refl w.heap.size w).grown hgrow (Nat.le_refl _) (fun k hk => by cases hk); have Hr := Lib.hid hr; have Hc := Lib.hid hc; have HC := Lib.hid hC; have d0 := cell_row hr 0; rw [hc 0 (by omega)] at d0; have d0f := free_row hr 0; clear hown hgrow hr hc hC)
  clear hn'
  go_loopw [24] (fun i wr => ∃ k : Nat, k ≤ 8 ∧ i = .int .i64 k ∧ PInv n w.heap.size P k w wr) (fun i _ => 8 - (intOf i).toNat)
  case atStart =>
    refine ⟨0, Nat.zero_le _, rfl, ⟨_, ?_, heap_setCell_same _ _ _ _ _ _ Hr.out, ?_, fun i hi => absurd hi (Nat.not_lt_zero _)⟩, low1.setCell (by simp) _⟩
    · simp [HC.out]
    · intro j hj
      rw [Array.getElem?_setIfInBounds]
      by_cases e : 0 = j
      · subst e; rw [if_pos rfl, if_pos (by rw [HC.out]; omega), padF_zero]
      · rw [if_neg e, Hc.out j (by omega), padF_mid n j (by omega) (by have := HP.out; unfold padLen at this; omega)]
  case round =>
    obtain ⟨k, hk, rfl, hinv⟩ := hrel
    clear d0 d0f low1 hs1 Hr Hc HC
    by_cases hlt : k < 8
    · obtain ⟨C, hC, hr, _, _⟩ := hinv.row
      obtain ⟨v, hv⟩ : ∃ v, wr.cell? ⟨w.heap.size, P - 1 - k, none⟩ = some v := by
        rw [cell_row hr]; exact ⟨_, Array.getElem?_eq_getElem (by omega)⟩
      have hfz := free_row hr (P - 1 - k)
      have t1 : ((P : Int) - 1 - (k : Int)).toNat = P - 1 - k := by omega
      have t2 : (0 : Int) ≤ (P : Int) - 1 - (k : Int) := by omega
      have t3 : (P : Int) - 1 - (k : Int) < P := by omega
      clear hr hC
      go_wp2
      go_roundw
      case rel => exact ⟨k + 1, by omega, by go_num, hinv.set (by omega) hlt _ (by rw [HP.out, padF_tail n k hlt])⟩
      case measure => simp [intOf]; omega
    · have h8 : k = 8 := by omega
      rw [h8] at hinv
      obtain ⟨C, hC, hr, g1, g2⟩ := hinv.row
      have low := hinv.low
      have hCe : C = u8s (padL n) := by
        refine HoldsB.whole (n := P) (f := padF n) ⟨hC, fun j hj => ?_⟩ (by rw [padL_length, HP.out]) (fun j hj => padL_getD n j (by rw [← HP.out]; exact hj))
        by_cases hj8 : j < P - 8
        · exact g1 j hj8
        · have := g2 (P - 1 - j) (by omega)
          rwa [show P - 1 - (P - 1 - j) = j by omega] at this
      rw [hCe] at hr
      have Hr := Lib.hid hr
      clear h8 hk hinv g1 g2 hCe hr hC
      go_wp2
      go_ret
      exact ⟨rfl, Hr.out, low⟩
end Go.Proofs.YtgkmbamoffolgaaDoor
/- DERIVED. The contracts of slices.Grow at a nil slice and of slices.Concat at two slices. -/
namespace Go.Proofs.YtgkmbamoffolgaaDoor
open Go.RowKit
set_option maxRecDepth 100000 in
set_option maxHeartbeats 1000000 in
theorem grow_any (n : Nat) (h0 : 0 < n) (h1 : n ≤ 400000) (w : World) :
    Calls Tryd.prog 49 #[.slice none 0 0, .int .i64 (n : Int)] w fun e' w' => ∃ c C, e' = .returned (.slice (some ⟨w.heap.size, 0, none⟩) 0 c) ∧ n ≤ c ∧ c ≤ maxLen ∧ C.size = c ∧ w'.heap[w.heap.size]? = some (.cells C 5 (0, 0)) ∧ Below w.heap.size w w' := by
  obtain ⟨i0, hi0, hz00, hz10, hz20⟩ := info_parts info5
  have hi := Lib.hid hi0
  have hz0 := Lib.hid hz00
  have hz1 := Lib.hid hz10
  have hz2 := Lib.hid hz20
  have hpos : (0 : Int) < n := by omega
  clear hi0 hz00 hz10 hz20
  go_enter Tryd.func49, Tryd.ntmps49
  go_wp2_with (at_builtin; refine Lib.wpList_append_run _ rfl (.tmp 20) (.tmp 21) 24 3 rfl _ _ rfl rfl _ _ (Lib.run_append_nil_zeros w 24 3 24 5 i0 (.int .u8 0) .i64 .i64 Tryd.underlying24 Tryd.underlying3 hi.out hz0.out n h0 (by rw [hz1.out]; decide) (by omega) (by rw [hz2.out]; omega)) ?_; generalize hc : grownCap w n 0 5 = c; have Hc := Lib.hid hc; clear hc)
  go_ret
  have h2 := grownCap_ge w n 0 5
  have h3 := grownCap_le_maxLen w n 0 5 (by unfold maxLen; omega)
  rw [Hc.out] at h2 h3
  refine ⟨c, _, rfl, h2, h3, ?_, Go.heap_alloc_new w.drew _, ((Below.refl _ _).drew).alloc (Nat.le_refl _) _⟩
  simp [Builtin.zeroCells]
  omega
/-- what the second loop of Concat keeps. -/
structure CInv (B c : Nat) (L : List Int) (w wr : World) : Prop where
  own : wr.ownsRow B 5 1 (.slice (some ⟨B, 0, none⟩) L.length c) L.length (vals L)
  low : Below B w wr
theorem CInv.byt {B c : Nat} {L : List Int} {w wr : World} (h : CInv B c L w wr) : Byt wr (some ⟨B, 0, none⟩) c L := by
  obtain ⟨_, h⟩ := h.own
  rcases h with ⟨h, _⟩ | ⟨g', cap, cur, hv, _, hh, hcap, _, hs, ht⟩
  · cases h
  · simp only [Value.slice.injEq, Option.some.injEq, Addr.mk.injEq, and_true, true_and] at hv
    obtain ⟨rfl, rfl⟩ := hv
    refine ⟨hcap, (fun h => by cases h), fun _ => ⟨B, 0, rfl, (Array.getElem?_eq_some_iff.1 hh).1, fun j hj => ?_⟩⟩
    rw [Nat.zero_add, cell_row hh]
    have h2 : cur[j]? = cur.toList[j]? := by simp
    have h3 : (cur.toList.take (L.length * 1))[j]? = cur.toList[j]? := by rw [List.getElem?_take, if_pos (by omega)]
    rw [h2, ← h3, ht]
    simp [vals, hj]
set_option maxRecDepth 100000 in
set_option maxHeartbeats 1000000 in
theorem concat_any (A1 A2 : Option Addr) (c1 c2 gs n1 n2 : Nat) (L1 L2 : List Int) (w : World) (hn1 : L1.length = n1) (hn2 : L2.length = n2) (h1 : n1 ≤ 200000) (h2 : n2 ≤ 200000) (hp : 0 < n1 + n2)
    (hgs : w.heap[gs]? = some (.cells #[.slice A1 n1 c1, .slice A2 n2 c2] 24 (0, 0))) (b1 : Byt w A1 c1 L1) (b2 : Byt w A2 c2 L2) :
    Calls Tryd.prog 38 #[.slice (some ⟨gs, 0, none⟩) 2 2] w fun e' w' => ∃ g c, e' = .returned (.slice (some ⟨g, 0, none⟩) (n1 + n2) c) ∧ Byt w' (some ⟨g, 0, none⟩) c (L1 ++ L2) ∧ Below w.heap.size w w' := by
  have B1 := Lib.hid b1
  have B2 := Lib.hid b2
  have N1 := Lib.hid hn1
  have N2 := Lib.hid hn2
  have hlt : gs < w.heap.size := (Array.getElem?_eq_some_iff.1 hgs).1
  have d0 := cell_row hgs 0
  have d1 := cell_row hgs 1
  simp only [List.getElem?_toArray, List.getElem?_cons_zero, List.getElem?_cons_succ] at d0 d1
  have D0 := Lib.hid d0
  have D1 := Lib.hid d1
  clear hgs b1 b2 hn1 hn2
  go_enter Tryd.func38, Tryd.ntmps38
  go_wp2
  go_loop [3, 11] (fun s i => (i = .int .i64 0 ∧ s = .int .i64 0) ∨ (i = .int .i64 1 ∧ s = .int .i64 (n1 : Int)) ∨ (i = .int .i64 2 ∧ s = .int .i64 ((n1 : Int) + n2))) (fun _ i => 2 - (intOf i).toNat)
  case atStart => exact .inl ⟨rfl, rfl⟩
  case round =>
    rcases hrel with ⟨rfl, rfl⟩ | ⟨rfl, rfl⟩ | ⟨rfl, rfl⟩
    · go_wp2
      go_round
      case rel => exact .inr (.inl ⟨rfl, by simp⟩)
      case measure => simp [intOf]
    · go_wp2
      go_round
      case rel => exact .inr (.inr ⟨rfl, rfl⟩)
      case measure => simp [intOf]
    · have hsum : (n1 : Int) + n2 = ((n1 + n2 : Nat) : Int) := by omega
      rw [hsum]
      have Hg := Lib.hid (grow_any (n1 + n2) (by omega) (by omega) w)
      clear hsum
      go_wp2_with (go_at_call 49; refine Hg.out.mono ?_; rintro e w1 ⟨c, C, rfl, hc1, hc2, hC, hr, hlow⟩; have HC := Lib.hid hC; have Hr := Lib.hid hr; clear hC hr)
      obtain ⟨i0, hi0, hz00, hz10, hz20⟩ := info_parts info5
      have hi := Lib.hid hi0
      have hz1 := Lib.hid hz10
      clear hi0 hz00 hz10 hz20
      go_loopw [6, 27] (fun v i wr => (i = .int .i64 0 ∧ v = .slice (some ⟨w.heap.size, 0, none⟩) 0 c ∧ CInv w.heap.size c [] w wr) ∨ (i = .int .i64 1 ∧ v = .slice (some ⟨w.heap.size, 0, none⟩) n1 c ∧ CInv w.heap.size c L1 w wr) ∨ (i = .int .i64 2 ∧ v = .slice (some ⟨w.heap.size, 0, none⟩) (n1 + n2) c ∧ CInv w.heap.size c (L1 ++ L2) w wr)) (fun _ i _ => 2 - (intOf i).toNat)
      case atStart => exact .inl ⟨rfl, rfl, ⟨⟨by simp [vals], .inr ⟨_, c, C, rfl, Nat.le_refl _, Hr.out, Nat.zero_le _, hc2, by rw [HC.out]; omega, by simp [vals]⟩⟩, hlow⟩⟩
      case round =>
        clear Hr HC hlow
        rcases hrel with ⟨rfl, rfl, hinv⟩ | ⟨rfl, rfl, hinv⟩ | ⟨rfl, rfl, hinv⟩
        · have e0 : wr.cell? ⟨gs, 0, none⟩ = some (.slice A1 n1 c1) := (hinv.low.cell (p := ⟨gs, 0, none⟩) hlt).trans D0.out
          have hsz := hinv.low.size
          go_wp2_with (at_builtin; refine wpList_append_fits_any _ rfl (.tmp 31) (.tmp 32) 24 rfl w.heap.size 5 i0 1 Tryd.underlying24 hi.out hz1.out w.heap.size 0 c (vals []) rfl hinv.own A1 n1 c1 (vals L1) rfl (by rw [vals_length, N1.out]; omega) (fun h => ⟨by have := B1.out.1; have := B1.out.2.1 h; have := N1.out; omega, B1.out.2.1 h⟩) (fun ad h => B1.out.cells (fun p hp => hinv.low.cell hp) ad h) (vals_one _) (by omega) ?_; intro w2 hown2 hgrow2; have low2 := hinv.low.grown hgrow2 (by omega) (fun k hk => by cases hk; exact Nat.le_refl _); have Hown2 := Lib.hid hown2; clear hown2 hgrow2)
          go_roundw
          case rel => exact .inr (.inl ⟨rfl, by simp, ⟨by have := Hown2.out; rw [N1.out]; simpa [vals] using this, low2⟩⟩)
          case measure => simp [intOf]
        · have e1 : wr.cell? ⟨gs, 1, none⟩ = some (.slice A2 n2 c2) := (hinv.low.cell (p := ⟨gs, 1, none⟩) hlt).trans D1.out
          have hsz := hinv.low.size
          have hown : wr.ownsRow w.heap.size 5 1 (.slice (some ⟨w.heap.size, 0, none⟩) n1 c) n1 (vals L1) := by have := hinv.own; rwa [N1.out] at this
          have Hown := Lib.hid hown
          clear hown
          go_wp2_with (at_builtin; refine wpList_append_fits_any _ rfl (.tmp 31) (.tmp 32) 24 rfl w.heap.size 5 i0 1 Tryd.underlying24 hi.out hz1.out w.heap.size n1 c (vals L1) rfl Hown.out A2 n2 c2 (vals L2) rfl (by rw [vals_length, N2.out]; omega) (fun h => ⟨by have := B2.out.1; have := B2.out.2.1 h; have := N2.out; omega, B2.out.2.1 h⟩) (fun ad h => B2.out.cells (fun p hp => hinv.low.cell hp) ad h) (vals_one _) (by omega) ?_; intro w2 hown2 hgrow2; have low2 := hinv.low.grown hgrow2 (by omega) (fun k hk => by cases hk; exact Nat.le_refl _); have Hown2 := Lib.hid hown2; clear hown2 hgrow2)
          go_roundw
          case rel => exact .inr (.inr ⟨rfl, rfl, ⟨by have := Hown2.out; rw [List.length_append, N1.out, N2.out]; simpa [vals] using this, low2⟩⟩)
          case measure => simp [intOf]
        · go_wp2
          go_ret
          exact ⟨w.heap.size, c, rfl, hinv.byt, hinv.low⟩
end Go.Proofs.YtgkmbamoffolgaaDoor
/- DERIVED. The contract of sha.mixBlocks: the whole blocks of some bytes, mixed into a state; the bytes that are left. -/
namespace Go.Proofs.YtgkmbamoffolgaaDoor
open Go.RowKit
/-- block number k of the bytes L. -/
def blk (L : List Int) (k : Nat) : List Int := (L.drop (64 * k)).take 64
/-- the state behind the first k blocks. -/
def foldB (s : W8) (L : List Int) : Nat → W8
  | 0 => s
  | k + 1 => mixK KW (foldB s L k) (blk L k)
theorem blk_length {L : List Int} {k : Nat} (h : 64 * k + 64 ≤ L.length) : (blk L k).length = 64 := by simp [blk]; omega
theorem InB.blk {L : List Int} (h : InB L) (k : Nat) : InB (blk L k) := (h.drop _).take _
def zero64 : Array Value := #[.int .u8 0, .int .u8 0, .int .u8 0, .int .u8 0, .int .u8 0, .int .u8 0, .int .u8 0, .int .u8 0, .int .u8 0, .int .u8 0, .int .u8 0, .int .u8 0, .int .u8 0, .int .u8 0, .int .u8 0, .int .u8 0, .int .u8 0, .int .u8 0, .int .u8 0, .int .u8 0, .int .u8 0, .int .u8 0, .int .u8 0, .int .u8 0, .int .u8 0, .int .u8 0, .int .u8 0, .int .u8 0, .int .u8 0, .int .u8 0, .int .u8 0, .int .u8 0, .int .u8 0, .int .u8 0, .int .u8 0, .int .u8 0, .int .u8 0, .int .u8 0, .int .u8 0, .int .u8 0, .int .u8 0, .int .u8 0, .int .u8 0, .int .u8 0, .int .u8 0, .int .u8 0, .int .u8 0, .int .u8 0, .int .u8 0, .int .u8 0, .int .u8 0, .int .u8 0, .int .u8 0, .int .u8 0, .int .u8 0, .int .u8 0, .int .u8 0, .int .u8 0, .int .u8 0, .int .u8 0, .int .u8 0, .int .u8 0, .int .u8 0, .int .u8 0]
theorem copied (cur : Array Value) (l : List Int) (h1 : cur.size = 64) (h2 : l.length = 64) : (cur.toList.take 0 ++ (vals l ++ cur.toList.drop (0 + (vals l).length))).toArray = u8s l := by
  have : cur.toList.drop (0 + (vals l).length) = [] := List.drop_eq_nil_of_le (by rw [vals_length]; simp; omega)
  rw [this]
  simp [u8s, vals]
structure MInv (s : W8) (L : List Int) (N k c : Nat) (A : Option Addr) (wb w wr : World) : Prop where
  byt : Byt wb A c (L.drop (64 * k))
  st : wr.heap[N]? = some (.cells (u32s (foldB s L k).list) 77 (0, 0))
  res : ∃ Z : Array Value, Z.size = 8 ∧ wr.heap[N + 1]? = some (.cells Z 77 (0, 0))
  low : Below N w wr
theorem info26 : (Tryd.prog.info? 5).map (·.size) = some 1 := by kernel_rfl

set_option maxRecDepth 100000 in
set_option maxHeartbeats 1000000 in
theorem mixBlocks_any (s : W8) (L : List Int) (A : Option Addr) (c n : Nat) (wb w : World) (hn : L.length = n) (hb : InB L) (hB : Byt wb A c L) (hwb : Below wb.heap.size wb w) (hL : Laid w) :
    Calls Tryd.prog 59 #[.agg (u32s s.list), .slice A n c] w fun e' w' => ∃ A' c', e' = .returned (.tuple #[.agg (u32s (foldB s L (n / 64)).list), .slice A' (n % 64) c']) ∧ Byt wb A' c' (L.drop (64 * (n / 64))) ∧ Below w.heap.size w w' := by
  have Hn := Lib.hid hn
  have Hb := Lib.hid hb
  have HB := Lib.hid hB
  have HL := Lib.hid hL
  have h2 := Lib.hid (two_new w (.cells (u32s s.list) 77))
  clear hn hb hB hL
  go_enter Tryd.func59, Tryd.ntmps59
  go_wp2
  go_loopw [1] (fun v wr => ∃ (k c' : Nat) (A' : Option Addr), 64 * k ≤ n ∧ v = .slice A' (n - 64 * k) c' ∧ MInv s L w.heap.size k c' A' wb w wr) (fun v _ => match v with | .slice _ m _ => m | _ => 0)
  case atStart => exact ⟨0, c, A, Nat.zero_le _, rfl, by simpa using HB.out, (h2.out _).1, ⟨_, rfl, (h2.out _).2⟩, ((Below.refl _ _).alloc (Nat.le_refl _) _).alloc (by simp) _⟩
  case round =>
    obtain ⟨k, c', A', hk, rfl, hinv⟩ := hrel
    clear h2
    by_cases hlt : 64 ≤ n - 64 * k
    · have hlen : (blk L k).length = 64 := blk_length (by have := Hn.out; omega)
      have hdl : (L.drop (64 * k)).length = n - 64 * k := by simp [Hn.out]
      obtain ⟨g, off, rfl, hg, hcell⟩ := hinv.byt.2.2 (by rw [hdl]; omega)
      have hcc := hinv.byt.1
      rw [hdl] at hcc
      have hwr := hinv.low.size
      have hwbs := hwb.size
      have hsz := HL.out.sz
      obtain ⟨w2, hw2⟩ : ∃ w2, w2 = wr.alloc (.cells (u8s (blk L k)) 61) := ⟨_, rfl⟩
      have low2 : Below w.heap.size w w2 := by rw [hw2]; exact hinv.low.alloc hwr _
      have hNlt : w.heap.size < wr.heap.size := (Array.getElem?_eq_some_iff.1 hinv.st).1
      have st2 : w2.heap[w.heap.size]? = some (.cells (u32s (foldB s L k).list) 77) := by rw [hw2]; exact (Go.heap_alloc_old wr _ hNlt).trans hinv.st
      have bl2 : w2.heap[wr.heap.size]? = some (.cells (u8s (blk L k)) 61) := by rw [hw2]; exact Go.heap_alloc_new wr _
      have hs2 : wr.heap.size + 1 = w2.heap.size := by rw [hw2]; simp
      have laid2 : Laid w2 := HL.out.below low2 hsz
      have Hsrc : Hid (∀ j v, (vals (blk L k))[j]? = some v → (wr.alloc (.cells zero64 61)).cell? ((⟨g, off, none⟩ : Addr).add j) = some v) := by
        intro j v hv
        obtain ⟨hj, rfl⟩ := vals_get hv
        rw [Addr.add_mid, World.cell?_alloc_past _ _ _ (by omega), hinv.low.cell (p := ⟨g, off + j, none⟩) (Nat.lt_of_lt_of_le hg hwb.size), hwb.cell (p := ⟨g, off + j, none⟩) hg, hcell j (by rw [hdl]; omega)]
        simp [blk, List.getD_eq_getElem?_getD, List.getElem?_drop, show j < 64 by omega]
      have Hlen := Lib.hid hlen
      have Hw2 := Lib.hid hw2
      have St2 := Lib.hid st2
      have Bl2 := Lib.hid bl2
      have Hcell := Lib.hid hcell
      have Hi8 : Hid ((Tryd.prog.info? 77).map (·.size) = some (u32s (foldB s L k).list).size) := info24
      have Hi64 : Hid ((Tryd.prog.info? 61).map (·.size) = some (u8s (blk L k)).size) := by show _ = _; rw [u8s_size, hlen]; exact info25
      have Hi8' : Hid ((Tryd.prog.info? 77).map (·.size) = some (u32s (foldB s L (k + 1)).list).size) := info24
      have Hmin : Hid ((vals (blk L k)).length = Nat.min (n - 64 * k) 64) := by show _ = _; rw [vals_length, hlen]; exact (Nat.min_eq_right hlt).symm
      have hst : w2.heap.size ≤ w2.heap.size := Nat.le_refl _
      clear hw2 st2 bl2 hcell hlen hdl hs2
      go_wp2_with (first
        | (refine wpList_copy_own rfl (.tmp 10) (.tmp 11) 24 24 rfl 5 Tryd.underlying24 info26 wr.heap.size 0 64 64 ⟨g, off, none⟩ (n - 64 * k) c' rfl rfl zero64 61 (Go.heap_alloc_new _ _) (vals (blk L k)) Hmin.out Hsrc.out (by rw [vals_length, Hlen.out]; decide) (vals_one _) ?_; rw [World.setRow_alloc_new, copied _ _ rfl Hlen.out, ← Hw2.out])
        | (refine wpList_load_row rfl 77 (.tmp 2) rfl w.heap.size rfl 77 (u32s (foldB s L k).list) (0, 0) _ St2.out Tryd.underlying77 rfl Hi8.out ?_)
        | (refine wpList_load_row rfl 61 (.tmp 6) rfl wr.heap.size rfl 61 (u8s (blk L k)) (0, 0) _ Bl2.out Tryd.underlying61 rfl Hi64.out ?_)
        | (go_at_call 71; refine (mix_any (foldB s L k) (blk L k) Hlen.out (Hb.out.blk k) _ laid2).mono ?_; rintro e w3 ⟨rfl, low3⟩)
        | (refine wpList_store_row rfl 77 (.tmp 2) (.tmp 15) rfl w.heap.size (u32s (foldB s L (k + 1)).list) rfl rfl 77 _ ((low3.block _ (Nat.lt_of_le_of_lt (Nat.le_refl _) (Array.getElem?_eq_some_iff.1 St2.out).1)).trans St2.out) Hi8'.out rfl (u32s_one _) ?_))
      go_roundw
      case rel =>
        have hw2 := Hw2.out
        have hcut := hinv.byt.cut (n := 64) (by simp [Hn.out]; omega)
        rw [List.drop_drop] at hcut
        refine ⟨k + 1, c' - 64, if c' = 64 then some ⟨g, off, none⟩ else some ⟨g, off + 64, none⟩, by omega, by rw [show n - 64 * (k + 1) = n - 64 * k - 64 by omega], ?_, ?_, ?_, ?_⟩
        · simpa [Addr.add_mid, Nat.mul_add, Nat.add_comm, Nat.add_left_comm] using hcut
        · exact setRow_heap w3 _ _ _ _ _ ((low3.block _ (Array.getElem?_eq_some_iff.1 St2.out).1).trans St2.out)
        · obtain ⟨Z, hZ, hz⟩ := hinv.res
          have hzlt := (Array.getElem?_eq_some_iff.1 hz).1
          refine ⟨Z, hZ, ?_⟩
          rw [setRow_other w3 _ _ _ (by omega), low3.block _ (by rw [hw2]; simp; omega), hw2]
          exact (Go.heap_alloc_old wr _ hzlt).trans hz
        · exact below_setRow (low2.trans (low3.mono low2.size)) (Nat.le_refl _) _
      case measure =>
        show n - 64 * k - 64 < n - 64 * k
        omega
    · have hk64 : k = n / 64 := by omega
      have hmod : n - 64 * k = n % 64 := by omega
      obtain ⟨Z, hZ, hz⟩ := hinv.res
      have byt := hinv.byt
      have low := hinv.low
      have St := Lib.hid hinv.st
      have Hz := Lib.hid hz
      have HZ := Lib.hid hZ
      have Hk64 := Lib.hid hk64
      have Hmod := Lib.hid hmod
      have Hi8 : Hid ((Tryd.prog.info? 77).map (·.size) = some (u32s (foldB s L k).list).size) := info24
      clear hz hZ hinv hk64 hmod
      go_wp2_with (first
        | (refine wpList_load_row rfl 77 (.tmp 2) rfl w.heap.size rfl 77 (u32s (foldB s L k).list) (0, 0) _ St.out Tryd.underlying77 rfl Hi8.out ?_)
        | (refine wpList_store_row rfl 77 (.tmp 4) (.tmp 18) rfl (w.heap.size + 1) (u32s (foldB s L k).list) rfl rfl 77 _ Hz.out Hi8.out HZ.out (u32s_one _) ?_))
      refine bodyPost_ret (v := .tuple #[.agg (u32s (foldB s L k).list), .slice A' (n - 64 * k) c']) (results_row_tmp rfl _ _ (w.heap.size + 1) 77 _ (0, 0) _ _ rfl rfl (setRow_heap wr _ _ _ _ _ Hz.out) Tryd.underlying77 rfl Hi8.out) rfl ?_
      rw [← Hk64.out, ← Hmod.out]
      have low' : Below w.heap.size w (wr.setRow (w.heap.size + 1) (u32s (foldB s L k).list)) := below_setRow low (by omega) _
      exact ⟨A', c', rfl, byt, low'⟩
end Go.Proofs.YtgkmbamoffolgaaDoor
