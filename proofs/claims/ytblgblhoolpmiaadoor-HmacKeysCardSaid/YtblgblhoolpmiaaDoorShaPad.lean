/- DERIVED. The contracts of sha.padding and sha.Behind: the bytes behind n bytes. -/
import Derived.Test.YtblgblhoolpmiaaDoorShaStart
import Derived.OwnWalk
import Derived.Laws.MakeOwn
namespace Go.Proofs.YtblgblhoolpmiaaDoor
open Go.RowKit
/-- how many zero bytes. -/
def zeros (n : Nat) : Nat := (128 - (n % 64 + 9)) % 64
def padLen (n : Nat) : Nat := 9 + zeros n
/-- byte j of the padding behind n bytes. -/
def padF (n j : Nat) : Int := if j = 0 then 128 else if j < 1 + zeros n then 0 else ((8 * n : Nat) : Int) / 2 ^ (8 * (padLen n - 1 - j)) % 256
def padL (n : Nat) : List Int := (List.range (padLen n)).map (padF n)
theorem padL_length (n : Nat) : (padL n).length = padLen n := by simp [padL]
theorem padL_getD (n j : Nat) (h : j < padLen n) : padF n j = (padL n).getD j 0 := by simp [padL, h]
theorem padF_zero (n : Nat) : padF n 0 = 128 := rfl
theorem padF_mid (n j : Nat) (h0 : j ≠ 0) (h : j < 1 + zeros n) : padF n j = 0 := by unfold padF; rw [if_neg h0, if_pos h]
theorem padF_tail (n i : Nat) (h : i < 8) : padF n (padLen n - 1 - i) = 8 * (n : Int) / 2 ^ (8 * i) % 256 := by
  unfold padF
  rw [if_neg (by unfold padLen; omega), if_neg (by unfold padLen; omega), show padLen n - 1 - (padLen n - 1 - i) = i by unfold padLen; omega]
  rw [show ((8 * n : Nat) : Int) = 8 * (n : Int) by omega]
attribute [irreducible] padF
theorem zeros_lt (n : Nat) : zeros n < 64 := by unfold zeros; omega
theorem whole_blocks (n : Nat) : (n + padLen n) % 64 = 0 := by unfold padLen zeros; omega
theorem info5 : (Tryd.prog.info? 5).map (fun i => (i.zero, i.size, i.bytes)) = some (some (.int .u8 0), 1, 1) := by kernel_rfl
theorem made_row {w : World} {base g n : Nat} (h : w.ownsRow base 5 1 (.slice (some ⟨g, 0, none⟩) n n) n (madeCells (Value.cells (.int .u8 0)) (n * 1)).toList) :
    ∃ C : Array Value, C.size = n ∧ w.heap[g]? = some (.cells C 5 (0, 0)) ∧ ∀ j, j < n → C[j]? = some (.int .u8 0) := by
  obtain ⟨_, h⟩ := h
  rcases h with ⟨h, _⟩ | ⟨g', cap, cur, hv, _, hh, _, _, hs, ht⟩
  · cases h
  · simp only [Value.slice.injEq, Option.some.injEq, Addr.mk.injEq, and_true] at hv
    obtain ⟨rfl, _, rfl⟩ := hv
    refine ⟨cur, by omega, hh, fun j hj => ?_⟩
    have h1 : cur.toList = (madeCells (Value.cells (.int .u8 0)) (n * 1)).toList := by
      rw [← ht, List.take_of_length_le (by rw [Array.length_toList]; omega)]
    have h2 : cur[j]? = cur.toList[j]? := by simp
    rw [h2, h1]
    have h3 : j % 1 = 0 := by omega
    simp [madeCells, Value.cells, hj, h3]
/-- what the loop of padding keeps. -/
structure PInv (n N P k : Nat) (w wr : World) : Prop where
  row : ∃ C : Array Value, C.size = P ∧ wr.heap[N]? = some (.cells C 5 (0, 0)) ∧ (∀ j, j < P - 8 → C[j]? = some (.int .u8 (padF n j))) ∧ ∀ i, i < k → C[P - 1 - i]? = some (.int .u8 (padF n (P - 1 - i)))
  low : Below N w wr
theorem PInv.set {n N P k : Nat} {w wr : World} (h : PInv n N P k w wr) (hP : 9 ≤ P) (hk : k < 8) (v : Int) (hv : v = padF n (P - 1 - k)) :
    PInv n N P (k + 1) w (wr.setCell ⟨N, P - 1 - k, none⟩ (.int .u8 v)) := by
  obtain ⟨C, hC, hr, h1, h2⟩ := h.row
  refine ⟨⟨_, ?_, heap_setCell_same _ _ _ _ _ _ hr, ?_, ?_⟩, h.low.setCell (by simp) _⟩
  · simp [hC]
  · intro j hj
    rw [Array.getElem?_setIfInBounds, if_neg (by omega)]
    exact h1 j hj
  · intro i hi
    rw [Array.getElem?_setIfInBounds]
    by_cases e : P - 1 - k = P - 1 - i
    · rw [if_pos e, if_pos (by omega), hv, e]
    · rw [if_neg e]; exact h2 i (by omega)
set_option maxRecDepth 100000 in
set_option maxHeartbeats 1000000 in
theorem padding_any (n : Nat) (hn : n < 2305843009213693952) (w : World) :
    Calls Tryd.prog 32 #[.int .u64 (n : Int)] w fun e' w' => e' = .returned (.slice (some ⟨w.heap.size, 0, none⟩) (padLen n) (padLen n)) ∧ w'.heap[w.heap.size]? = some (.cells (u8s (padL n)) 5 (0, 0)) ∧ Below w.heap.size w w' := by
  obtain ⟨i0, hi, hz0, hz1, hz2⟩ := info_parts info5
  have hi := Lib.hid hi
  have hz0 := Lib.hid hz0
  have hz1 := Lib.hid hz1
  have hz2 := Lib.hid hz2
  have z1 := zeros_lt n
  obtain ⟨P, hP⟩ : ∃ P, P = padLen n := ⟨_, rfl⟩
  have hP1 : 9 ≤ P := by rw [hP]; unfold padLen; omega
  have hP2 : P ≤ 72 := by rw [hP]; unfold padLen; omega
  have HL : Hid ((1 + (128 - ((n : Int) % 64 + 1 + 8)) % 64 + 8) = (P : Int)) := by show _ = _; rw [hP]; unfold padLen zeros; omega
  rw [← hP]
  have HP := Lib.hid hP
  have Hn := Lib.hid hn
  have hn' : (n : Int) < 2305843009213693952 := by omega
  clear hP hn z1
  go_enter Tryd.func32, Tryd.ntmps32
  go_wp2_with (refine wpList_make_full _ rfl (.tmp 18) (.tmp 18) 26 rfl w.heap.size 5 i0 (.int .u8 0) 1 Tryd.underlying26 hi.out hz0.out hz1.out .i64 .i64 _ _ P rfl rfl HL.out HL.out (by rw [hz2.out]; omega) (by unfold maxLen; omega) (Nat.le_refl _) ?_; intro w1 hown hgrow; obtain ⟨C, hC, hr, hc⟩ := made_row hown; have hs1 := hgrow.size; have low1 := (Below.refl w.heap.size w).grown hgrow (Nat.le_refl _) (fun k hk => by cases hk); have Hr := Lib.hid hr; have Hc := Lib.hid hc; have HC := Lib.hid hC; have d0 := cell_row hr 0; rw [hc 0 (by omega)] at d0; have d0f := free_row hr 0; clear hown hgrow hr hc hC)
  clear hn'
  go_loopw [24] (fun i wr => ∃ k : Nat, k ≤ 8 ∧ i = .int .i64 k ∧ PInv n w.heap.size P k w wr) (fun i _ => 8 - (intOf i).toNat)
  case atStart =>
    refine ⟨0, Nat.zero_le _, rfl, ⟨_, ?_, heap_setCell_same _ _ _ _ _ _ Hr.out, ?_, fun i hi => absurd hi (Nat.not_lt_zero _)⟩, low1.setCell (by simp) _⟩
    · simp [HC.out]
    · intro j hj
      rw [Array.getElem?_setIfInBounds]
      by_cases e : 0 = j
      · subst e; rw [if_pos rfl, if_pos (by rw [HC.out]; omega), padF_zero]
      · rw [if_neg e, Hc.out j (by omega), padF_mid n j (by omega) (by have := HP.out; unfold padLen at this; omega)]
  case round =>
    obtain ⟨k, hk, rfl, hinv⟩ := hrel
    clear d0 d0f low1 hs1 Hr Hc HC
    by_cases hlt : k < 8
    · obtain ⟨C, hC, hr, _, _⟩ := hinv.row
      obtain ⟨v, hv⟩ : ∃ v, wr.cell? ⟨w.heap.size, P - 1 - k, none⟩ = some v := by
        rw [cell_row hr]; exact ⟨_, Array.getElem?_eq_getElem (by omega)⟩
      have hfz := free_row hr (P - 1 - k)
      have t1 : ((P : Int) - 1 - (k : Int)).toNat = P - 1 - k := by omega
      have t2 : (0 : Int) ≤ (P : Int) - 1 - (k : Int) := by omega
      have t3 : (P : Int) - 1 - (k : Int) < P := by omega
      clear hr hC
      go_wp2
      go_roundw
      case rel => exact ⟨k + 1, by omega, by go_num, hinv.set (by omega) hlt _ (by rw [HP.out, padF_tail n k hlt])⟩
      case measure => simp [intOf]; omega
    · have h8 : k = 8 := by omega
      rw [h8] at hinv
      obtain ⟨C, hC, hr, g1, g2⟩ := hinv.row
      have low := hinv.low
      have hCe : C = u8s (padL n) := by
        refine HoldsB.whole (n := P) (f := padF n) ⟨hC, fun j hj => ?_⟩ (by rw [padL_length, HP.out]) (fun j hj => padL_getD n j (by rw [← HP.out]; exact hj))
        by_cases hj8 : j < P - 8
        · exact g1 j hj8
        · have := g2 (P - 1 - j) (by omega)
          rwa [show P - 1 - (P - 1 - j) = j by omega] at this
      rw [hCe] at hr
      have Hr := Lib.hid hr
      clear h8 hk hinv g1 g2 hCe hr hC
      go_wp2
      go_ret
      exact ⟨rfl, Hr.out, low⟩
end Go.Proofs.YtblgblhoolpmiaaDoor
