/- DERIVED. Texts of ours, merged: XChaStreamSpec. -/
import Derived.Test.YtgkmbamoffolgaaDoorMseal8
/- DERIVED. PLAIN MATHEMATICS: what a stream is, by blocks. No program. -/
namespace Go.Proofs.YtgkmbamoffolgaaDoor.Cha
/-- byte j of a stream. -/
def strF (K : List Int) (c : Int) (Nn L : List Int) (j : Nat) : Int := bits .xor .u8 (L.getD j 0) ((blockL K (c + (j / 64 : Nat)) Nn).getD (j % 64) 0)
/-- what the bytes L become. -/
def streamL (K : List Int) (c : Int) (Nn L : List Int) : List Int := (List.range L.length).map (strF K c Nn L)
theorem streamL_length (K : List Int) (c : Int) (Nn L : List Int) : (streamL K c Nn L).length = L.length := by simp [streamL]
theorem streamL_getD (K : List Int) (c : Int) (Nn L : List Int) (j : Nat) (h : j < L.length) : (streamL K c Nn L).getD j 0 = strF K c Nn L j := by simp [streamL, h]
/-- the first m bytes of what piece x becomes. -/
def pieceL (K : List Int) (c : Int) (Nn L : List Int) (x m : Nat) : List Int := (List.range m).map fun j => strF K c Nn L (x * 64 + j)
theorem pieceL_length (K : List Int) (c : Int) (Nn L : List Int) (x m : Nat) : (pieceL K c Nn L x m).length = m := by simp [pieceL]
theorem pieceL_succ (K : List Int) (c : Int) (Nn L : List Int) (x m : Nat) : pieceL K c Nn L x (m + 1) = pieceL K c Nn L x m ++ [strF K c Nn L (x * 64 + m)] := by
  simp [pieceL, List.range_succ]
theorem strF_at (K : List Int) (c : Int) (Nn L : List Int) (x m : Nat) (h : m < 64) : strF K c Nn L (x * 64 + m) = bits .xor .u8 (L.getD (x * 64 + m) 0) ((blockL K (c + (x : Nat)) Nn).getD m 0) := by
  unfold strF
  rw [show (x * 64 + m) / 64 = x by omega, show (x * 64 + m) % 64 = m by omega]
/-- what pieces become, one behind the other. -/
def outsL {n : Nat} (K : List Int) (c : Int) (Nn L : List Int) (xs : List (Fin n)) : List Int := xs.flatMap fun x => pieceL K c Nn L x.val (min 64 (L.length - x.val * 64))
theorem outsL_snoc {n : Nat} (K : List Int) (c : Int) (Nn L : List Int) (xs : List (Fin n)) (x : Fin n) : outsL K c Nn L (xs ++ [x]) = outsL K c Nn L xs ++ pieceL K c Nn L x.val (min 64 (L.length - x.val * 64)) := by
  simp [outsL, List.flatMap_append]
theorem outsL_le {n : Nat} (K : List Int) (c : Int) (Nn L : List Int) (xs : List (Fin n)) : (outsL K c Nn L xs).length ≤ 64 * xs.length := by
  induction xs with
  | nil => simp [outsL]
  | cons x xs ih =>
    have h : outsL K c Nn L (x :: xs) = pieceL K c Nn L x.val (min 64 (L.length - x.val * 64)) ++ outsL K c Nn L xs := by simp [outsL]
    rw [h, List.length_append, pieceL_length, List.length_cons]
    omega
theorem outs_take (K : List Int) (c : Int) (Nn L : List Int) (k : Nat) (hk : k ≤ nbl L.length) : outsL K c Nn L ((List.finRange (nbl L.length)).take k) = (streamL K c Nn L).take (k * 64) := by
  induction k with
  | zero => simp [outsL]
  | succ k ih =>
    have hlt : k < nbl L.length := by omega
    rw [take_next hlt, outsL_snoc, ih (by omega)]
    show (streamL K c Nn L).take (k * 64) ++ pieceL K c Nn L k (min 64 (L.length - k * 64)) = _
    have hk64 : k * 64 < L.length := by unfold nbl at hlt; omega
    have hm : ((streamL K c Nn L).take (k * 64)).length = k * 64 := by rw [List.length_take, streamL_length]; exact Nat.min_eq_left (by omega)
    obtain ⟨r, hr⟩ : ∃ r, r = min 64 (L.length - k * 64) := ⟨_, rfl⟩
    have hr1 : r ≤ 64 := by rw [hr]; exact Nat.min_le_left _ _
    have hr2 : r ≤ L.length - k * 64 := by rw [hr]; exact Nat.min_le_right _ _
    have hr3 : r = 64 ∨ r = L.length - k * 64 := by rw [hr]; exact (Nat.le_total 64 (L.length - k * 64)).imp (fun h => Nat.min_eq_left h) (fun h => Nat.min_eq_right h)
    rw [← hr]
    apply List.ext_getElem?
    intro j
    rw [List.getElem?_append, hm, List.getElem?_take, List.getElem?_take]
    by_cases h1 : j < k * 64
    · rw [if_pos h1, if_pos h1, if_pos (by omega)]
    · rw [if_neg h1]
      by_cases h2 : j < (k + 1) * 64
      · rw [if_pos h2]
        by_cases h3 : j < L.length
        · simp only [pieceL, streamL, List.getElem?_map]
          rw [List.getElem?_range (by omega), List.getElem?_range h3]
          simp only [Option.map_some]
          rw [show k * 64 + (j - k * 64) = j by omega]
        · rw [List.getElem?_eq_none (by rw [pieceL_length]; omega), List.getElem?_eq_none (by rw [streamL_length]; omega)]
      · rw [if_neg h2, List.getElem?_eq_none (by rw [pieceL_length]; omega)]
theorem outs_all (K : List Int) (c : Int) (Nn L : List Int) : outsL K c Nn L (List.finRange (nbl L.length)) = streamL K c Nn L := by
  have h := outs_take K c Nn L (nbl L.length) (Nat.le_refl _)
  rw [List.take_of_length_le (by simp), List.take_of_length_le (by rw [streamL_length]; unfold nbl; omega)] at h
  exact h
end Go.Proofs.YtgkmbamoffolgaaDoor.Cha
