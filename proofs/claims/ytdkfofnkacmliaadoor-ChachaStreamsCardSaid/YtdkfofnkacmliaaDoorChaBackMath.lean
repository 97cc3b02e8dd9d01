/- DERIVED. What a stream's stream is; a stream's beginning; a stream from a later block on. -/
import Derived.Test.YtdkfofnkacmliaaDoorChaStreamNo
import Derived.Laws.BytesArg
namespace Go.Proofs.YtdkfofnkacmliaaDoor.Cha
open Go.RowKit
theorem xor8_back {a k : Int} (h1 : 0 ≤ a) (h2 : a < 256) (h3 : 0 ≤ k) (h4 : k < 256) : bits .xor .u8 (bits .xor .u8 a k) k = a := by
  have hx : (0 : Int) ≤ bits .xor .u8 a k ∧ bits .xor .u8 a k < 256 := by
    rw [u8_xor a k h1 h2 h3 h4]
    have : a.toNat ^^^ k.toNat < 2 ^ 8 := Nat.xor_lt_two_pow (by omega) (by omega)
    omega
  rw [u8_xor _ k hx.1 hx.2 h3 h4, u8_xor a k h1 h2 h3 h4, Int.toNat_natCast, Nat.xor_assoc, Nat.xor_self, Nat.xor_zero]
  omega
theorem strF_in (K : List Int) (c : Int) (Nn L : List Int) (hL : InB L) (j : Nat) : 0 ≤ strF K c Nn L j ∧ strF K c Nn L j < 256 := by
  have ha := hL j
  have hk := blockL_in K (c + (j / 64 : Nat)) Nn (j % 64)
  unfold strF
  rw [u8_xor _ _ ha.1 ha.2 hk.1 hk.2]
  have : (L.getD j 0).toNat ^^^ ((blockL K (c + (j / 64 : Nat)) Nn).getD (j % 64) 0).toNat < 2 ^ 8 := Nat.xor_lt_two_pow (by omega) (by omega)
  omega
theorem streamL_in (K : List Int) (c : Int) (Nn L : List Int) (hL : InB L) : InB (streamL K c Nn L) := by
  intro j
  by_cases h : j < L.length
  · rw [streamL_getD _ _ _ _ _ h]; exact strF_in K c Nn L hL j
  · rw [getD_out _ _ (by rw [streamL_length]; omega)]; omega
theorem stream_twice (K : List Int) (c : Int) (Nn L : List Int) (hL : InB L) : streamL K c Nn (streamL K c Nn L) = L := by
  apply List.ext_getElem (by rw [streamL_length, streamL_length])
  intro j h1 h2
  have e1 : (streamL K c Nn (streamL K c Nn L))[j] = (streamL K c Nn (streamL K c Nn L)).getD j 0 := by simp [List.getD_eq_getElem?_getD, h1]
  have e2 : L[j] = L.getD j 0 := by simp [List.getD_eq_getElem?_getD, h2]
  rw [e1, e2, streamL_getD _ _ _ _ _ (by rw [streamL_length]; exact h2)]
  unfold strF
  rw [streamL_getD _ _ _ _ _ h2]
  exact xor8_back (hL j).1 (hL j).2 (blockL_in _ _ _ _).1 (blockL_in _ _ _ _).2
theorem stream_take (K : List Int) (c : Int) (Nn L : List Int) (k : Nat) (hk : k ≤ L.length) : streamL K c Nn (L.take k) = (streamL K c Nn L).take k := by
  apply List.ext_getElem?
  intro j
  rw [List.getElem?_take]
  unfold streamL
  rw [List.getElem?_map, List.getElem?_map, List.length_take]
  by_cases h : j < k
  · rw [if_pos h, List.getElem?_range (by rw [Nat.min_eq_left hk]; exact h), List.getElem?_range (by omega)]
    simp only [Option.map_some]
    unfold strF
    rw [show (L.take k).getD j 0 = L.getD j 0 by simp [List.getD_eq_getElem?_getD, h]]
  · rw [if_neg h, List.getElem?_eq_none (by rw [List.length_range, Nat.min_eq_left hk]; omega)]
    simp only [Option.map_none]
theorem stream_drop (K : List Int) (c : Int) (Nn L : List Int) (q : Nat) : streamL K (c + (q : Nat)) Nn (L.drop (64 * q)) = (streamL K c Nn L).drop (64 * q) := by
  apply List.ext_getElem?
  intro j
  rw [List.getElem?_drop]
  unfold streamL
  rw [List.getElem?_map, List.getElem?_map, List.length_drop]
  by_cases h : j < L.length - 64 * q
  · rw [List.getElem?_range h, List.getElem?_range (by omega)]
    simp only [Option.map_some]
    unfold strF
    rw [show (L.drop (64 * q)).getD j 0 = L.getD (64 * q + j) 0 by simp [List.getD_eq_getElem?_getD, List.getElem?_drop], show (64 * q + j) / 64 = q + j / 64 by omega, show (64 * q + j) % 64 = j % 64 by omega, show c + ((q : Nat) : Int) + ((j / 64 : Nat) : Int) = c + ((q + j / 64 : Nat) : Int) by omega]
  · rw [List.getElem?_eq_none (by simp; omega), List.getElem?_eq_none (by simp; omega)]
    simp only [Option.map_none]
/-- a slice of bytes as a text, empty ones let in. -/
theorem conv_any {w : World} {A : Option Addr} {c n : Nat} {L : List Int} (hB : Byt w A c L) (hn : L.length = n) : (convert 38 9 (.slice A n c)).run Tryd.prog w = .ok (.string (strOfNums L)) w := by
  by_cases h0 : 0 < n
  · obtain ⟨g, off, rfl, _, hc⟩ := hB.2.2 (by omega)
    exact run_convert_bytes_arg w 38 5 Tryd.underlying38 Tryd.underlying5 g off n c L hn (fun i hi => hc i (by omega)) 9 Tryd.underlying9
  · obtain rfl : n = 0 := by omega
    obtain rfl : L = [] := List.eq_nil_of_length_eq_zero hn
    cases A with
    | none => exact run_convert_bytes_nil w 38 5 Tryd.underlying38 Tryd.underlying5 0 c 9 Tryd.underlying9
    | some a =>
      rw [run_convert_bytes_string w 38 9 5 _ 0 c Tryd.underlying38 Tryd.underlying5 Tryd.underlying9]
      simp [Conv.bytesToString, loadCells, loadCellsFrom, strOfNums]
      rfl
/-- a slice's beginning. -/
theorem byt_take {w : World} {A : Option Addr} {c : Nat} {L : List Int} (h : Byt w A c L) (k : Nat) : Byt w A c (L.take k) := by
  obtain ⟨h1, h2, h3⟩ := h
  refine ⟨by rw [List.length_take]; omega, h2, fun h0 => ?_⟩
  rw [List.length_take] at h0
  obtain ⟨g, off, e, hg, hc⟩ := h3 (by omega)
  refine ⟨g, off, e, hg, fun j hj => ?_⟩
  rw [List.length_take] at hj
  rw [hc j (by omega)]
  simp [List.getD_eq_getElem?_getD, show j < k by omega]
theorem nbl_mono {a b : Nat} (h : a ≤ b) : nbl a ≤ nbl b := by unfold nbl; omega
theorem nbl_drop {n q : Nat} (h : 64 * q < n) : nbl n = q + nbl (n - 64 * q) := by unfold nbl; omega
theorem streamL_nil (K : List Int) (c : Int) (Nn : List Int) : streamL K c Nn [] = [] := rfl
end Go.Proofs.YtdkfofnkacmliaaDoor.Cha
