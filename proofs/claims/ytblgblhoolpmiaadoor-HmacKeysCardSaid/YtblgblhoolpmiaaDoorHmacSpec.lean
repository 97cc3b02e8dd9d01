/- DERIVED. PLAIN MATHEMATICS: HMAC on lists of bytes. -/
import Derived.Test.YtblgblhoolpmiaaDoorHmacEqual
import Derived.Test.YtblgblhoolpmiaaDoorShaBytes
namespace Go.Proofs.YtblgblhoolpmiaaDoor
open Go.RowKit
def pad64 (k : List Int) : List Int := k ++ List.replicate (64 - k.length) 0
def keyL (K : List Int) : List Int := if K.length ≤ 64 then K else sumL K
def blockL (K : List Int) : List Int := pad64 (keyL K)
def xorL (m : Int) (l : List Int) : List Int := l.map fun x => bits .xor .u8 x m
def hmacL (K T : List Int) : List Int := sumL (xorL 92 (blockL K) ++ sumL (xorL 54 (blockL K) ++ T))
theorem keyL_le (K : List Int) : (keyL K).length ≤ 64 := by
  unfold keyL
  split
  · assumption
  · rw [sumL_length]; omega
theorem pad64_length {k : List Int} (h : k.length ≤ 64) : (pad64 k).length = 64 := by simp [pad64]; omega
theorem blockL_length (K : List Int) : (blockL K).length = 64 := pad64_length (keyL_le K)
theorem xorL_length (m : Int) (l : List Int) : (xorL m l).length = l.length := by simp [xorL]
theorem hmacL_length (K T : List Int) : (hmacL K T).length = 32 := sumL_length _
theorem hmacL_in (K T : List Int) : InB (hmacL K T) := sumL_in _
theorem InB.zeros (n : Nat) : InB (List.replicate n 0) := by
  intro j
  by_cases h : j < n
  · simp [List.getD_eq_getElem?_getD, h]
  · rw [getD_out _ _ (by simp; omega)]; omega
theorem InB.keyL {K : List Int} (h : InB K) : InB (keyL K) := by
  unfold Go.Proofs.YtblgblhoolpmiaaDoor.keyL
  split
  · exact h
  · exact sumL_in _
theorem InB.blockL {K : List Int} (h : InB K) : InB (blockL K) := h.keyL.append (InB.zeros _)
theorem InB.xorL {l : List Int} (h : InB l) (m : Int) (h0 : 0 ≤ m) (h1 : m < 256) : InB (xorL m l) := by
  intro j
  by_cases hj : j < l.length
  · have := h j
    have e : (Go.Proofs.YtblgblhoolpmiaaDoor.xorL m l).getD j 0 = bits .xor .u8 (l.getD j 0) m := by simp [Go.Proofs.YtblgblhoolpmiaaDoor.xorL, List.getD_eq_getElem?_getD, hj]
    rw [e]
    exact xor_in _ _ this.1 this.2 h0 h1
  · rw [getD_out _ _ (by rw [xorL_length]; omega)]; omega
/-- bytes 0 behind a key of up to 64 bytes. -/
theorem blockL_zeros (K : List Int) (n : Nat) (h : K.length + n ≤ 64) : blockL (K ++ List.replicate n 0) = blockL K := by
  unfold blockL keyL
  rw [if_pos (by simp; omega), if_pos (by omega)]
  unfold pad64
  rw [List.append_assoc, List.replicate_append_replicate]
  simp
  omega
theorem zero64_eq : zero64 = u8s (List.replicate 64 0) := rfl
theorem splice_key (k : List Int) : (splice (vals (List.replicate 64 0)) 0 (vals k)).toArray = u8s (pad64 k) := by
  simp only [splice, List.take_zero, List.nil_append, Nat.zero_add, vals, List.map_replicate, List.drop_replicate, u8s, pad64, List.map_append, List.length_map]
end Go.Proofs.YtblgblhoolpmiaaDoor
