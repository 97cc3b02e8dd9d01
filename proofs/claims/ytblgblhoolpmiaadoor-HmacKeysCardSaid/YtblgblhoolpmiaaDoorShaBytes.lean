/- DERIVED. Texts as bytes; digests are bytes. -/
import Derived.Test.YtblgblhoolpmiaaDoorShaDigest
import Derived.Lib.ConvBytes
namespace Go.Proofs.YtblgblhoolpmiaaDoor
open Go.RowKit
def bytesOf (s : ByteArray) : List Int := s.data.toList.map fun b => (b.toNat : Int)
theorem bytesOf_length (s : ByteArray) : (bytesOf s).length = s.size := by rw [bytesOf, List.length_map, Array.length_toList]; rfl
theorem bytesOf_in (s : ByteArray) : InB (bytesOf s) := by
  intro j
  by_cases h : j < (bytesOf s).length
  · have h' : j < s.data.toList.length := by simpa [bytesOf] using h
    have e : (bytesOf s).getD j 0 = ((s.data.toList[j]).toNat : Int) := by simp [bytesOf, List.getD_eq_getElem?_getD, List.getElem?_map, List.getElem?_eq_getElem h']
    rw [e]
    have := (s.data.toList[j]).toNat_lt
    omega
  · rw [getD_out _ _ (Nat.le_of_not_lt h)]; omega
theorem hashL_in (l : List Int) : InB (hashL l) := by
  intro j
  by_cases h : j < 32
  · rw [← hashL_getD l j h]
    have hf := hashF_at l (j / 4)
    have h4 : j % 4 = 0 ∨ j % 4 = 1 ∨ j % 4 = 2 ∨ j % 4 = 3 := by omega
    rcases h4 with e | e | e | e
    · rw [show j = 4 * (j / 4) by omega, hf.1]; omega
    · rw [show j = 4 * (j / 4) + 1 by omega, hf.2.1]; omega
    · rw [show j = 4 * (j / 4) + 2 by omega, hf.2.2.1]; omega
    · rw [show j = 4 * (j / 4) + 3 by omega, hf.2.2.2]; omega
  · rw [getD_out _ _ (by rw [hashL_length]; omega)]; omega
theorem fin_in (s : W8) (L : List Int) (n : Nat) : InB (fin s L n) := hashL_in _
theorem sumL_in (L : List Int) : InB (sumL L) := fin_in _ _ _
theorem sumL_length (L : List Int) : (sumL L).length = 32 := hashL_length _
theorem byt_string (w : World) (s : ByteArray) : Byt (Lib.bytesWorld w 5 s) (some ⟨w.heap.size, 0, none⟩) (grownCap w s.size 0 5) (bytesOf s) := by
  refine ⟨by rw [bytesOf_length]; exact grownCap_ge _ _ _ _, (fun h => by cases h), fun _ => ⟨w.heap.size, 0, rfl, by rw [Lib.bytesWorld_size]; omega, fun j hj => ?_⟩⟩
  rw [bytesOf_length] at hj
  rw [Nat.zero_add, Lib.bytesWorld_cell w 5 s j hj]
  have h' : j < s.data.toList.length := by simpa using hj
  simp [bytesOf, List.getD_eq_getElem?_getD, List.getElem?_map, List.getElem?_eq_getElem h']
theorem below_string (w : World) (s : ByteArray) : Below w.heap.size w (Lib.bytesWorld w 5 s) := by
  refine ⟨?_, ?_, ?_, by rw [Lib.bytesWorld_size]; omega, fun k hk => Lib.bytesWorld_at_old w 5 s k hk⟩
  all_goals (simp only [Lib.bytesWorld, World.freeze]; rfl)
end Go.Proofs.YtblgblhoolpmiaaDoor
