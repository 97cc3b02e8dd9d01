/- DERIVED. What the reference's loops of Num count, on lists. -/
import Derived.Test.YtigfcmnknijobaaCodSpec
namespace Go.Proofs.Ytigfcmnknijobaa.Cod
open Go.RowKit
theorem size_found (k : Nat) : ∀ (i : Nat) (L : List Int), i < k → i < L.length → (∀ j, j < i → 128 ≤ L.getD j 0) → L.getD i 0 < 128 → sizeF k L = i + 1 := by
  induction k with
  | zero => intro i L h; omega
  | succ k ih =>
    intro i L hi hl hall hx
    cases L with
    | nil => simp at hl
    | cons x r =>
      cases i with
      | zero =>
        have : x < 128 := by simpa using hx
        simp [sizeF, this]
      | succ i =>
        have h0 : 128 ≤ x := by simpa using hall 0 (by omega)
        have h1 := ih i r (by omega) (by simpa using hl) (fun j hj => by simpa using hall (j + 1) (by omega)) (by simpa using hx)
        rw [sizeF, if_neg (by omega), h1, if_neg (by omega)]
theorem size_none (k : Nat) : ∀ (L : List Int), (∀ j, j < k → j < L.length → 128 ≤ L.getD j 0) → sizeF k L = 0 := by
  induction k with
  | zero => intro L _; rfl
  | succ k ih =>
    intro L hall
    cases L with
    | nil => rfl
    | cons x r =>
      have h0 : 128 ≤ x := by simpa using hall 0 (by omega) (by simp)
      have h1 := ih r (fun j hj hl => by simpa using hall (j + 1) (by omega) (by simpa using hl))
      rw [sizeF, if_neg (by omega), h1, if_pos rfl]
theorem val_step {M : List Int} {i : Nat} (hi : i < M.length) (h0 : 0 ≤ M.getD i 0) : ((valL (M.drop i) % 18446744073709551616 : Nat) : Int) = (128 * ((valL (M.drop (i + 1)) % 18446744073709551616 : Nat) : Int) + M.getD i 0 % 128) % 18446744073709551616 := by
  have e : M.drop i = M.getD i 0 :: M.drop (i + 1) := by
    rw [List.drop_eq_getElem_cons hi]
    congr 1
    simp [List.getD_eq_getElem?_getD, hi]
  rw [e, valL]
  obtain ⟨x, hx⟩ := Int.eq_ofNat_of_zero_le h0
  rw [hx, Int.toNat_natCast]
  omega
theorem val_end (M : List Int) : valL (M.drop M.length) % 18446744073709551616 = 0 := by simp [valL]
end Go.Proofs.Ytigfcmnknijobaa.Cod
