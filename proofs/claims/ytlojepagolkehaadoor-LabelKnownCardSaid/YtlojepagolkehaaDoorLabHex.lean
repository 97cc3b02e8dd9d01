/- DERIVED. Hexadecimal digits, on plain lists; no program. -/
import Derived.Test.YtlojepagolkehaaDoorStr
namespace Go.Proofs.YtlojepagolkehaaDoor.Lab
open Go.RowKit
/-- the byte of a hexadecimal digit. -/
def hexC (m : Nat) : Int := if m < 10 then (48 + m : Nat) else (87 + m : Nat)
def hexF : Nat → Nat → List Int
  | 0, n => [hexC (n % 16)]
  | k + 1, n => if n < 16 then [hexC (n % 16)] else hexF k (n / 16) ++ [hexC (n % 16)]
/-- the hexadecimal digits of a number. -/
def hexL (n : Nat) : List Int := hexF 15 n
theorem hexC_in (m : Nat) (h : m < 16) : 48 ≤ hexC m ∧ hexC m < 128 := by unfold hexC; split <;> omega
theorem hexF_in (k n : Nat) : ∀ x ∈ hexF k n, 48 ≤ x ∧ x < 128 := by
  induction k generalizing n with
  | zero => simp [hexF]; exact hexC_in _ (by omega)
  | succ k ih =>
    unfold hexF
    split
    · simp; exact hexC_in _ (by omega)
    · intro x hx
      rcases List.mem_append.1 hx with hx | hx
      · exact ih _ x hx
      · obtain rfl := List.mem_singleton.1 hx
        exact hexC_in _ (by omega)
theorem hexF_le (k n : Nat) : (hexF k n).length ≤ k + 1 := by
  induction k generalizing n with
  | zero => simp [hexF]
  | succ k ih => unfold hexF; split <;> simp; exact ih _
theorem pow16 {n k : Nat} (h : n < 16 ^ (k + 1)) : n / 16 < 16 ^ k := by
  rw [Nat.pow_succ] at h
  exact Nat.div_lt_of_lt_mul (by rw [Nat.mul_comm]; exact h)
end Go.Proofs.YtlojepagolkehaaDoor.Lab
