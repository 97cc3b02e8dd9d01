/- DERIVED. A row of the call's own, empty or not, as bytes. No program. -/
import Derived.Test.YtlofnpebknfmkaaOwn
namespace Go.Proofs.Ytlofnpebknfmkaa
open Go.RowKit
/-- a row of the call's own, empty or not, as bytes. -/
theorem own_bytK {w : World} {base n : Nat} {t : TypeId} {v : Value} {L : List Int} (h : w.ownsRow base t 1 v n (valsK .u8 L)) (hl : L.length = n) : ∃ A c, v = .slice A n c ∧ Byt w A c L := by
  by_cases h0 : 0 < n
  · obtain ⟨g, c, hv, hc, _, hr⟩ := own_rowK h hl h0
    exact ⟨_, c, hv, by omega, (fun h => by cases h), fun _ => ⟨g, 0, rfl, hr.1, fun j hj => by rw [Nat.zero_add]; exact hr.2 j hj⟩⟩
  · obtain rfl : n = 0 := by omega
    obtain rfl : L = [] := List.eq_nil_of_length_eq_zero hl
    obtain ⟨_, h⟩ := h
    rcases h with ⟨h, _⟩ | ⟨g, cap, cur, hv, _⟩
    · exact ⟨none, 0, h, Nat.le_refl _, fun _ => rfl, fun h => absurd h (Nat.lt_irrefl 0)⟩
    · exact ⟨_, cap, hv, Nat.zero_le _, (fun h => by cases h), fun h => absurd h (Nat.lt_irrefl 0)⟩
theorem own_lower {w : World} {base b s n : Nat} {t : TypeId} {v : Value} {L : List Value} (h : w.ownsRow base t s v n L) (hb : b ≤ base) : w.ownsRow b t s v n L := by
  obtain ⟨h1, h⟩ := h
  refine ⟨h1, ?_⟩
  rcases h with h | ⟨g, cap, cur, h1, h2, h3⟩
  · exact .inl h
  · exact .inr ⟨g, cap, cur, h1, by omega, h3⟩
end Go.Proofs.Ytlofnpebknfmkaa
