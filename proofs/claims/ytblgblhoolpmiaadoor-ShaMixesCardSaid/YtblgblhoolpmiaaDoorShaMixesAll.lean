/- DERIVED. ShaMixes at every state, block and whole number: what stands behind so many bytes, or nothing. -/
import Derived.Test.YtblgblhoolpmiaaDoorShaMixes
import Derived.Test.YtblgblhoolpmiaaDoorShaBehind
import Derived.Test.YtblgblhoolpmiaaDoorShaSum
import Derived.Test.YtblgblhoolpmiaaDoorLaw
namespace Go.Proofs.YtblgblhoolpmiaaDoor.lawMixes
open Go.RowKit
theorem arrWords : WideMaps.ArrKey Tryd.prog 24 22 8 := ⟨by kernel_rfl, by kernel_rfl, by kernel_rfl, by kernel_rfl⟩
theorem arrBlock : WideMaps.ArrKey Tryd.prog 25 5 64 := ⟨by kernel_rfl, by kernel_rfl, by kernel_rfl, by kernel_rfl⟩
theorem w8_of (l : List Int) (h : l.length = 8) : ∃ s : W8, l = s.list := by
  match l, h with
  | [a, b, c, d, e, f, g, x], _ => exact ⟨⟨a, b, c, d, e, f, g, x⟩, rfl⟩
theorem nil_slb (w : World) : SlB [] (.slice none 0 0) w := ⟨none, 0, rfl, Nat.le_refl _, fun _ => rfl, fun h => absurd h (Nat.lt_irrefl 0)⟩
theorem walk_all (l bl : List Int) (n : Int) (w : World) (hl : l.length = 8) (hbl : bl.length = 64) (hb : InB bl) (hL : Laid w) :
    Calls Tryd.prog 3 #[.agg (u32s l), .agg (u8s bl), .int .i64 n] w fun e' w' => e' = .returned (.bool true) ∧ Below w.heap.size w w' := by
  obtain ⟨s, rfl⟩ := w8_of l hl
  by_cases h : n < 0 ∨ 1152921504606846976 < n
  · refine walk s bl [] n w hbl hb hL (fun W _ => (behind_no n h W).mono ?_) (fun W _ => (rbehind_no n h W).mono ?_)
    · rintro e w' ⟨rfl, rfl⟩
      exact ⟨_, rfl, nil_slb _, Below.refl _ _⟩
    · rintro e w' ⟨rfl, rfl⟩
      exact ⟨_, rfl, nil_slb _, Below.refl _ _⟩
  · obtain ⟨k, rfl⟩ := Int.eq_ofNat_of_zero_le (show 0 ≤ n by omega)
    refine walk s bl (padL k) k w hbl hb hL (fun W _ => (behind_any k (by omega) W).mono ?_) (fun W _ => (rbehind_any k (by omega) W).mono ?_)
    · rintro e w' ⟨rfl, hr, hb'⟩
      exact ⟨_, rfl, ⟨_, padLen k, by rw [padL_length], by have h := byt_row hr; rwa [padL_length] at h⟩, hb'⟩
    · rintro e w' ⟨g, c, rfl, hc, _, hr, hb'⟩
      exact ⟨_, rfl, ⟨_, c, by rw [padL_length], hr.byt (by rw [padL_length]; exact hc)⟩, hb'⟩
end Go.Proofs.YtblgblhoolpmiaaDoor.lawMixes
