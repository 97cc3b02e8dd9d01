/- DERIVED. In a seat of rules: what XLabSorted wants of XLabRSort. Written by mklite.py. -/
import Derived.Test.YtmbcojpdigoojaaGreatDoorLabAppL
import Derived.Test.YtmbcojpdigoojaaGreatDoorLabSortMath
namespace Go.Proofs.YtmbcojpdigoojaaGreatDoor.Lab
open Go.RowKit Str
theorem ordL_less (x y : Int × Nat) : decide (ordL y.1 y.2 x.1 x.2 < 0) = ltP y x := by
  rw [Bool.eq_iff_iff, ltP_iff, decide_eq_true_eq]
  unfold ordL
  repeat' split
  all_goals omega
theorem OwnL.base {B B' : Nat} {xs : List (Int × Nat)} {v : Value} {w : World} (h : OwnL B xs v w) (hB : B' ≤ B) : OwnL B' xs v w := by
  refine ⟨h.1, ?_⟩
  rcases h.2 with h2 | ⟨g, cap, cur, hv, h1, h2⟩
  · exact .inl h2
  · exact .inr ⟨g, cap, cur, hv, Nat.le_trans hB h1, h2⟩
theorem Labs.nil (w : World) : Labs w Option.none 0 [] := ⟨Nat.le_refl _, fun _ => rfl, fun h => absurd h (Nat.lt_irrefl _)⟩
end Go.Proofs.YtmbcojpdigoojaaGreatDoor.Lab
