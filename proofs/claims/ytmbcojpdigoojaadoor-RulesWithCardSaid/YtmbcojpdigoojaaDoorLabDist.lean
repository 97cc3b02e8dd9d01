/- DERIVED. The contract of label.distinct. Written by mkdist.py. -/
import Derived.Test.YtmbcojpdigoojaaDoorLabRows
import Derived.Great.CaseRows
import Derived.Deep.DeepCutAuto
namespace Go.Proofs.YtmbcojpdigoojaaDoor.Lab
open Go.RowKit Str
theorem infoL2 : ∀ {a : Int} {c : Nat}, (Tryd.prog.info? 27).map (·.size) = some (lab a c).toList.length := fun {_ _} => infoL
theorem OwnL.keep {base D : Nat} {xs : List (Int × Nat)} {v : Value} {w w' : World} (h : OwnL base xs v w) (hb : Below D w w') (hf : ∀ q, v.ownBlock = some q → q < D) : OwnL base xs v w' := by
  refine ⟨h.1, ?_⟩
  rcases h.2 with h2 | ⟨g, cap, cur, hv, h1, h2, h3⟩
  · exact .inl h2
  · exact .inr ⟨g, cap, cur, hv, h1, (hb.block g (hf g (by rw [hv]; rfl))).trans h2, h3⟩
theorem distG_len : ∀ (r : List (Int × Nat)) (p : Int × Nat), (distG p r).length ≤ r.length := by
  intro r
  induction r with
  | nil => intro p; exact Nat.le_refl _
  | cons x r ih =>
    intro p
    unfold distG
    split
    · have := ih p; simp only [List.length_cons]; omega
    · have := ih x; simp only [List.length_cons]; omega
theorem distL_len (r : List (Int × Nat)) : (distL r).length ≤ r.length := by
  cases r with
  | nil => exact Nat.le_refl _
  | cons x r => have := distG_len r x; simp only [distL, List.length_cons]; omega
end Go.Proofs.YtmbcojpdigoojaaDoor.Lab
