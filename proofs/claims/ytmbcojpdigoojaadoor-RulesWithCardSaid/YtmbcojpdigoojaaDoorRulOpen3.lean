/- DERIVED. A parameter that is a label, opened. -/
import Derived.Test.YtmbcojpdigoojaaDoorRulOpen
namespace Go.Proofs.YtmbcojpdigoojaaDoor.Rul
open Go.ChangeShapes Go.WideShapes Go.ChangeAt Go.RowKit Lab
theorem open_lab {H : Type} {enc : TypeId × Value → H} {W : World} {base : Nat} {v : Value} {d : DataW H} {p : List MemPlace} (hv : Value.okWide Tryd.prog W .any base 27 v)
    (h : DataW.Trod enc Tryd.prog W 0 (fun _ => true) true 27 v d p) : ∃ (a : Int) (c : Nat), v = .agg (lab a c) := by
  obtain ⟨cs, rfl, hsz⟩ := okWide_struct Tryd.underlying27 hv
  rw [cellsLab] at hsz
  obtain ⟨fuel, hf⟩ := h
  obtain ⟨a, c, hx, _⟩ := lab_cells (by simpa [Value.cells] using hsz) hf
  exact ⟨a, c, by rw [show cs = lab a c from Array.ext' hx]⟩
end Go.Proofs.YtmbcojpdigoojaaDoor.Rul
