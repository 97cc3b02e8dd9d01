/- DERIVED. A parameter that is a rule, opened. -/
import Derived.Test.YtikoaejfnggdbaaDoorRulOpen
namespace Go.Proofs.YtikoaejfnggdbaaDoor.Rul
open Go.ChangeShapes Go.WideShapes Go.ChangeAt Go.RowKit Lab
set_option maxRecDepth 100000 in
theorem open_rule {H : Type} {enc : TypeId × Value → H} {W : World} {base : Nat} {v : Value} {d : DataW H} {p : List MemPlace} (hv : Value.okWide Tryd.prog W .any base 40 v)
    (h : DataW.Trod enc Tryd.prog W 0 (fun _ => true) true 40 v d p) : ∃ r : Rl, v = .agg (rlc r) ∧ r.Ok := by
  obtain ⟨cs, rfl, hsz⟩ := okWide_struct Tryd.underlying40 hv
  rw [cellsR] at hsz
  obtain ⟨fuel, hf⟩ := h
  obtain ⟨r, hx, ok⟩ := rule_cells (by simpa [Value.cells] using hsz) hf
  exact ⟨r, by rw [show cs = rlc r from Array.ext' hx], ok⟩
end Go.Proofs.YtikoaejfnggdbaaDoor.Rul
