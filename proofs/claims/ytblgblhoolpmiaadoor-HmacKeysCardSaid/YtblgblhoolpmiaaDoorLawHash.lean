/- DERIVED. A parameter that is an api.Hash, opened: 32 bytes. -/
import Derived.Test.YtblgblhoolpmiaaDoorLaw
namespace Go.Proofs.YtblgblhoolpmiaaDoor
open Go.ChangeShapes Go.WideShapes Go.ChangeAt Go.RowKit
theorem arrHash : WideMaps.ArrKey Tryd.prog 35 5 32 := ⟨by kernel_rfl, by kernel_rfl, by kernel_rfl, by kernel_rfl⟩
/-- a parameter that is an api.Hash. -/
theorem open_hash {H : Type} {enc : TypeId × Value → H} {W : World} {base : Nat} {v : Value} {d : DataW H} {p : List MemPlace} (hv : Value.okWide Tryd.prog W .any base 35 v)
    (h : DataW.Trod enc Tryd.prog W 0 (fun _ => true) true 35 v d p) : ∃ l : List Int, v = .agg (u8s l) ∧ l.length = 32 ∧ InB l := by
  obtain ⟨l, rfl, h1, h2⟩ := open_arr arrHash Tryd.underlying5 hv h
  exact ⟨l, rfl, h1, inB_wf h1 h2⟩
end Go.Proofs.YtblgblhoolpmiaaDoor
