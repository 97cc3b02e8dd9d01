/- DERIVED. What the cards ask of a law's parameters (a seat with cards alone). -/
import Derived.Test.YtmbcojpdigoojaaGreatDoorCards
import Derived.Test.YtmbcojpdigoojaaGreatDoorTie
import Derived.Test.YtmbcojpdigoojaaGreatDoorLaw
namespace Go.Proofs.YtmbcojpdigoojaaGreatDoor
open Go.ChangeShapes Go.WideShapes Go.ChangeAt Go.RowKit
/-- no parameter wants a stand-in: what the cards ask, of a function whose parameters' types are ts. -/
theorem plain_of {b : Bool} {name : String} {n : Nat} {f0 : Func} {ts : List TypeId} (hn : Tryz.prog.funcNamed name = some n) (hf0 : Tryz.prog.funcs[n]? = some f0) (hp : f0.params.toList = ts) (hl : b = Tryz.pinned.checked.prog.looks [])
    (ht : (ts.all fun t => !Tryz.prog.wantsStandIn t) = true) (f : FuncId) (fn : Func) (hf : Tryz.pinned.checked.prog.funcNamed name = some f) (hfn : Tryz.pinned.checked.prog.funcs[f]? = some fn) :
    b = Tryz.pinned.checked.prog.looks [] ∧ ∀ (j : Nat) t, fn.params[j]? = some t → Tryz.pinned.checked.prog.wantsStandIn t = false := by
  obtain rfl : f = n := Option.some.inj (hn.symm.trans hf) |>.symm
  obtain rfl : fn = f0 := (Option.some.inj (hf0.symm.trans hfn)).symm
  refine ⟨hl, fun j t h => ?_⟩
  have hm : t ∈ ts := by rw [← hp]; simpa using Array.mem_of_getElem? h
  have := List.all_eq_true.1 ht t hm
  exact (show Tryz.prog.wantsStandIn t = false by simpa using this)
end Go.Proofs.YtmbcojpdigoojaaGreatDoor
