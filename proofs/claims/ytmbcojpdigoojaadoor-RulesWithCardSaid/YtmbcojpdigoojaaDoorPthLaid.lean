/- DERIVED. A world that is as the program's types ask is laid; a world for the witness. -/
import Derived.Test.YtmbcojpdigoojaaDoorPthWorks
import Derived.Test.YtmbcojpdigoojaaDoorLawCard
import Derived.ProofKit
import Derived.OpenShut
import Derived.Deep.DeepHandedRow
import Derived.Lib.LaidTab
namespace Go.Proofs.YtmbcojpdigoojaaDoor.Pth
open Go.ChangeShapes Go.WideShapes Go.ChangeAt Go.RowKit
theorem laid_of {W : World} (h : W.ShapedOpen Tryd.prog) : Laid W := Tryd.laysM146.s1_3 W h
def ranges : List Int := [128, 191, 160, 191, 128, 159, 144, 191, 128, 143, 0, 0, 0, 0, 0, 0, 0, 0, 0, 0, 0, 0, 0, 0, 0, 0, 0, 0, 0, 0, 0, 0]
/-- a world for the witness: the settled one, the tables laid. -/
noncomputable def laidWorld (os : Os) : World :=
  { World.holding Tryd.prog os ⟨#[], #[], []⟩ with heap := ((World.holding Tryd.prog os ⟨#[], #[], []⟩).heap.modify 2 (fillRow (ranges.map (Value.int .u8)).toArray)).modify 1 (fillRow (Go.Pinned.utf8FirstZ.map fun (n : Nat) => Value.int .u8 (n : Int)).toArray) }
end Go.Proofs.YtmbcojpdigoojaaDoor.Pth
