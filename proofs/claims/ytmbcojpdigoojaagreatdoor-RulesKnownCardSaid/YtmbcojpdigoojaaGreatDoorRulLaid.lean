/- DERIVED. What the rows' list of the tables gives the walk of RulesKnown; a world for the witness. -/
import Derived.Test.YtmbcojpdigoojaaGreatDoorPthWorks
import Derived.Test.YtmbcojpdigoojaaGreatDoorLawCard
import Derived.ProofKit
import Derived.OpenShut
import Derived.Deep.DeepHandedRow
import Derived.Lib.LaidTab
import Derived.Test.YtmbcojpdigoojaaGreatDoorLabText
namespace Go.Proofs.YtmbcojpdigoojaaGreatDoor.Rul
open Go.ChangeShapes Go.WideShapes Go.ChangeAt Go.RowKit
def ranges : List Int := [128, 191, 160, 191, 128, 159, 144, 191, 128, 143, 0, 0, 0, 0, 0, 0, 0, 0, 0, 0, 0, 0, 0, 0, 0, 0, 0, 0, 0, 0, 0, 0]
def D32 : List Int := [0, 1, 28, 2, 29, 14, 24, 3, 30, 22, 20, 15, 25, 17, 4, 8, 31, 27, 13, 23, 21, 19, 16, 7, 26, 12, 18, 6, 11, 5, 10, 9]
def D64 : List Int := [0, 1, 56, 2, 57, 49, 28, 3, 61, 58, 42, 50, 38, 29, 17, 4, 62, 47, 59, 36, 45, 43, 51, 22, 53, 39, 33, 30, 24, 18, 12, 5, 63, 55, 48, 27, 60, 41, 37, 16, 46, 35, 44, 21, 52, 32, 23, 11, 54, 26, 40, 15, 34, 20, 31, 10, 25, 14, 19, 9, 13, 8, 7, 6]
def P10 : List Int := [1, 10, 100, 1000, 10000, 100000, 1000000, 10000000, 100000000, 1000000000, 10000000000, 100000000000, 1000000000000, 10000000000000, 100000000000000, 1000000000000000, 10000000000000000, 100000000000000000, 1000000000000000000, 10000000000000000000]
theorem g64 : Tryz.prog.globalNamed "math/bits.deBruijn64tab" = some 3 := by kernel_rfl
theorem g64Type : (Tryz.prog.globals[3]?).map (·.type) = some 137 := by kernel_rfl
theorem cells64t : Tryz.prog.cellsOf 137 = 64 := by kernel_rfl
theorem cells8t : Tryz.prog.cellsOf 5 = 1 := by kernel_rfl
/-- what the walk wants of the tables. -/
def KL (W : World) : Prop := Pth.Laid W ∧ Lab.Laid W
theorem laid_of {W : World} (h : laidMetH Tryz.prog Rows.rulesKnownRow.laid W) (hS : W.ShapedOpen Tryz.prog) : KL W := by
  refine ⟨Tryz.laysM146.s1_3 W hS, ?_⟩
  have h1 : Lib.TabIs Tryz.prog W "math/bits.deBruijn64tab" .u8 D64 := by
    obtain ⟨ps, ⟨g0, t0, cs0, f0, p0, q0, hg0, ht0, hv0, hd0, ⟨g1, t1, cs1, f1, p1, q1, hg1, ht1, hv1, hd1, _⟩, _⟩, _⟩ := h
    obtain rfl := Option.some.inj (g64.symm.trans hg1)
    obtain rfl := Option.some.inj (g64Type.symm.trans ht1)
    have hc := Lib.cells_of_tab (zs := D64) Tryz.underlying137 Tryz.underlying5 cells8t cells64t hd1
    unfold Lib.TabIs
    rw [hv1]
    congr 1
    apply Array.ext'
    simpa using hc
  exact h1.cell g64 15 (by decide)
/-- a world for the witness: the settled one, the tables laid. -/
noncomputable def laidWorld (os : Os) : World :=
  let w := World.holding Tryz.prog os ⟨#[], #[], []⟩
  { w with heap := ((((w.heap.modify 2 (fillRow (D32.map (Value.int .u8)).toArray)).modify 3 (fillRow (D64.map (Value.int .u8)).toArray)).modify 0 (fillRow (P10.map (Value.int .u64)).toArray)).modify 5 (fillRow (ranges.map (Value.int .u8)).toArray)).modify 4 (fillRow (Go.Pinned.utf8FirstZ.map fun (n : Nat) => Value.int .u8 (n : Int)).toArray) }
end Go.Proofs.YtmbcojpdigoojaaGreatDoor.Rul
