/- DERIVED. What the rows' list of the two tables gives the walks; a world for the witness. -/
import Derived.Test.YtblgblhoolpmiaaDoorCards
import Derived.Test.YtblgblhoolpmiaaDoorTie
import Derived.Test.YtblgblhoolpmiaaDoorShaCat
import Derived.Test.YtblgblhoolpmiaaDoorLawCard
import Derived.Test.YtblgblhoolpmiaaDoorLawBytes
import Derived.Test.YtblgblhoolpmiaaDoorLawHash
import Derived.ProofKit
import Derived.OpenShut
import Derived.Deep.DeepHandedRow
import Derived.Lib.LaidTab
namespace Go.Proofs.YtblgblhoolpmiaaDoor
open Go.ChangeShapes Go.WideShapes Go.ChangeAt Go.RowKit
theorem gS : Tryd.prog.globalNamed "redwax/sha.startWords" = some 0 := by kernel_rfl
theorem gK : Tryd.prog.globalNamed "redwax/sha.roundWords" = some 1 := by kernel_rfl
theorem gSType : (Tryd.prog.globals[0]?).map (·.type) = some 23 := by kernel_rfl
theorem gKType : (Tryd.prog.globals[1]?).map (·.type) = some 55 := by kernel_rfl
theorem cells23 : Tryd.prog.cellsOf 23 = 8 := by kernel_rfl
theorem cells55 : Tryd.prog.cellsOf 55 = 64 := by kernel_rfl
theorem cells22 : Tryd.prog.cellsOf 22 = 1 := by kernel_rfl
def SW : List Int := [1779033703, 3144134277, 1013904242, 2773480762, 1359893119, 2600822924, 528734635, 1541459225]
/-- the rows' list. -/
def laidList : List (String × DataW Unit) := [("redwax/sha.startWords", Rows.laid_redwax_sha_startWords), ("redwax/sha.roundWords", Rows.laid_redwax_sha_roundWords)]
theorem laid_of {W : World} (h : laidMetH Tryd.prog laidList W) : Laid W := by
  have h0 : Lib.TabIs Tryd.prog W "redwax/sha.startWords" .u32 SW := Lib.tabIs_of_head (rest := [("redwax/sha.roundWords", Rows.laid_redwax_sha_roundWords)]) gS gSType Tryd.underlying23 Tryd.underlying22 cells22 cells23 h
  have h1 : Lib.TabIs Tryd.prog W "redwax/sha.roundWords" .u32 KW := by
    obtain ⟨ps, ⟨g0, t0, cs0, f0, p0, q0, hg0, ht0, hv0, hd0, ⟨g1, t1, cs1, f1, p1, q1, hg1, ht1, hv1, hd1, _⟩, _⟩, _⟩ := h
    obtain rfl := Option.some.inj (gK.symm.trans hg1)
    obtain rfl := Option.some.inj (gKType.symm.trans ht1)
    have hc := Lib.cells_of_tab (zs := KW) Tryd.underlying55 Tryd.underlying22 cells22 cells55 hd1
    unfold Lib.TabIs
    rw [hv1]
    congr 1
    apply Array.ext'
    simpa using hc
  refine ⟨fun j hj => h1.cell gK j hj, fun j hj => h0.cell gS j hj, ?_⟩
  have b1 : 1 < W.heap.size := World.block_lt_of_cell? W _ (h1.cell gK 0 (by decide))
  have b0 : 0 < W.heap.size := World.block_lt_of_cell? W _ (h0.cell gS 0 (by decide))
  unfold lim
  omega
/-- a world for the witness: the settled one, the two tables laid. -/
noncomputable def laidWorld (os : Os) : World :=
  { World.holding Tryd.prog os ⟨#[], #[], []⟩ with heap := ((World.holding Tryd.prog os ⟨#[], #[], []⟩).heap.modify 0 (fillRow (SW.map (Value.int .u32)).toArray)).modify 1 (fillRow (KW.map (Value.int .u32)).toArray) }
end Go.Proofs.YtblgblhoolpmiaaDoor
