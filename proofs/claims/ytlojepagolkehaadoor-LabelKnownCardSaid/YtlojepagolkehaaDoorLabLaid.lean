/- DERIVED. What the rows' list of the tables and of strconv's two errors gives the walks; a world for the witness. -/
import Derived.Test.YtlojepagolkehaaDoorLabParses
import Derived.Test.YtlojepagolkehaaDoorShelf2
import Derived.Test.YtlojepagolkehaaDoorLawCard
import Derived.ProofKit
import Derived.OpenShut
import Derived.Deep.DeepHandedRow
import Derived.Lib.LaidTab
import Derived.LaidLaws
import Derived.MakeChecks
namespace Go.Proofs.YtlojepagolkehaaDoor.Lab
open Go.ChangeShapes Go.WideShapes Go.ChangeAt Go.RowKit
def D32 : List Int := [0, 1, 28, 2, 29, 14, 24, 3, 30, 22, 20, 15, 25, 17, 4, 8, 31, 27, 13, 23, 21, 19, 16, 7, 26, 12, 18, 6, 11, 5, 10, 9]
def D64 : List Int := [0, 1, 56, 2, 57, 49, 28, 3, 61, 58, 42, 50, 38, 29, 17, 4, 62, 47, 59, 36, 45, 43, 51, 22, 53, 39, 33, 30, 24, 18, 12, 5, 63, 55, 48, 27, 60, 41, 37, 16, 46, 35, 44, 21, 52, 32, 23, 11, 54, 26, 40, 15, 34, 20, 31, 10, 25, 14, 19, 9, 13, 8, 7, 6]
def P10 : List Int := [1, 10, 100, 1000, 10000, 100000, 1000000, 10000000, 100000000, 1000000000, 10000000000, 100000000000, 1000000000000, 10000000000000, 100000000000000, 1000000000000000, 10000000000000000, 100000000000000000, 1000000000000000000, 10000000000000000000]
def tRange : List UInt8 := [118, 97, 108, 117, 101, 32, 111, 117, 116, 32, 111, 102, 32, 114, 97, 110, 103, 101]
def tSyntax : List UInt8 := [105, 110, 118, 97, 108, 105, 100, 32, 115, 121, 110, 116, 97, 120]
theorem g64 : Tryd.prog.globalNamed "math/bits.deBruijn64tab" = some 5 := by kernel_rfl
theorem g64Type : (Tryd.prog.globals[5]?).map (·.type) = some 110 := by kernel_rfl
theorem gSyn : Tryd.prog.globalNamed "strconv.ErrSyntax" = some 2 := by kernel_rfl
theorem gSynType : (Tryd.prog.globals[2]?).map (·.type) = some 47 := by kernel_rfl
theorem cells64t : Tryd.prog.cellsOf 110 = 64 := by kernel_rfl
theorem cells8t : Tryd.prog.cellsOf 5 = 1 := by kernel_rfl
/-- the rows' list. -/
def laidList : List (String × DataW Unit) := [("math/bits.deBruijn32tab", Rows.laid_math_bits_deBruijn32tab), ("math/bits.deBruijn64tab", Rows.laid_math_bits_deBruijn64tab), ("internal/strconv.uint64pow10", Rows.laid_internal_strconv_uint64pow10), ("strconv.ErrRange", Rows.laid_strconv_ErrRange), ("strconv.ErrSyntax", Rows.laid_strconv_ErrSyntax)]
theorem laid_of {W : World} (h : laidMetH Tryd.prog laidList W) (hS : W.ShapedOpen Tryd.prog) : LK W := by
  rw [MakeChecks.laidMetH_plain _ _ _ (by kernel_rfl)] at h
  obtain ⟨ps, ⟨g0, t0, cs0, f0, p0, q0, hg0, ht0, hv0, hd0, ⟨g1, t1, cs1, f1, p1, q1, hg1, ht1, hv1, hd1, ⟨g2, t2, cs2, f2, p2, q2, hg2, ht2, hv2, hd2, ⟨g3, t3, cs3, f3, p3, q3, hg3, ht3, hv3, hd3, ⟨g4, t4, cs4, f4, p4, q4, hg4, ht4, hv4, hd4, _⟩, _⟩, _⟩, _⟩, _⟩, _⟩ := h
  have h1 : Lib.TabIs Tryd.prog W "math/bits.deBruijn64tab" .u8 D64 := by
    obtain rfl := Option.some.inj (g64.symm.trans hg1)
    obtain rfl := Option.some.inj (g64Type.symm.trans ht1)
    have hc := Lib.cells_of_tab (zs := D64) Tryd.underlying110 Tryd.underlying5 cells8t cells64t hd1
    unfold Lib.TabIs
    rw [hv1]
    congr 1
    apply Array.ext'
    simpa using hc
  refine ⟨h1.cell g64 15 (by decide), Tryd.laysM145.s1_3 W hS, ?_⟩
  obtain rfl := Option.some.inj (gSyn.symm.trans hg4)
  obtain rfl := Option.some.inj (gSynType.symm.trans ht4)
  obtain ⟨n, u, v, hcs, _, _⟩ := iface_of_trod Tryd.underlying47 hd4
  refine ⟨.iface u v, ?_, .inr ⟨u, v, rfl⟩⟩
  have := World.var?_cell hg4 hv4 0
  rw [← Array.getElem?_toList, hcs] at this
  simpa using this
/-- a world for the witness: the settled one, the tables laid, the two errors in blocks of their own. -/
noncomputable def low : Nat := (World.holding Tryd.prog default ⟨#[], #[], []⟩).heap.size
noncomputable def laidWorld (os : Os) : World :=
  let w := World.holding Tryd.prog os ⟨#[.cells #[.string ⟨tRange.toArray⟩] 108, .cells #[.string ⟨tSyntax.toArray⟩] 108], #[], []⟩
  { w with heap := ((((w.heap.modify 4 (fillRow (D32.map (Value.int .u8)).toArray)).modify 5 (fillRow (D64.map (Value.int .u8)).toArray)).modify 1 (fillRow (P10.map (Value.int .u64)).toArray)).modify 3 (fillRow #[.iface 106 (.pointer (some ⟨low, 0, none⟩))])).modify 2 (fillRow #[.iface 106 (.pointer (some ⟨low + 1, 0, none⟩))]) }
end Go.Proofs.YtlojepagolkehaaDoor.Lab
