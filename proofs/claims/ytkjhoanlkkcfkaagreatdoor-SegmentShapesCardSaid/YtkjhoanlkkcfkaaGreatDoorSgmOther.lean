/- DERIVED. What another key opens: evaluated, in stages. -/
import Derived.Test.YtkjhoanlkkcfkaaGreatDoorSgmCtx
import Derived.Test.YtkjhoanlkkcfkaaGreatDoorMseg13
namespace Go.Proofs.YtkjhoanlkkcfkaaGreatDoor.Sgm
open Go.RowKit
def kOne : List Int := [1, 0, 0, 0, 0, 0, 0, 0, 0, 0, 0, 0, 0, 0, 0, 0, 0, 0, 0, 0, 0, 0, 0, 0, 0, 0, 0, 0, 0, 0, 0, 0]
def kTwo : List Int := [2, 0, 0, 0, 0, 0, 0, 0, 0, 0, 0, 0, 0, 0, 0, 0, 0, 0, 0, 0, 0, 0, 0, 0, 0, 0, 0, 0, 0, 0, 0, 0]
theorem kOne_in : InB kOne := inB_of (by decide)
theorem kTwo_in : InB kTwo := inB_of (by decide)
def mainS : ByteArray := { data := #[109, 97, 105, 110] }
def mainC : List Int := [4, 109, 97, 105, 110, 2, 0, 0, 0, 0, 0, 0, 0, 0]
theorem mainC_eq : ctxL mainS 2 0 = mainC := by kernel_rfl
def oEnc : List Int := [172, 26, 211, 94, 17, 155, 170, 48, 52, 121, 129, 214, 68, 113, 8, 93, 186, 118, 15, 56, 33, 81, 32, 205, 252, 50, 230, 12, 67, 120, 169, 113]
def oTagA : List Int := [246, 238, 7, 90, 142, 172, 187, 115, 4, 205, 115, 134, 247, 126, 226, 43, 228, 120, 131, 242, 185, 182, 230, 51, 216, 250, 124, 88, 60, 105, 84, 51]
def oTagB : List Int := [222, 197, 35, 146, 97, 203, 188, 182, 141, 156, 125, 78, 20, 98, 84, 202, 178, 41, 81, 141, 84, 163, 101, 8, 132, 213, 134, 54, 212, 229, 197, 129]
def oBody : List Int := [132, 13, 115, 145, 141, 166, 170, 48, 34, 131, 162, 6, 66, 218, 78, 138, 201, 19, 140, 228, 3, 239, 132, 92, 150, 41, 181, 156, 127, 237, 147, 103, 9, 44, 231, 35, 10, 120, 248, 237, 156, 202, 245, 105, 198, 186, 84, 177, 60, 43, 70, 169, 253, 179, 181, 23, 101, 11, 238, 8, 146, 51, 223, 95]
def oT1 : List Int := [73, 227, 151, 9, 91, 137, 200, 67, 103, 123, 221, 18, 51, 64, 72, 48, 67, 144, 20, 37, 143, 178, 179, 70, 254, 165, 177, 211, 229, 35, 252, 11]
def oT2 : List Int := [121, 60, 253, 234, 235, 222, 178, 117, 161, 196, 33, 110, 72, 43, 31, 87, 31, 191, 247, 203, 119, 115, 126, 171, 57, 197, 102, 175, 218, 122, 17, 20]
theorem o1 : Seal.keyL kOne Seal.encName mainC = oEnc := by kernel_rfl
theorem o2 : Seal.keyL kOne Seal.tagName mainC = oTagA := by kernel_rfl
theorem o3 : Seal.keyL kTwo Seal.tagName mainC = oTagB := by kernel_rfl
theorem o4 : Cha.streamL oEnc 1 (Seal.nonceL 0 1) (Seal.padL [97, 98]) = oBody := by kernel_rfl
theorem o5 : hmacL oTagA (Seal.taggedL mainC 0 1 oBody) = oT1 := by kernel_rfl
theorem o6 : hmacL oTagB (Seal.taggedL mainC 0 1 oBody) = oT2 := by kernel_rfl
theorem body_lit : Seal.bodyL kOne mainC 0 1 (Seal.padL [97, 98]) = oBody := by unfold Seal.bodyL; rw [o1, o4]
theorem rec_lit : Seal.sealL kOne mainC 0 1 [97, 98] = [0, 0, 0, 1] ++ oBody ++ oT1 := by
  unfold Seal.sealL
  rw [body_lit]
  unfold Seal.tagL
  rw [o2, o5]
  rfl
theorem other_none : Seal.openL kTwo mainC 0 (Seal.sealL kOne mainC 0 1 [97, 98]) = none := by
  rw [rec_lit]
  refine Seal.openL_no2 (q := 64) (E := 1) (by decide) (by decide) ?_
  have e1 : (([0, 0, 0, 1] ++ oBody ++ oT1).drop 4).take 64 = oBody := by decide
  have e2 : ([0, 0, 0, 1] ++ oBody ++ oT1).drop (4 + 64) = oT1 := by decide
  rw [e1, e2]
  unfold Seal.tagL
  rw [o3, o6]
  decide
end Go.Proofs.YtkjhoanlkkcfkaaGreatDoor.Sgm
