/-
  DERIVED. GIVEN WITH THE SEED: THE CARDS: each row of YtkjhoanlkkcfkaaGreatDoorRows.lean that lists a variable, with what it lists TIED to the program's text (the seventh form; the later family's looks); each row that meets fmt, with fmt's text TOLD by the authors' own Lean function (tested against real Go, not proved from fmt's source: count such statements apart). THE CARD IS WHAT COUNTS. Prove the row's statement (the work); the ties are given (YtkjhoanlkkcfkaaGreatDoorTie.lean); close each card by the builder's one call (the guide's Derived/Test/ToyasCard.lean, 'card_holds'). Laid BY PROGRAM, IN A SANDBOX (cutbox-door.mjs). By AI agents, Wed Nov 11 2026. No macro, syntax, notation, axiom, sorry.
-/
import Derived.Test.YtkjhoanlkkcfkaaGreatDoorRows
import GoSem.ClaimSeven
namespace Go.Proofs.YtkjhoanlkkcfkaaGreatDoor
namespace Rows

/-- THE TIED CARD OF 'redwaxlaw12.SegmentActs'. -/
def segmentActsCard : Claim7 := { stood := { row := segmentActsRow, standIns := [], harness := (true, "f4fcf525ad8c2df21efe1717c10c3896a274204696eeb50d2547bcba933682a0"), looks := false }, kinds := [], alts := [], laidByText := true, laidKinds := [.data, .data, .data], laidTests := true, laidLooks := .later }
def SegmentActsCardSaid : Prop := Claim7.holds Tryz.pinned (.plain (OpenSpec.ofChange segmentActsSpec)) segmentActsCard

/-- THE TIED CARD OF 'redwaxlaw12.SegmentTamper'. -/
def segmentTamperCard : Claim7 := { stood := { row := segmentTamperRow, standIns := [], harness := (true, "f4fcf525ad8c2df21efe1717c10c3896a274204696eeb50d2547bcba933682a0"), looks := false }, kinds := [], alts := [], laidByText := true, laidKinds := [.data, .data, .data], laidTests := true, laidLooks := .later }
def SegmentTamperCardSaid : Prop := Claim7.holds Tryz.pinned (.plain (OpenSpec.ofChange segmentTamperSpec)) segmentTamperCard

/-- THE TIED CARD OF 'redwaxlaw12.SegmentBound'. -/
def segmentBoundCard : Claim7 := { stood := { row := segmentBoundRow, standIns := [], harness := (true, "f4fcf525ad8c2df21efe1717c10c3896a274204696eeb50d2547bcba933682a0"), looks := false }, kinds := [], alts := [], laidByText := true, laidKinds := [.data, .data, .data], laidTests := true, laidLooks := .later }
def SegmentBoundCardSaid : Prop := Claim7.holds Tryz.pinned (.plain (OpenSpec.ofChange segmentBoundSpec)) segmentBoundCard

/-- THE TIED CARD OF 'redwaxlaw12.SegmentShapes'. -/
def segmentShapesCard : Claim7 := { stood := { row := segmentShapesRow, standIns := [], harness := (true, "f4fcf525ad8c2df21efe1717c10c3896a274204696eeb50d2547bcba933682a0"), looks := false }, kinds := [], alts := [], laidByText := true, laidKinds := [.data, .data, .data], laidTests := true, laidLooks := .later }
def SegmentShapesCardSaid : Prop := Claim7.holds Tryz.pinned (.plain (OpenSpec.ofChange segmentShapesSpec)) segmentShapesCard

/-- THE SECOND FORM's CARD OF 'redwaxlaw12.SegmentActs'. -/
def segmentActsUptoCard : Claim7 := { stood := { row := segmentActsUptoRow, standIns := [], harness := (true, "f4fcf525ad8c2df21efe1717c10c3896a274204696eeb50d2547bcba933682a0"), looks := false }, kinds := [], alts := [], laidByText := true, laidKinds := [.data, .data, .data], laidTests := true, laidLooks := .later }
def SegmentActsUptoCardSaid : Prop := Claim7.holds Tryz.pinned (.plain (OpenSpec.upto segmentActsSpec)) segmentActsUptoCard

/-- THE SECOND FORM's CARD OF 'redwaxlaw12.SegmentTamper'. -/
def segmentTamperUptoCard : Claim7 := { stood := { row := segmentTamperUptoRow, standIns := [], harness := (true, "f4fcf525ad8c2df21efe1717c10c3896a274204696eeb50d2547bcba933682a0"), looks := false }, kinds := [], alts := [], laidByText := true, laidKinds := [.data, .data, .data], laidTests := true, laidLooks := .later }
def SegmentTamperUptoCardSaid : Prop := Claim7.holds Tryz.pinned (.plain (OpenSpec.upto segmentTamperSpec)) segmentTamperUptoCard

/-- THE SECOND FORM's CARD OF 'redwaxlaw12.SegmentBound'. -/
def segmentBoundUptoCard : Claim7 := { stood := { row := segmentBoundUptoRow, standIns := [], harness := (true, "f4fcf525ad8c2df21efe1717c10c3896a274204696eeb50d2547bcba933682a0"), looks := false }, kinds := [], alts := [], laidByText := true, laidKinds := [.data, .data, .data], laidTests := true, laidLooks := .later }
def SegmentBoundUptoCardSaid : Prop := Claim7.holds Tryz.pinned (.plain (OpenSpec.upto segmentBoundSpec)) segmentBoundUptoCard

/-- THE SECOND FORM's CARD OF 'redwaxlaw12.SegmentShapes'. -/
def segmentShapesUptoCard : Claim7 := { stood := { row := segmentShapesUptoRow, standIns := [], harness := (true, "f4fcf525ad8c2df21efe1717c10c3896a274204696eeb50d2547bcba933682a0"), looks := false }, kinds := [], alts := [], laidByText := true, laidKinds := [.data, .data, .data], laidTests := true, laidLooks := .later }
def SegmentShapesUptoCardSaid : Prop := Claim7.holds Tryz.pinned (.plain (OpenSpec.upto segmentShapesSpec)) segmentShapesUptoCard
end Rows
end Go.Proofs.YtkjhoanlkkcfkaaGreatDoor
