/-
  DERIVED. GIVEN WITH THE SEED: THE CARDS: each row of YteeghgjkjicjoaaGreatDoorRows.lean that lists a variable, with what it lists TIED to the program's text (the seventh form; the later family's looks); each row that meets fmt, with fmt's text TOLD by the authors' own Lean function (tested against real Go, not proved from fmt's source: count such statements apart). THE CARD IS WHAT COUNTS. Prove the row's statement (the work); the ties are given (YteeghgjkjicjoaaGreatDoorTie.lean); close each card by the builder's one call (the guide's Derived/Test/ToyasCard.lean, 'card_holds'). Laid BY PROGRAM, IN A SANDBOX (cutbox-door.mjs). By AI agents, Wed Nov 11 2026. No macro, syntax, notation, axiom, sorry.
-/
import Derived.Test.YteeghgjkjicjoaaGreatDoorRows
import GoSem.ClaimSeven
namespace Go.Proofs.YteeghgjkjicjoaaGreatDoor
namespace Rows

/-- THE TIED CARD OF 'redwaxlaw12.SegmentActs'. -/
def segmentActsCard : Claim7 := { stood := { row := segmentActsRow, standIns := [], harness := (true, "c8880745ba7aa6b1d844e05b410d415907669f5818bac2db73915bf1e8279133"), looks := false }, kinds := [], alts := [], laidByText := true, laidKinds := [.data, .data, .data], laidTests := true, laidLooks := .later }
def SegmentActsCardSaid : Prop := Claim7.holds Tryz.pinned (.plain (OpenSpec.ofChange segmentActsSpec)) segmentActsCard

/-- THE TIED CARD OF 'redwaxlaw12.SegmentTamper'. -/
def segmentTamperCard : Claim7 := { stood := { row := segmentTamperRow, standIns := [], harness := (true, "c8880745ba7aa6b1d844e05b410d415907669f5818bac2db73915bf1e8279133"), looks := false }, kinds := [], alts := [], laidByText := true, laidKinds := [.data, .data, .data], laidTests := true, laidLooks := .later }
def SegmentTamperCardSaid : Prop := Claim7.holds Tryz.pinned (.plain (OpenSpec.ofChange segmentTamperSpec)) segmentTamperCard

/-- THE TIED CARD OF 'redwaxlaw12.SegmentBound'. -/
def segmentBoundCard : Claim7 := { stood := { row := segmentBoundRow, standIns := [], harness := (true, "c8880745ba7aa6b1d844e05b410d415907669f5818bac2db73915bf1e8279133"), looks := false }, kinds := [], alts := [], laidByText := true, laidKinds := [.data, .data, .data], laidTests := true, laidLooks := .later }
def SegmentBoundCardSaid : Prop := Claim7.holds Tryz.pinned (.plain (OpenSpec.ofChange segmentBoundSpec)) segmentBoundCard

/-- THE SECOND FORM's CARD OF 'redwaxlaw12.SegmentActs'. -/
def segmentActsUptoCard : Claim7 := { stood := { row := segmentActsUptoRow, standIns := [], harness := (true, "c8880745ba7aa6b1d844e05b410d415907669f5818bac2db73915bf1e8279133"), looks := false }, kinds := [], alts := [], laidByText := true, laidKinds := [.data, .data, .data], laidTests := true, laidLooks := .later }
def SegmentActsUptoCardSaid : Prop := Claim7.holds Tryz.pinned (.plain (OpenSpec.upto segmentActsSpec)) segmentActsUptoCard

/-- THE SECOND FORM's CARD OF 'redwaxlaw12.SegmentTamper'. -/
def segmentTamperUptoCard : Claim7 := { stood := { row := segmentTamperUptoRow, standIns := [], harness := (true, "c8880745ba7aa6b1d844e05b410d415907669f5818bac2db73915bf1e8279133"), looks := false }, kinds := [], alts := [], laidByText := true, laidKinds := [.data, .data, .data], laidTests := true, laidLooks := .later }
def SegmentTamperUptoCardSaid : Prop := Claim7.holds Tryz.pinned (.plain (OpenSpec.upto segmentTamperSpec)) segmentTamperUptoCard

/-- THE SECOND FORM's CARD OF 'redwaxlaw12.SegmentBound'. -/
def segmentBoundUptoCard : Claim7 := { stood := { row := segmentBoundUptoRow, standIns := [], harness := (true, "c8880745ba7aa6b1d844e05b410d415907669f5818bac2db73915bf1e8279133"), looks := false }, kinds := [], alts := [], laidByText := true, laidKinds := [.data, .data, .data], laidTests := true, laidLooks := .later }
def SegmentBoundUptoCardSaid : Prop := Claim7.holds Tryz.pinned (.plain (OpenSpec.upto segmentBoundSpec)) segmentBoundUptoCard
end Rows
end Go.Proofs.YteeghgjkjicjoaaGreatDoor
