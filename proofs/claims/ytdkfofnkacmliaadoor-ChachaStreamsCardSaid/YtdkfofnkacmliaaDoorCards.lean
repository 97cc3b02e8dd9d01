/-
  DERIVED. GIVEN WITH THE SEED: THE CARDS: each row of YtdkfofnkacmliaaDoorRows.lean that lists a variable, with what it lists TIED to the program's text (the seventh form; the later family's looks); each row that meets fmt, with fmt's text TOLD by the authors' own Lean function (tested against real Go, not proved from fmt's source: count such statements apart). THE CARD IS WHAT COUNTS. Prove the row's statement (the work); the ties are given (YtdkfofnkacmliaaDoorTie.lean); close each card by the builder's one call (the guide's Derived/Test/ToyasCard.lean, 'card_holds'). Laid BY PROGRAM, IN A SANDBOX (cutbox-door.mjs). By AI agents, Wed Nov 11 2026. No macro, syntax, notation, axiom, sorry.
-/
import Derived.Test.YtdkfofnkacmliaaDoorRows
import GoSem.ClaimSeven
namespace Go.Proofs.YtdkfofnkacmliaaDoor
namespace Rows

/-- THE TIED CARD OF 'redwaxlaw03.ChachaBlocks'. -/
def chachaBlocksCard : Claim7 := { stood := { row := chachaBlocksRow, standIns := [], harness := (true, "73546b59d4bf9b7e01472d3df216e053cfe664df7c03970f4830ba29b1956e05"), looks := false }, kinds := [], alts := [], laidByText := true, laidKinds := [.data], laidTests := true, laidLooks := .later }
def ChachaBlocksCardSaid : Prop := Claim7.holds Tryd.pinned (.plain (OpenSpec.ofChange chachaBlocksSpec)) chachaBlocksCard

/-- THE TIED CARD OF 'redwaxlaw03.ChachaStreams'. -/
def chachaStreamsCard : Claim7 := { stood := { row := chachaStreamsRow, standIns := [], harness := (true, "73546b59d4bf9b7e01472d3df216e053cfe664df7c03970f4830ba29b1956e05"), looks := false }, kinds := [], alts := [], laidByText := true, laidKinds := [.data], laidTests := true, laidLooks := .later }
def ChachaStreamsCardSaid : Prop := Claim7.holds Tryd.pinned (.plain (OpenSpec.ofChange chachaStreamsSpec)) chachaStreamsCard

/-- THE TIED CARD OF 'redwaxlaw03.ChachaKnown'. -/
def chachaKnownCard : Claim7 := { stood := { row := chachaKnownRow, standIns := [], harness := (true, "73546b59d4bf9b7e01472d3df216e053cfe664df7c03970f4830ba29b1956e05"), looks := false }, kinds := [], alts := [], laidByText := true, laidKinds := [.data], laidTests := true, laidLooks := .later }
def ChachaKnownCardSaid : Prop := Claim7.holds Tryd.pinned (.plain (OpenSpec.ofChange chachaKnownSpec)) chachaKnownCard

/-- THE TIED CARD OF 'redwaxlaw03.ChachaBack'. -/
def chachaBackCard : Claim7 := { stood := { row := chachaBackRow, standIns := [], harness := (true, "73546b59d4bf9b7e01472d3df216e053cfe664df7c03970f4830ba29b1956e05"), looks := false }, kinds := [], alts := [], laidByText := true, laidKinds := [.data], laidTests := true, laidLooks := .later }
def ChachaBackCardSaid : Prop := Claim7.holds Tryd.pinned (.plain (OpenSpec.ofChange chachaBackSpec)) chachaBackCard

/-- THE SECOND FORM's CARD OF 'redwaxlaw03.ChachaBlocks'. -/
def chachaBlocksUptoCard : Claim7 := { stood := { row := chachaBlocksUptoRow, standIns := [], harness := (true, "73546b59d4bf9b7e01472d3df216e053cfe664df7c03970f4830ba29b1956e05"), looks := false }, kinds := [], alts := [], laidByText := true, laidKinds := [.data], laidTests := true, laidLooks := .later }
def ChachaBlocksUptoCardSaid : Prop := Claim7.holds Tryd.pinned (.plain (OpenSpec.upto chachaBlocksSpec)) chachaBlocksUptoCard

/-- THE SECOND FORM's CARD OF 'redwaxlaw03.ChachaStreams'. -/
def chachaStreamsUptoCard : Claim7 := { stood := { row := chachaStreamsUptoRow, standIns := [], harness := (true, "73546b59d4bf9b7e01472d3df216e053cfe664df7c03970f4830ba29b1956e05"), looks := false }, kinds := [], alts := [], laidByText := true, laidKinds := [.data], laidTests := true, laidLooks := .later }
def ChachaStreamsUptoCardSaid : Prop := Claim7.holds Tryd.pinned (.plain (OpenSpec.upto chachaStreamsSpec)) chachaStreamsUptoCard

/-- THE SECOND FORM's CARD OF 'redwaxlaw03.ChachaKnown'. -/
def chachaKnownUptoCard : Claim7 := { stood := { row := chachaKnownUptoRow, standIns := [], harness := (true, "73546b59d4bf9b7e01472d3df216e053cfe664df7c03970f4830ba29b1956e05"), looks := false }, kinds := [], alts := [], laidByText := true, laidKinds := [.data], laidTests := true, laidLooks := .later }
def ChachaKnownUptoCardSaid : Prop := Claim7.holds Tryd.pinned (.plain (OpenSpec.upto chachaKnownSpec)) chachaKnownUptoCard

/-- THE SECOND FORM's CARD OF 'redwaxlaw03.ChachaBack'. -/
def chachaBackUptoCard : Claim7 := { stood := { row := chachaBackUptoRow, standIns := [], harness := (true, "73546b59d4bf9b7e01472d3df216e053cfe664df7c03970f4830ba29b1956e05"), looks := false }, kinds := [], alts := [], laidByText := true, laidKinds := [.data], laidTests := true, laidLooks := .later }
def ChachaBackUptoCardSaid : Prop := Claim7.holds Tryd.pinned (.plain (OpenSpec.upto chachaBackSpec)) chachaBackUptoCard
end Rows
end Go.Proofs.YtdkfofnkacmliaaDoor
