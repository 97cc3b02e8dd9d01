/-
  DERIVED. GIVEN WITH THE SEED: THE CARDS: each row of YtihdmfkkpdajlaaDoorRows.lean that lists a variable, with what it lists TIED to the program's text (the seventh form; the later family's looks); each row that meets fmt, with fmt's text TOLD by the authors' own Lean function (tested against real Go, not proved from fmt's source: count such statements apart). THE CARD IS WHAT COUNTS. Prove the row's statement (the work); the ties are given (YtihdmfkkpdajlaaDoorTie.lean); close each card by the builder's one call (the guide's Derived/Test/ToyasCard.lean, 'card_holds'). Laid BY PROGRAM, IN A SANDBOX (cutbox-door.mjs). By AI agents, Wed Nov 11 2026. No macro, syntax, notation, axiom, sorry.
-/
import Derived.Test.YtihdmfkkpdajlaaDoorRows
import GoSem.ClaimSeven
namespace Go.Proofs.YtihdmfkkpdajlaaDoor
namespace Rows

/-- THE TIED CARD OF 'redwaxlaw06.PathsAre'. -/
def pathsAreCard : Claim7 := { stood := { row := pathsAreRow, standIns := [], harness := (true, "deee7a93dad61722e402878ae5b0da5636c6e0c584310a5f72c0b2a1f33a2165"), looks := false }, kinds := [], alts := [], laidByText := true, laidKinds := [.data, .pinned], laidTests := true, laidLooks := .later }
def PathsAreCardSaid : Prop := Claim7.holds Tryd.pinned (.plain (OpenSpec.ofChange pathsAreSpec)) pathsAreCard

/-- THE TIED CARD OF 'redwaxlaw06.PathsUnder'. -/
def pathsUnderCard : Claim7 := { stood := { row := pathsUnderRow, standIns := [], harness := (true, "deee7a93dad61722e402878ae5b0da5636c6e0c584310a5f72c0b2a1f33a2165"), looks := false }, kinds := [], alts := [], laidByText := true, laidKinds := [.data, .pinned], laidTests := true, laidLooks := .later }
def PathsUnderCardSaid : Prop := Claim7.holds Tryd.pinned (.plain (OpenSpec.ofChange pathsUnderSpec)) pathsUnderCard

/-- THE TIED CARD OF 'redwaxlaw06.PathsBack'. -/
def pathsBackCard : Claim7 := { stood := { row := pathsBackRow, standIns := [], harness := (true, "deee7a93dad61722e402878ae5b0da5636c6e0c584310a5f72c0b2a1f33a2165"), looks := false }, kinds := [], alts := [], laidByText := true, laidKinds := [.data, .pinned], laidTests := true, laidLooks := .later }
def PathsBackCardSaid : Prop := Claim7.holds Tryd.pinned (.plain (OpenSpec.ofChange pathsBackSpec)) pathsBackCard

/-- THE TIED CARD OF 'redwaxlaw06.PathsChain'. -/
def pathsChainCard : Claim7 := { stood := { row := pathsChainRow, standIns := [], harness := (true, "deee7a93dad61722e402878ae5b0da5636c6e0c584310a5f72c0b2a1f33a2165"), looks := false }, kinds := [], alts := [], laidByText := true, laidKinds := [.data, .pinned], laidTests := true, laidLooks := .later }
def PathsChainCardSaid : Prop := Claim7.holds Tryd.pinned (.plain (OpenSpec.ofChange pathsChainSpec)) pathsChainCard

/-- THE TIED CARD OF 'redwaxlaw06.PathsKnown'. -/
def pathsKnownCard : Claim7 := { stood := { row := pathsKnownRow, standIns := [], harness := (true, "deee7a93dad61722e402878ae5b0da5636c6e0c584310a5f72c0b2a1f33a2165"), looks := false }, kinds := [], alts := [], laidByText := true, laidKinds := [.data, .pinned], laidTests := true, laidLooks := .later }
def PathsKnownCardSaid : Prop := Claim7.holds Tryd.pinned (.plain (OpenSpec.ofChange pathsKnownSpec)) pathsKnownCard

/-- THE SECOND FORM's CARD OF 'redwaxlaw06.PathsAre'. -/
def pathsAreUptoCard : Claim7 := { stood := { row := pathsAreUptoRow, standIns := [], harness := (true, "deee7a93dad61722e402878ae5b0da5636c6e0c584310a5f72c0b2a1f33a2165"), looks := false }, kinds := [], alts := [], laidByText := true, laidKinds := [.data, .pinned], laidTests := true, laidLooks := .later }
def PathsAreUptoCardSaid : Prop := Claim7.holds Tryd.pinned (.plain (OpenSpec.upto pathsAreSpec)) pathsAreUptoCard

/-- THE SECOND FORM's CARD OF 'redwaxlaw06.PathsUnder'. -/
def pathsUnderUptoCard : Claim7 := { stood := { row := pathsUnderUptoRow, standIns := [], harness := (true, "deee7a93dad61722e402878ae5b0da5636c6e0c584310a5f72c0b2a1f33a2165"), looks := false }, kinds := [], alts := [], laidByText := true, laidKinds := [.data, .pinned], laidTests := true, laidLooks := .later }
def PathsUnderUptoCardSaid : Prop := Claim7.holds Tryd.pinned (.plain (OpenSpec.upto pathsUnderSpec)) pathsUnderUptoCard

/-- THE SECOND FORM's CARD OF 'redwaxlaw06.PathsBack'. -/
def pathsBackUptoCard : Claim7 := { stood := { row := pathsBackUptoRow, standIns := [], harness := (true, "deee7a93dad61722e402878ae5b0da5636c6e0c584310a5f72c0b2a1f33a2165"), looks := false }, kinds := [], alts := [], laidByText := true, laidKinds := [.data, .pinned], laidTests := true, laidLooks := .later }
def PathsBackUptoCardSaid : Prop := Claim7.holds Tryd.pinned (.plain (OpenSpec.upto pathsBackSpec)) pathsBackUptoCard

/-- THE SECOND FORM's CARD OF 'redwaxlaw06.PathsChain'. -/
def pathsChainUptoCard : Claim7 := { stood := { row := pathsChainUptoRow, standIns := [], harness := (true, "deee7a93dad61722e402878ae5b0da5636c6e0c584310a5f72c0b2a1f33a2165"), looks := false }, kinds := [], alts := [], laidByText := true, laidKinds := [.data, .pinned], laidTests := true, laidLooks := .later }
def PathsChainUptoCardSaid : Prop := Claim7.holds Tryd.pinned (.plain (OpenSpec.upto pathsChainSpec)) pathsChainUptoCard

/-- THE SECOND FORM's CARD OF 'redwaxlaw06.PathsKnown'. -/
def pathsKnownUptoCard : Claim7 := { stood := { row := pathsKnownUptoRow, standIns := [], harness := (true, "deee7a93dad61722e402878ae5b0da5636c6e0c584310a5f72c0b2a1f33a2165"), looks := false }, kinds := [], alts := [], laidByText := true, laidKinds := [.data, .pinned], laidTests := true, laidLooks := .later }
def PathsKnownUptoCardSaid : Prop := Claim7.holds Tryd.pinned (.plain (OpenSpec.upto pathsKnownSpec)) pathsKnownUptoCard
end Rows
end Go.Proofs.YtihdmfkkpdajlaaDoor
