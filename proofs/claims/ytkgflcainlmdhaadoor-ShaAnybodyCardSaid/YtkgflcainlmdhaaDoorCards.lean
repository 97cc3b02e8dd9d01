/-
  DERIVED. GIVEN WITH THE SEED: THE CARDS: each row of YtkgflcainlmdhaaDoorRows.lean that lists a variable, with what it lists TIED to the program's text (the seventh form; the later family's looks); each row that meets fmt, with fmt's text TOLD by the authors' own Lean function (tested against real Go, not proved from fmt's source: count such statements apart). THE CARD IS WHAT COUNTS. Prove the row's statement (the work); the ties are given (YtkgflcainlmdhaaDoorTie.lean); close each card by the builder's one call (the guide's Derived/Test/ToyasCard.lean, 'card_holds'). Laid BY PROGRAM, IN A SANDBOX (cutbox-door.mjs). By AI agents, Wed Nov 11 2026. No macro, syntax, notation, axiom, sorry.
-/
import Derived.Test.YtkgflcainlmdhaaDoorRows
import GoSem.ClaimSeven
namespace Go.Proofs.YtkgflcainlmdhaaDoor
namespace Rows

/-- THE TIED CARD OF 'redwaxlaw01.ShaMixes'. -/
def shaMixesCard : Claim7 := { stood := { row := shaMixesRow, standIns := [], harness := (true, "0cb4650ec9fcf2aad6bbd0e58025f5f2c321952e476bde59071335d8533a3b0a"), looks := false }, kinds := [], alts := [], laidByText := true, laidKinds := [.data, .data], laidTests := true, laidLooks := .later }
def ShaMixesCardSaid : Prop := Claim7.holds Tryd.pinned (.plain (OpenSpec.ofChange shaMixesSpec)) shaMixesCard

/-- THE TIED CARD OF 'redwaxlaw01.ShaDigests'. -/
def shaDigestsCard : Claim7 := { stood := { row := shaDigestsRow, standIns := [], harness := (true, "0cb4650ec9fcf2aad6bbd0e58025f5f2c321952e476bde59071335d8533a3b0a"), looks := false }, kinds := [], alts := [], laidByText := true, laidKinds := [.data, .data], laidTests := true, laidLooks := .later }
def ShaDigestsCardSaid : Prop := Claim7.holds Tryd.pinned (.plain (OpenSpec.ofChange shaDigestsSpec)) shaDigestsCard

/-- THE TIED CARD OF 'redwaxlaw01.ShaGoesOn'. -/
def shaGoesOnCard : Claim7 := { stood := { row := shaGoesOnRow, standIns := [], harness := (true, "0cb4650ec9fcf2aad6bbd0e58025f5f2c321952e476bde59071335d8533a3b0a"), looks := false }, kinds := [], alts := [], laidByText := true, laidKinds := [.data, .data], laidTests := true, laidLooks := .later }
def ShaGoesOnCardSaid : Prop := Claim7.holds Tryd.pinned (.plain (OpenSpec.ofChange shaGoesOnSpec)) shaGoesOnCard

/-- THE TIED CARD OF 'redwaxlaw01.ShaWords'. -/
def shaWordsCard : Claim7 := { stood := { row := shaWordsRow, standIns := [], harness := (true, "0cb4650ec9fcf2aad6bbd0e58025f5f2c321952e476bde59071335d8533a3b0a"), looks := false }, kinds := [], alts := [], laidByText := true, laidKinds := [.data, .data], laidTests := true, laidLooks := .later }
def ShaWordsCardSaid : Prop := Claim7.holds Tryd.pinned (.plain (OpenSpec.ofChange shaWordsSpec)) shaWordsCard

/-- THE TIED CARD OF 'redwaxlaw01.ShaKnown'. -/
def shaKnownCard : Claim7 := { stood := { row := shaKnownRow, standIns := [], harness := (true, "0cb4650ec9fcf2aad6bbd0e58025f5f2c321952e476bde59071335d8533a3b0a"), looks := false }, kinds := [], alts := [], laidByText := true, laidKinds := [.data, .data], laidTests := true, laidLooks := .later }
def ShaKnownCardSaid : Prop := Claim7.holds Tryd.pinned (.plain (OpenSpec.ofChange shaKnownSpec)) shaKnownCard

/-- THE TIED CARD OF 'redwaxlaw01.ShaFolds'. -/
def shaFoldsCard : Claim7 := { stood := { row := shaFoldsRow, standIns := [], harness := (true, "0cb4650ec9fcf2aad6bbd0e58025f5f2c321952e476bde59071335d8533a3b0a"), looks := false }, kinds := [], alts := [], laidByText := true, laidKinds := [.data, .data], laidTests := true, laidLooks := .later }
def ShaFoldsCardSaid : Prop := Claim7.holds Tryd.pinned (.plain (OpenSpec.ofChange shaFoldsSpec)) shaFoldsCard

/-- THE TIED CARD OF 'redwaxlaw01.ShaAnybody'. -/
def shaAnybodyCard : Claim7 := { stood := { row := shaAnybodyRow, standIns := [], harness := (true, "0cb4650ec9fcf2aad6bbd0e58025f5f2c321952e476bde59071335d8533a3b0a"), looks := false }, kinds := [], alts := [], laidByText := true, laidKinds := [.data, .data], laidTests := true, laidLooks := .later }
def ShaAnybodyCardSaid : Prop := Claim7.holds Tryd.pinned (.plain (OpenSpec.ofChange shaAnybodySpec)) shaAnybodyCard

/-- THE TIED CARD OF 'redwaxlaw01.ShaTurned'. -/
def shaTurnedCard : Claim7 := { stood := { row := shaTurnedRow, standIns := [], harness := (true, "0cb4650ec9fcf2aad6bbd0e58025f5f2c321952e476bde59071335d8533a3b0a"), looks := false }, kinds := [], alts := [], laidByText := true, laidKinds := [.data, .data], laidTests := true, laidLooks := .later }
def ShaTurnedCardSaid : Prop := Claim7.holds Tryd.pinned (.plain (OpenSpec.ofChange shaTurnedSpec)) shaTurnedCard

/-- THE SECOND FORM's CARD OF 'redwaxlaw01.ShaMixes'. -/
def shaMixesUptoCard : Claim7 := { stood := { row := shaMixesUptoRow, standIns := [], harness := (true, "0cb4650ec9fcf2aad6bbd0e58025f5f2c321952e476bde59071335d8533a3b0a"), looks := false }, kinds := [], alts := [], laidByText := true, laidKinds := [.data, .data], laidTests := true, laidLooks := .later }
def ShaMixesUptoCardSaid : Prop := Claim7.holds Tryd.pinned (.plain (OpenSpec.upto shaMixesSpec)) shaMixesUptoCard

/-- THE SECOND FORM's CARD OF 'redwaxlaw01.ShaDigests'. -/
def shaDigestsUptoCard : Claim7 := { stood := { row := shaDigestsUptoRow, standIns := [], harness := (true, "0cb4650ec9fcf2aad6bbd0e58025f5f2c321952e476bde59071335d8533a3b0a"), looks := false }, kinds := [], alts := [], laidByText := true, laidKinds := [.data, .data], laidTests := true, laidLooks := .later }
def ShaDigestsUptoCardSaid : Prop := Claim7.holds Tryd.pinned (.plain (OpenSpec.upto shaDigestsSpec)) shaDigestsUptoCard

/-- THE SECOND FORM's CARD OF 'redwaxlaw01.ShaGoesOn'. -/
def shaGoesOnUptoCard : Claim7 := { stood := { row := shaGoesOnUptoRow, standIns := [], harness := (true, "0cb4650ec9fcf2aad6bbd0e58025f5f2c321952e476bde59071335d8533a3b0a"), looks := false }, kinds := [], alts := [], laidByText := true, laidKinds := [.data, .data], laidTests := true, laidLooks := .later }
def ShaGoesOnUptoCardSaid : Prop := Claim7.holds Tryd.pinned (.plain (OpenSpec.upto shaGoesOnSpec)) shaGoesOnUptoCard

/-- THE SECOND FORM's CARD OF 'redwaxlaw01.ShaWords'. -/
def shaWordsUptoCard : Claim7 := { stood := { row := shaWordsUptoRow, standIns := [], harness := (true, "0cb4650ec9fcf2aad6bbd0e58025f5f2c321952e476bde59071335d8533a3b0a"), looks := false }, kinds := [], alts := [], laidByText := true, laidKinds := [.data, .data], laidTests := true, laidLooks := .later }
def ShaWordsUptoCardSaid : Prop := Claim7.holds Tryd.pinned (.plain (OpenSpec.upto shaWordsSpec)) shaWordsUptoCard

/-- THE SECOND FORM's CARD OF 'redwaxlaw01.ShaKnown'. -/
def shaKnownUptoCard : Claim7 := { stood := { row := shaKnownUptoRow, standIns := [], harness := (true, "0cb4650ec9fcf2aad6bbd0e58025f5f2c321952e476bde59071335d8533a3b0a"), looks := false }, kinds := [], alts := [], laidByText := true, laidKinds := [.data, .data], laidTests := true, laidLooks := .later }
def ShaKnownUptoCardSaid : Prop := Claim7.holds Tryd.pinned (.plain (OpenSpec.upto shaKnownSpec)) shaKnownUptoCard

/-- THE SECOND FORM's CARD OF 'redwaxlaw01.ShaFolds'. -/
def shaFoldsUptoCard : Claim7 := { stood := { row := shaFoldsUptoRow, standIns := [], harness := (true, "0cb4650ec9fcf2aad6bbd0e58025f5f2c321952e476bde59071335d8533a3b0a"), looks := false }, kinds := [], alts := [], laidByText := true, laidKinds := [.data, .data], laidTests := true, laidLooks := .later }
def ShaFoldsUptoCardSaid : Prop := Claim7.holds Tryd.pinned (.plain (OpenSpec.upto shaFoldsSpec)) shaFoldsUptoCard

/-- THE SECOND FORM's CARD OF 'redwaxlaw01.ShaAnybody'. -/
def shaAnybodyUptoCard : Claim7 := { stood := { row := shaAnybodyUptoRow, standIns := [], harness := (true, "0cb4650ec9fcf2aad6bbd0e58025f5f2c321952e476bde59071335d8533a3b0a"), looks := false }, kinds := [], alts := [], laidByText := true, laidKinds := [.data, .data], laidTests := true, laidLooks := .later }
def ShaAnybodyUptoCardSaid : Prop := Claim7.holds Tryd.pinned (.plain (OpenSpec.upto shaAnybodySpec)) shaAnybodyUptoCard

/-- THE SECOND FORM's CARD OF 'redwaxlaw01.ShaTurned'. -/
def shaTurnedUptoCard : Claim7 := { stood := { row := shaTurnedUptoRow, standIns := [], harness := (true, "0cb4650ec9fcf2aad6bbd0e58025f5f2c321952e476bde59071335d8533a3b0a"), looks := false }, kinds := [], alts := [], laidByText := true, laidKinds := [.data, .data], laidTests := true, laidLooks := .later }
def ShaTurnedUptoCardSaid : Prop := Claim7.holds Tryd.pinned (.plain (OpenSpec.upto shaTurnedSpec)) shaTurnedUptoCard
end Rows
end Go.Proofs.YtkgflcainlmdhaaDoor
