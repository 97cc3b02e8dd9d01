/-
  DERIVED. GIVEN WITH THE SEED: THE CARDS: each row of YtnjeppmpnaemlaaDoorRows.lean that lists a variable, with what it lists TIED to the program's text (the seventh form; the later family's looks); each row that meets fmt, with fmt's text TOLD by the authors' own Lean function (tested against real Go, not proved from fmt's source: count such statements apart). THE CARD IS WHAT COUNTS. Prove the row's statement (the work); the ties are given (YtnjeppmpnaemlaaDoorTie.lean); close each card by the builder's one call (the guide's Derived/Test/ToyasCard.lean, 'card_holds'). Laid BY PROGRAM, IN A SANDBOX (cutbox-door.mjs). By AI agents, Wed Nov 11 2026. No macro, syntax, notation, axiom, sorry.
-/
import Derived.Test.YtnjeppmpnaemlaaDoorRows
import GoSem.ClaimSeven
namespace Go.Proofs.YtnjeppmpnaemlaaDoor
namespace Rows

/-- THE TIED CARD OF 'redwaxlaw15.GraphKnown'. -/
def graphKnownCard : Claim7 := { stood := { row := graphKnownRow, standIns := [], harness := (true, "741095116ac8b10a70e0a120c48db378d70fc87bb6747730b8626cf30a4d274e"), looks := true }, kinds := [], alts := [], laidByText := true, laidKinds := [.data, .data], laidTests := true, laidLooks := .later }
def GraphKnownCardSaid : Prop := Claim7.holds Tryd.pinned (.plain (OpenSpec.ofChange graphKnownSpec)) graphKnownCard

/-- THE TIED CARD OF 'redwaxlaw15.GraphNoCircles'. -/
def graphNoCirclesCard : Claim7 := { stood := { row := graphNoCirclesRow, standIns := [], harness := (true, "741095116ac8b10a70e0a120c48db378d70fc87bb6747730b8626cf30a4d274e"), looks := true }, kinds := [], alts := [], laidByText := true, laidKinds := [.data, .data], laidTests := true, laidLooks := .later }
def GraphNoCirclesCardSaid : Prop := Claim7.holds Tryd.pinned (.plain (OpenSpec.ofChange graphNoCirclesSpec)) graphNoCirclesCard

/-- THE TIED CARD OF 'redwaxlaw15.GraphSet'. -/
def graphSetCard : Claim7 := { stood := { row := graphSetRow, standIns := [], harness := (true, "741095116ac8b10a70e0a120c48db378d70fc87bb6747730b8626cf30a4d274e"), looks := true }, kinds := [], alts := [], laidByText := true, laidKinds := [.data, .data], laidTests := true, laidLooks := .later }
def GraphSetCardSaid : Prop := Claim7.holds Tryd.pinned (.plain (OpenSpec.ofChange graphSetSpec)) graphSetCard

/-- THE TIED CARD OF 'redwaxlaw16.RenderItems'. -/
def renderItemsCard : Claim7 := { stood := { row := renderItemsRow, standIns := [], harness := (true, "741095116ac8b10a70e0a120c48db378d70fc87bb6747730b8626cf30a4d274e"), looks := true }, kinds := [], alts := [], laidByText := true, laidKinds := [.data, .data], laidTests := true, laidLooks := .later }
def RenderItemsCardSaid : Prop := Claim7.holds Tryd.pinned (.plain (OpenSpec.ofChange renderItemsSpec)) renderItemsCard

/-- THE TIED CARD OF 'redwaxlaw16.RenderTexts'. -/
def renderTextsCard : Claim7 := { stood := { row := renderTextsRow, standIns := [], harness := (true, "741095116ac8b10a70e0a120c48db378d70fc87bb6747730b8626cf30a4d274e"), looks := true }, kinds := [], alts := [], laidByText := true, laidKinds := [.data, .data], laidTests := true, laidLooks := .later }
def RenderTextsCardSaid : Prop := Claim7.holds Tryd.pinned (.plain (OpenSpec.ofChange renderTextsSpec)) renderTextsCard

/-- THE TIED CARD OF 'redwaxlaw16.RenderWhole'. -/
def renderWholeCard : Claim7 := { stood := { row := renderWholeRow, standIns := [], harness := (true, "741095116ac8b10a70e0a120c48db378d70fc87bb6747730b8626cf30a4d274e"), looks := true }, kinds := [], alts := [], laidByText := true, laidKinds := [.data, .data], laidTests := true, laidLooks := .later }
def RenderWholeCardSaid : Prop := Claim7.holds Tryd.pinned (.plain (OpenSpec.ofChange renderWholeSpec)) renderWholeCard

/-- THE TIED CARD OF 'redwaxlaw16.RenderPlain'. -/
def renderPlainCard : Claim7 := { stood := { row := renderPlainRow, standIns := [], harness := (true, "741095116ac8b10a70e0a120c48db378d70fc87bb6747730b8626cf30a4d274e"), looks := true }, kinds := [], alts := [], laidByText := true, laidKinds := [.data, .data], laidTests := true, laidLooks := .later }
def RenderPlainCardSaid : Prop := Claim7.holds Tryd.pinned (.plain (OpenSpec.ofChange renderPlainSpec)) renderPlainCard

/-- THE TIED CARD OF 'redwaxlaw16.RenderKnown'. -/
def renderKnownCard : Claim7 := { stood := { row := renderKnownRow, standIns := [], harness := (true, "741095116ac8b10a70e0a120c48db378d70fc87bb6747730b8626cf30a4d274e"), looks := true }, kinds := [], alts := [], laidByText := true, laidKinds := [.data, .data], laidTests := true, laidLooks := .later }
def RenderKnownCardSaid : Prop := Claim7.holds Tryd.pinned (.plain (OpenSpec.ofChange renderKnownSpec)) renderKnownCard

/-- THE SECOND FORM's CARD OF 'redwaxlaw15.GraphKnown'. -/
def graphKnownUptoCard : Claim7 := { stood := { row := graphKnownUptoRow, standIns := [], harness := (true, "741095116ac8b10a70e0a120c48db378d70fc87bb6747730b8626cf30a4d274e"), looks := true }, kinds := [], alts := [], laidByText := true, laidKinds := [.data, .data], laidTests := true, laidLooks := .later }
def GraphKnownUptoCardSaid : Prop := Claim7.holds Tryd.pinned (.plain (OpenSpec.upto graphKnownSpec)) graphKnownUptoCard

/-- THE SECOND FORM's CARD OF 'redwaxlaw15.GraphNoCircles'. -/
def graphNoCirclesUptoCard : Claim7 := { stood := { row := graphNoCirclesUptoRow, standIns := [], harness := (true, "741095116ac8b10a70e0a120c48db378d70fc87bb6747730b8626cf30a4d274e"), looks := true }, kinds := [], alts := [], laidByText := true, laidKinds := [.data, .data], laidTests := true, laidLooks := .later }
def GraphNoCirclesUptoCardSaid : Prop := Claim7.holds Tryd.pinned (.plain (OpenSpec.upto graphNoCirclesSpec)) graphNoCirclesUptoCard

/-- THE SECOND FORM's CARD OF 'redwaxlaw15.GraphSet'. -/
def graphSetUptoCard : Claim7 := { stood := { row := graphSetUptoRow, standIns := [], harness := (true, "741095116ac8b10a70e0a120c48db378d70fc87bb6747730b8626cf30a4d274e"), looks := true }, kinds := [], alts := [], laidByText := true, laidKinds := [.data, .data], laidTests := true, laidLooks := .later }
def GraphSetUptoCardSaid : Prop := Claim7.holds Tryd.pinned (.plain (OpenSpec.upto graphSetSpec)) graphSetUptoCard

/-- THE SECOND FORM's CARD OF 'redwaxlaw16.RenderItems'. -/
def renderItemsUptoCard : Claim7 := { stood := { row := renderItemsUptoRow, standIns := [], harness := (true, "741095116ac8b10a70e0a120c48db378d70fc87bb6747730b8626cf30a4d274e"), looks := true }, kinds := [], alts := [], laidByText := true, laidKinds := [.data, .data], laidTests := true, laidLooks := .later }
def RenderItemsUptoCardSaid : Prop := Claim7.holds Tryd.pinned (.plain (OpenSpec.upto renderItemsSpec)) renderItemsUptoCard

/-- THE SECOND FORM's CARD OF 'redwaxlaw16.RenderTexts'. -/
def renderTextsUptoCard : Claim7 := { stood := { row := renderTextsUptoRow, standIns := [], harness := (true, "741095116ac8b10a70e0a120c48db378d70fc87bb6747730b8626cf30a4d274e"), looks := true }, kinds := [], alts := [], laidByText := true, laidKinds := [.data, .data], laidTests := true, laidLooks := .later }
def RenderTextsUptoCardSaid : Prop := Claim7.holds Tryd.pinned (.plain (OpenSpec.upto renderTextsSpec)) renderTextsUptoCard

/-- THE SECOND FORM's CARD OF 'redwaxlaw16.RenderWhole'. -/
def renderWholeUptoCard : Claim7 := { stood := { row := renderWholeUptoRow, standIns := [], harness := (true, "741095116ac8b10a70e0a120c48db378d70fc87bb6747730b8626cf30a4d274e"), looks := true }, kinds := [], alts := [], laidByText := true, laidKinds := [.data, .data], laidTests := true, laidLooks := .later }
def RenderWholeUptoCardSaid : Prop := Claim7.holds Tryd.pinned (.plain (OpenSpec.upto renderWholeSpec)) renderWholeUptoCard

/-- THE SECOND FORM's CARD OF 'redwaxlaw16.RenderPlain'. -/
def renderPlainUptoCard : Claim7 := { stood := { row := renderPlainUptoRow, standIns := [], harness := (true, "741095116ac8b10a70e0a120c48db378d70fc87bb6747730b8626cf30a4d274e"), looks := true }, kinds := [], alts := [], laidByText := true, laidKinds := [.data, .data], laidTests := true, laidLooks := .later }
def RenderPlainUptoCardSaid : Prop := Claim7.holds Tryd.pinned (.plain (OpenSpec.upto renderPlainSpec)) renderPlainUptoCard

/-- THE SECOND FORM's CARD OF 'redwaxlaw16.RenderKnown'. -/
def renderKnownUptoCard : Claim7 := { stood := { row := renderKnownUptoRow, standIns := [], harness := (true, "741095116ac8b10a70e0a120c48db378d70fc87bb6747730b8626cf30a4d274e"), looks := true }, kinds := [], alts := [], laidByText := true, laidKinds := [.data, .data], laidTests := true, laidLooks := .later }
def RenderKnownUptoCardSaid : Prop := Claim7.holds Tryd.pinned (.plain (OpenSpec.upto renderKnownSpec)) renderKnownUptoCard
end Rows
end Go.Proofs.YtnjeppmpnaemlaaDoor
