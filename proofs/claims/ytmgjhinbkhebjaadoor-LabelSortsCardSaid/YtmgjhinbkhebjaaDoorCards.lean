/-
  DERIVED. GIVEN WITH THE SEED: THE CARDS: each row of YtmgjhinbkhebjaaDoorRows.lean that lists a variable, with what it lists TIED to the program's text (the seventh form; the later family's looks); each row that meets fmt, with fmt's text TOLD by the authors' own Lean function (tested against real Go, not proved from fmt's source: count such statements apart). THE CARD IS WHAT COUNTS. Prove the row's statement (the work); the ties are given (YtmgjhinbkhebjaaDoorTie.lean); close each card by the builder's one call (the guide's Derived/Test/ToyasCard.lean, 'card_holds'). Laid BY PROGRAM, IN A SANDBOX (cutbox-door.mjs). By AI agents, Wed Nov 11 2026. No macro, syntax, notation, axiom, sorry.
-/
import Derived.Test.YtmgjhinbkhebjaaDoorRows
import GoSem.ClaimSeven
namespace Go.Proofs.YtmgjhinbkhebjaaDoor
namespace Rows

/-- THE TIED CARD OF 'redwaxlaw05.LabelTwo'. -/
def labelTwoCard : Claim7 := { stood := { row := labelTwoRow, standIns := [], harness := (true, "5ba2d73ccb6aa79cdf36e42a101060f2b9698198e73d26d3477af073e9e4aab2"), looks := true }, kinds := [], alts := [], laidByText := true, laidKinds := [.data, .data, .data], laidTests := true, laidLooks := .later }
def LabelTwoCardSaid : Prop := Claim7.holds Tryd.pinned (.plain (OpenSpec.ofChange labelTwoSpec)) labelTwoCard

/-- THE TIED CARD OF 'redwaxlaw05.LabelSorts'. -/
def labelSortsCard : Claim7 := { stood := { row := labelSortsRow, standIns := [], harness := (true, "5ba2d73ccb6aa79cdf36e42a101060f2b9698198e73d26d3477af073e9e4aab2"), looks := true }, kinds := [], alts := [], laidByText := true, laidKinds := [.data, .data, .data], laidTests := true, laidLooks := .later }
def LabelSortsCardSaid : Prop := Claim7.holds Tryd.pinned (.plain (OpenSpec.ofChange labelSortsSpec)) labelSortsCard

/-- THE TIED CARD OF 'redwaxlaw05.LabelKnown'. -/
def labelKnownCard : Claim7 := { stood := { row := labelKnownRow, standIns := [], harness := (true, "5ba2d73ccb6aa79cdf36e42a101060f2b9698198e73d26d3477af073e9e4aab2"), looks := true }, kinds := [], alts := [], laidByText := true, laidKinds := [.data, .data, .data, .sentinel, .sentinel], laidTests := true, laidLooks := .later }
def LabelKnownCardSaid : Prop := Claim7.holds Tryd.pinned (.plain (OpenSpec.ofChange labelKnownSpec)) labelKnownCard

/-- THE TIED CARD OF 'redwaxlaw05.LabelLattice'. -/
def labelLatticeCard : Claim7 := { stood := { row := labelLatticeRow, standIns := [], harness := (true, "5ba2d73ccb6aa79cdf36e42a101060f2b9698198e73d26d3477af073e9e4aab2"), looks := true }, kinds := [], alts := [], laidByText := true, laidKinds := [.data, .data, .data], laidTests := true, laidLooks := .later }
def LabelLatticeCardSaid : Prop := Claim7.holds Tryd.pinned (.plain (OpenSpec.ofChange labelLatticeSpec)) labelLatticeCard

/-- THE SECOND FORM's CARD OF 'redwaxlaw05.LabelTwo'. -/
def labelTwoUptoCard : Claim7 := { stood := { row := labelTwoUptoRow, standIns := [], harness := (true, "5ba2d73ccb6aa79cdf36e42a101060f2b9698198e73d26d3477af073e9e4aab2"), looks := true }, kinds := [], alts := [], laidByText := true, laidKinds := [.data, .data, .data], laidTests := true, laidLooks := .later }
def LabelTwoUptoCardSaid : Prop := Claim7.holds Tryd.pinned (.plain (OpenSpec.upto labelTwoSpec)) labelTwoUptoCard

/-- THE SECOND FORM's CARD OF 'redwaxlaw05.LabelSorts'. -/
def labelSortsUptoCard : Claim7 := { stood := { row := labelSortsUptoRow, standIns := [], harness := (true, "5ba2d73ccb6aa79cdf36e42a101060f2b9698198e73d26d3477af073e9e4aab2"), looks := true }, kinds := [], alts := [], laidByText := true, laidKinds := [.data, .data, .data], laidTests := true, laidLooks := .later }
def LabelSortsUptoCardSaid : Prop := Claim7.holds Tryd.pinned (.plain (OpenSpec.upto labelSortsSpec)) labelSortsUptoCard

/-- THE SECOND FORM's CARD OF 'redwaxlaw05.LabelKnown'. -/
def labelKnownUptoCard : Claim7 := { stood := { row := labelKnownUptoRow, standIns := [], harness := (true, "5ba2d73ccb6aa79cdf36e42a101060f2b9698198e73d26d3477af073e9e4aab2"), looks := true }, kinds := [], alts := [], laidByText := true, laidKinds := [.data, .data, .data, .sentinel, .sentinel], laidTests := true, laidLooks := .later }
def LabelKnownUptoCardSaid : Prop := Claim7.holds Tryd.pinned (.plain (OpenSpec.upto labelKnownSpec)) labelKnownUptoCard

/-- THE SECOND FORM's CARD OF 'redwaxlaw05.LabelLattice'. -/
def labelLatticeUptoCard : Claim7 := { stood := { row := labelLatticeUptoRow, standIns := [], harness := (true, "5ba2d73ccb6aa79cdf36e42a101060f2b9698198e73d26d3477af073e9e4aab2"), looks := true }, kinds := [], alts := [], laidByText := true, laidKinds := [.data, .data, .data], laidTests := true, laidLooks := .later }
def LabelLatticeUptoCardSaid : Prop := Claim7.holds Tryd.pinned (.plain (OpenSpec.upto labelLatticeSpec)) labelLatticeUptoCard
end Rows
end Go.Proofs.YtmgjhinbkhebjaaDoor
