/-
  DERIVED. GIVEN WITH THE SEED: THE CARDS: each row of YtmbcojpdigoojaaDoorRows.lean that lists a variable, with what it lists TIED to the program's text (the seventh form; the later family's looks); each row that meets fmt, with fmt's text TOLD by the authors' own Lean function (tested against real Go, not proved from fmt's source: count such statements apart). THE CARD IS WHAT COUNTS. Prove the row's statement (the work); the ties are given (YtmbcojpdigoojaaDoorTie.lean); close each card by the builder's one call (the guide's Derived/Test/ToyasCard.lean, 'card_holds'). Laid BY PROGRAM, IN A SANDBOX (cutbox-door.mjs). By AI agents, Wed Nov 11 2026. No macro, syntax, notation, axiom, sorry.
-/
import Derived.Test.YtmbcojpdigoojaaDoorRows
import GoSem.ClaimSeven
namespace Go.Proofs.YtmbcojpdigoojaaDoor
namespace Rows

/-- THE TIED CARD OF 'redwaxlaw07.RulesWith'. -/
def rulesWithCard : Claim7 := { stood := { row := rulesWithRow, standIns := [], harness := (true, "9818676a5db744fe49c61d6aad6a752de76c5dad5999e658ada819938828a747"), looks := false }, kinds := [], alts := [], laidByText := true, laidKinds := [.data, .pinned], laidTests := true, laidLooks := .later }
def RulesWithCardSaid : Prop := Claim7.holds Tryd.pinned (.plain (OpenSpec.ofChange rulesWithSpec)) rulesWithCard

/-- THE SECOND FORM's CARD OF 'redwaxlaw07.RulesWith'. -/
def rulesWithUptoCard : Claim7 := { stood := { row := rulesWithUptoRow, standIns := [], harness := (true, "9818676a5db744fe49c61d6aad6a752de76c5dad5999e658ada819938828a747"), looks := false }, kinds := [], alts := [], laidByText := true, laidKinds := [.data, .pinned], laidTests := true, laidLooks := .later }
def RulesWithUptoCardSaid : Prop := Claim7.holds Tryd.pinned (.plain (OpenSpec.upto rulesWithSpec)) rulesWithUptoCard
end Rows
end Go.Proofs.YtmbcojpdigoojaaDoor
