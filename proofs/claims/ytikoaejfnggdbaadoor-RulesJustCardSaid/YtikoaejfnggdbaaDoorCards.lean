/-
  DERIVED. GIVEN WITH THE SEED: THE CARDS: each row of YtikoaejfnggdbaaDoorRows.lean that lists a variable, with what it lists TIED to the program's text (the seventh form; the later family's looks); each row that meets fmt, with fmt's text TOLD by the authors' own Lean function (tested against real Go, not proved from fmt's source: count such statements apart). THE CARD IS WHAT COUNTS. Prove the row's statement (the work); the ties are given (YtikoaejfnggdbaaDoorTie.lean); close each card by the builder's one call (the guide's Derived/Test/ToyasCard.lean, 'card_holds'). Laid BY PROGRAM, IN A SANDBOX (cutbox-door.mjs). By AI agents, Wed Nov 11 2026. No macro, syntax, notation, axiom, sorry.
-/
import Derived.Test.YtikoaejfnggdbaaDoorRows
import GoSem.ClaimSeven
namespace Go.Proofs.YtikoaejfnggdbaaDoor
namespace Rows

/-- THE TIED CARD OF 'redwaxlaw07.RulesWith'. -/
def rulesWithCard : Claim7 := { stood := { row := rulesWithRow, standIns := [], harness := (true, "4b541314d921ef507fbf45cd059bdd0ca97869c3459ebe51ff46b8b27c36752e"), looks := false }, kinds := [], alts := [], laidByText := true, laidKinds := [.data, .pinned], laidTests := true, laidLooks := .later }
def RulesWithCardSaid : Prop := Claim7.holds Tryd.pinned (.plain (OpenSpec.ofChange rulesWithSpec)) rulesWithCard

/-- THE TIED CARD OF 'redwaxlaw07.RulesJust'. -/
def rulesJustCard : Claim7 := { stood := { row := rulesJustRow, standIns := [], harness := (true, "4b541314d921ef507fbf45cd059bdd0ca97869c3459ebe51ff46b8b27c36752e"), looks := false }, kinds := [], alts := [], laidByText := true, laidKinds := [.data, .pinned], laidTests := true, laidLooks := .later }
def RulesJustCardSaid : Prop := Claim7.holds Tryd.pinned (.plain (OpenSpec.ofChange rulesJustSpec)) rulesJustCard

/-- THE TIED CARD OF 'redwaxlaw07.RulesTouched'. -/
def rulesTouchedCard : Claim7 := { stood := { row := rulesTouchedRow, standIns := [], harness := (true, "4b541314d921ef507fbf45cd059bdd0ca97869c3459ebe51ff46b8b27c36752e"), looks := false }, kinds := [], alts := [], laidByText := true, laidKinds := [.data, .pinned], laidTests := true, laidLooks := .later }
def RulesTouchedCardSaid : Prop := Claim7.holds Tryd.pinned (.plain (OpenSpec.ofChange rulesTouchedSpec)) rulesTouchedCard

/-- THE SECOND FORM's CARD OF 'redwaxlaw07.RulesWith'. -/
def rulesWithUptoCard : Claim7 := { stood := { row := rulesWithUptoRow, standIns := [], harness := (true, "4b541314d921ef507fbf45cd059bdd0ca97869c3459ebe51ff46b8b27c36752e"), looks := false }, kinds := [], alts := [], laidByText := true, laidKinds := [.data, .pinned], laidTests := true, laidLooks := .later }
def RulesWithUptoCardSaid : Prop := Claim7.holds Tryd.pinned (.plain (OpenSpec.upto rulesWithSpec)) rulesWithUptoCard

/-- THE SECOND FORM's CARD OF 'redwaxlaw07.RulesJust'. -/
def rulesJustUptoCard : Claim7 := { stood := { row := rulesJustUptoRow, standIns := [], harness := (true, "4b541314d921ef507fbf45cd059bdd0ca97869c3459ebe51ff46b8b27c36752e"), looks := false }, kinds := [], alts := [], laidByText := true, laidKinds := [.data, .pinned], laidTests := true, laidLooks := .later }
def RulesJustUptoCardSaid : Prop := Claim7.holds Tryd.pinned (.plain (OpenSpec.upto rulesJustSpec)) rulesJustUptoCard

/-- THE SECOND FORM's CARD OF 'redwaxlaw07.RulesTouched'. -/
def rulesTouchedUptoCard : Claim7 := { stood := { row := rulesTouchedUptoRow, standIns := [], harness := (true, "4b541314d921ef507fbf45cd059bdd0ca97869c3459ebe51ff46b8b27c36752e"), looks := false }, kinds := [], alts := [], laidByText := true, laidKinds := [.data, .pinned], laidTests := true, laidLooks := .later }
def RulesTouchedUptoCardSaid : Prop := Claim7.holds Tryd.pinned (.plain (OpenSpec.upto rulesTouchedSpec)) rulesTouchedUptoCard
end Rows
end Go.Proofs.YtikoaejfnggdbaaDoor
