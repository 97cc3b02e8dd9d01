/-
  No cell of these rows narrows 'for every input' (looked for: loops, veiled, ifaces, maps, wideKeys, modest, calm, conditions, laid).
  DERIVED. THE GIVEN ROWS OF THIS SEAT. 5 by the template 'for every input the law returns true; each argument reads behind the call as it read before'; 0 by the template 'total and deterministic' (their statements: YtlofnpebknfmkaaTotals.lean).
  GIVEN WITH THE SEED: the statements are not yours to turn. If you find one false, say at which input.
  Laid BY PROGRAM, IN A SANDBOX (cutbox-rows.mjs): the forced cells as the released guide's own fill.sh prints them over the translation fb76548f2cb3c6e9… (all of the seat's roots in one cut). By AI agents, Wed Nov 11 2026. No macro, syntax, notation, axiom, sorry.
-/
import Derived.Test.YtlofnpebknfmkaaChecked
import GoSem.Claim
import GoSem.ClaimJoined
import GoSem.ClaimMapViews
import Derived.JoinedTies
import Derived.KernelRfl
namespace Go.Proofs.Ytlofnpebknfmkaa
/- THE CELL 'sum', in the pinned program and in every row, IS THE sha256 OF THE DUMP (.gsa) THAT YtlofnpebknfmkaaProg.lean LOADS. Nothing in Lean hashes anything: it is a label: what it is worth is what the hold of that sum in a sandbox is worth. -/
noncomputable def Try.pinned : Pinned := { name := "ytlofnpebknfmkaa", sum := "fb76548f2cb3c6e9d78981b692179741c58e93a7e2e6805bf0bc44a7fd3f7f1c", checked := Try.checked }
namespace Rows
def none {H : Type} : Left H := { results := [], args := [] }

/-- 'redwaxlaw10.EpochOpens': WHATEVER THE INPUT: true; the input reads as it did. -/
def epochOpensSpec : ChangeSpec := { name := "epochOpens", fn := fun _ => fun
  | [d1, d2, d3] => { results := [.lit (.bool true)], args := [d1, d2, d3] }
  | _ => none }
def epochOpensRow : OpenClaim := { program := "ytlofnpebknfmkaa", sum := "fb76548f2cb3c6e9d78981b692179741c58e93a7e2e6805bf0bc44a7fd3f7f1c", func := "redwax/redwaxlaw10.EpochOpens", spec := "epochOpens", unfollowed := true, recurses := true, apart := false }
def EpochOpensSaid : Prop := epochOpensRow.holds Try.pinned (OpenSpec.ofChange epochOpensSpec)

/-- ITS FALSE NEIGHBOUR: 'it returns false'. Refute it at one input. -/
def epochOpensWrong : ChangeSpec := { name := "epochOpens", fn := fun _ => fun
  | [d1, d2, d3] => { results := [.lit (.bool false)], args := [d1, d2, d3] }
  | _ => none }
def EpochOpensWrongFalsely : Prop := epochOpensRow.holds Try.pinned (OpenSpec.ofChange epochOpensWrong)

/-- 'redwaxlaw10.EpochCounts': WHATEVER THE INPUT: true; the input reads as it did. -/
def epochCountsSpec : ChangeSpec := { name := "epochCounts", fn := fun _ => fun
  | [d1, d2] => { results := [.lit (.bool true)], args := [d1, d2] }
  | _ => none }
def epochCountsRow : OpenClaim := { program := "ytlofnpebknfmkaa", sum := "fb76548f2cb3c6e9d78981b692179741c58e93a7e2e6805bf0bc44a7fd3f7f1c", func := "redwax/redwaxlaw10.EpochCounts", spec := "epochCounts", unfollowed := true, recurses := true, apart := false }
def EpochCountsSaid : Prop := epochCountsRow.holds Try.pinned (OpenSpec.ofChange epochCountsSpec)

/-- ITS FALSE NEIGHBOUR: 'it returns false'. Refute it at one input. -/
def epochCountsWrong : ChangeSpec := { name := "epochCounts", fn := fun _ => fun
  | [d1, d2] => { results := [.lit (.bool false)], args := [d1, d2] }
  | _ => none }
def EpochCountsWrongFalsely : Prop := epochCountsRow.holds Try.pinned (OpenSpec.ofChange epochCountsWrong)

/-- 'redwaxlaw10.EpochCut': WHATEVER THE INPUT: true; the input reads as it did. -/
def epochCutSpec : ChangeSpec := { name := "epochCut", fn := fun _ => fun
  | [d1, d2] => { results := [.lit (.bool true)], args := [d1, d2] }
  | _ => none }
def epochCutRow : OpenClaim := { program := "ytlofnpebknfmkaa", sum := "fb76548f2cb3c6e9d78981b692179741c58e93a7e2e6805bf0bc44a7fd3f7f1c", func := "redwax/redwaxlaw10.EpochCut", spec := "epochCut", unfollowed := true, recurses := true, apart := false }
def EpochCutSaid : Prop := epochCutRow.holds Try.pinned (OpenSpec.ofChange epochCutSpec)

/-- ITS FALSE NEIGHBOUR: 'it returns false'. Refute it at one input. -/
def epochCutWrong : ChangeSpec := { name := "epochCut", fn := fun _ => fun
  | [d1, d2] => { results := [.lit (.bool false)], args := [d1, d2] }
  | _ => none }
def EpochCutWrongFalsely : Prop := epochCutRow.holds Try.pinned (OpenSpec.ofChange epochCutWrong)

/-- 'redwaxlaw10.EpochTwo': WHATEVER THE INPUT: true; the input reads as it did. -/
def epochTwoSpec : ChangeSpec := { name := "epochTwo", fn := fun _ => fun
  | [d1, d2] => { results := [.lit (.bool true)], args := [d1, d2] }
  | _ => none }
def epochTwoRow : OpenClaim := { program := "ytlofnpebknfmkaa", sum := "fb76548f2cb3c6e9d78981b692179741c58e93a7e2e6805bf0bc44a7fd3f7f1c", func := "redwax/redwaxlaw10.EpochTwo", spec := "epochTwo", unfollowed := true, recurses := true, apart := false }
def EpochTwoSaid : Prop := epochTwoRow.holds Try.pinned (OpenSpec.ofChange epochTwoSpec)

/-- ITS FALSE NEIGHBOUR: 'it returns false'. Refute it at one input. -/
def epochTwoWrong : ChangeSpec := { name := "epochTwo", fn := fun _ => fun
  | [d1, d2] => { results := [.lit (.bool false)], args := [d1, d2] }
  | _ => none }
def EpochTwoWrongFalsely : Prop := epochTwoRow.holds Try.pinned (OpenSpec.ofChange epochTwoWrong)

/-- 'redwaxlaw10.EpochKnown': WHATEVER THE INPUT: true; the input reads as it did. -/
def epochKnownSpec : ChangeSpec := { name := "epochKnown", fn := fun _ => fun
  | [] => { results := [.lit (.bool true)], args := [] }
  | _ => none }
def epochKnownRow : OpenClaim := { program := "ytlofnpebknfmkaa", sum := "fb76548f2cb3c6e9d78981b692179741c58e93a7e2e6805bf0bc44a7fd3f7f1c", func := "redwax/redwaxlaw10.EpochKnown", spec := "epochKnown", unfollowed := true, recurses := true, apart := false }
def EpochKnownSaid : Prop := epochKnownRow.holds Try.pinned (OpenSpec.ofChange epochKnownSpec)

/-- ITS FALSE NEIGHBOUR: 'it returns false'. Refute it at one input. -/
def epochKnownWrong : ChangeSpec := { name := "epochKnown", fn := fun _ => fun
  | [] => { results := [.lit (.bool false)], args := [] }
  | _ => none }
def EpochKnownWrongFalsely : Prop := epochKnownRow.holds Try.pinned (OpenSpec.ofChange epochKnownWrong)

/- THE SECOND FORM. 'bulk': how many values and letters a reading holds, each counted each time it is reached (what is shared counts as often as it is met; a slice's spare places count too). A statement '..UptoSaid' is the law's where the arguments, and the package variables that the reading takes, are together of bulk at most 1048576: NARROWER than '..Said'. Prove '..Said' where nothing that the law and all that it calls make is longer than what came in: it says more and counts as full. Else prove '..UptoSaid'. A law counts once. -/
mutual
def uptoBulk {H : Type} : DataW H → Nat
  | .lit (.string bytes) => bytes.length + 1
  | .lit _ => 1
  | .nil => 1
  | .ptr d => uptoBulk d + 1
  | .slice elems spare => uptoBulkAll elems + uptoBulkAll spare + 1
  | .agg parts => uptoBulkAll parts + 1
  | .iface _ d => uptoBulk d + 1
  | .map entries => uptoBulkEntries entries + 1
  | .held _ => 1
def uptoBulkAll {H : Type} : List (DataW H) → Nat
  | [] => 0
  | d :: r => uptoBulk d + uptoBulkAll r
def uptoBulkEntries {H : Type} : List (Lit × DataW H) → Nat
  | [] => 0
  | x :: r => uptoBulkEntry x + uptoBulkEntries r
def uptoBulkEntry {H : Type} : Lit × DataW H → Nat
  | (.string bytes, d) => bytes.length + uptoBulk d + 1
  | (_, d) => uptoBulk d + 1
 end
def uptoSmall : (H : Type) → List (DataW H) → Bool := fun _ ds => decide (uptoBulkAll ds ≤ 1048576)
def OpenSpec.upto (s : _root_.Go.ChangeSpec) : _root_.Go.OpenSpec := { _root_.Go.OpenSpec.ofChange s with cond := some uptoSmall }

/-- 'redwaxlaw10.EpochOpens', WHERE WHAT IT READS IS OF BULK AT MOST 1048576: true; the input reads as it did. -/
def epochOpensUptoRow : OpenClaim := { program := "ytlofnpebknfmkaa", sum := "fb76548f2cb3c6e9d78981b692179741c58e93a7e2e6805bf0bc44a7fd3f7f1c", func := "redwax/redwaxlaw10.EpochOpens", spec := "epochOpens", unfollowed := true, recurses := true, apart := false, narrowed := true }
def EpochOpensUptoSaid : Prop := epochOpensUptoRow.holds Try.pinned (OpenSpec.upto epochOpensSpec)

/-- 'redwaxlaw10.EpochCounts', WHERE WHAT IT READS IS OF BULK AT MOST 1048576: true; the input reads as it did. -/
def epochCountsUptoRow : OpenClaim := { program := "ytlofnpebknfmkaa", sum := "fb76548f2cb3c6e9d78981b692179741c58e93a7e2e6805bf0bc44a7fd3f7f1c", func := "redwax/redwaxlaw10.EpochCounts", spec := "epochCounts", unfollowed := true, recurses := true, apart := false, narrowed := true }
def EpochCountsUptoSaid : Prop := epochCountsUptoRow.holds Try.pinned (OpenSpec.upto epochCountsSpec)

/-- 'redwaxlaw10.EpochCut', WHERE WHAT IT READS IS OF BULK AT MOST 1048576: true; the input reads as it did. -/
def epochCutUptoRow : OpenClaim := { program := "ytlofnpebknfmkaa", sum := "fb76548f2cb3c6e9d78981b692179741c58e93a7e2e6805bf0bc44a7fd3f7f1c", func := "redwax/redwaxlaw10.EpochCut", spec := "epochCut", unfollowed := true, recurses := true, apart := false, narrowed := true }
def EpochCutUptoSaid : Prop := epochCutUptoRow.holds Try.pinned (OpenSpec.upto epochCutSpec)

/-- 'redwaxlaw10.EpochTwo', WHERE WHAT IT READS IS OF BULK AT MOST 1048576: true; the input reads as it did. -/
def epochTwoUptoRow : OpenClaim := { program := "ytlofnpebknfmkaa", sum := "fb76548f2cb3c6e9d78981b692179741c58e93a7e2e6805bf0bc44a7fd3f7f1c", func := "redwax/redwaxlaw10.EpochTwo", spec := "epochTwo", unfollowed := true, recurses := true, apart := false, narrowed := true }
def EpochTwoUptoSaid : Prop := epochTwoUptoRow.holds Try.pinned (OpenSpec.upto epochTwoSpec)

/-- 'redwaxlaw10.EpochKnown', WHERE WHAT IT READS IS OF BULK AT MOST 1048576: true; the input reads as it did. -/
def epochKnownUptoRow : OpenClaim := { program := "ytlofnpebknfmkaa", sum := "fb76548f2cb3c6e9d78981b692179741c58e93a7e2e6805bf0bc44a7fd3f7f1c", func := "redwax/redwaxlaw10.EpochKnown", spec := "epochKnown", unfollowed := true, recurses := true, apart := false, narrowed := true }
def EpochKnownUptoSaid : Prop := epochKnownUptoRow.holds Try.pinned (OpenSpec.upto epochKnownSpec)

end Rows
end Go.Proofs.Ytlofnpebknfmkaa
