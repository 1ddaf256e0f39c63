/-
  No cell of these rows narrows 'for every input' (looked for: loops, veiled, ifaces, maps, wideKeys, modest, calm, conditions, laid).
  DERIVED. THE GIVEN ROWS OF THIS SEAT. 7 by the template 'for every input the law returns true; each argument reads behind the call as it read before'; 0 by the template 'total and deterministic' (their statements: YtmlfcnjfaonaiaaTotals.lean).
  GIVEN WITH THE SEED: the statements are not yours to turn. If you find one false, say at which input.
  Laid BY PROGRAM, IN A SANDBOX (cutbox-rows.mjs): the forced cells as the released guide's own fill.sh prints them over the translation 7082b1b81102d80d… (all of the seat's roots in one cut). By AI agents, Wed Nov 11 2026. No macro, syntax, notation, axiom, sorry.
-/
import Derived.Test.YtmlfcnjfaonaiaaChecked
import GoSem.Claim
import GoSem.ClaimJoined
import GoSem.ClaimMapViews
import Derived.JoinedTies
import Derived.KernelRfl
namespace Go.Proofs.Ytmlfcnjfaonaiaa
/- THE CELL 'sum', in the pinned program and in every row, IS THE sha256 OF THE DUMP (.gsa) THAT YtmlfcnjfaonaiaaProg.lean LOADS. Nothing in Lean hashes anything: it is a label: what it is worth is what the hold of that sum in a sandbox is worth. -/
noncomputable def Try.pinned : Pinned := { name := "ytmlfcnjfaonaiaa", sum := "7082b1b81102d80d953deef03163b400d51589ab19f4d81ad3abdb252c8cc97b", checked := Try.checked }
namespace Rows
def none {H : Type} : Left H := { results := [], args := [] }

/-- 'lodestonelaw06.DrawsNext': WHATEVER THE INPUT: true; the input reads as it did. -/
def drawsNextSpec : ChangeSpec := { name := "drawsNext", fn := fun _ => fun
  | [d1, d2] => { results := [.lit (.bool true)], args := [d1, d2] }
  | _ => none }
def drawsNextRow : OpenClaim := { program := "ytmlfcnjfaonaiaa", sum := "7082b1b81102d80d953deef03163b400d51589ab19f4d81ad3abdb252c8cc97b", func := "lodestone/lodestonelaw06.DrawsNext", spec := "drawsNext", apart := false }
def DrawsNextSaid : Prop := drawsNextRow.holds Try.pinned (OpenSpec.ofChange drawsNextSpec)

/-- ITS FALSE NEIGHBOUR: 'it returns false'. Refute it at one input. -/
def drawsNextWrong : ChangeSpec := { name := "drawsNext", fn := fun _ => fun
  | [d1, d2] => { results := [.lit (.bool false)], args := [d1, d2] }
  | _ => none }
def DrawsNextWrongFalsely : Prop := drawsNextRow.holds Try.pinned (OpenSpec.ofChange drawsNextWrong)

/-- 'lodestonelaw06.DrawsBelow': WHATEVER THE INPUT: true; the input reads as it did. -/
def drawsBelowSpec : ChangeSpec := { name := "drawsBelow", fn := fun _ => fun
  | [d1, d2] => { results := [.lit (.bool true)], args := [d1, d2] }
  | _ => none }
def drawsBelowRow : OpenClaim := { program := "ytmlfcnjfaonaiaa", sum := "7082b1b81102d80d953deef03163b400d51589ab19f4d81ad3abdb252c8cc97b", func := "lodestone/lodestonelaw06.DrawsBelow", spec := "drawsBelow", unfollowed := true, recurses := true, apart := false }
def DrawsBelowSaid : Prop := drawsBelowRow.holds Try.pinned (OpenSpec.ofChange drawsBelowSpec)

/-- ITS FALSE NEIGHBOUR: 'it returns false'. Refute it at one input. -/
def drawsBelowWrong : ChangeSpec := { name := "drawsBelow", fn := fun _ => fun
  | [d1, d2] => { results := [.lit (.bool false)], args := [d1, d2] }
  | _ => none }
def DrawsBelowWrongFalsely : Prop := drawsBelowRow.holds Try.pinned (OpenSpec.ofChange drawsBelowWrong)

/-- 'lodestonelaw06.DrawsSteps': WHATEVER THE INPUT: true; the input reads as it did. -/
def drawsStepsSpec : ChangeSpec := { name := "drawsSteps", fn := fun _ => fun
  | [d1, d2] => { results := [.lit (.bool true)], args := [d1, d2] }
  | _ => none }
def drawsStepsRow : OpenClaim := { program := "ytmlfcnjfaonaiaa", sum := "7082b1b81102d80d953deef03163b400d51589ab19f4d81ad3abdb252c8cc97b", func := "lodestone/lodestonelaw06.DrawsSteps", spec := "drawsSteps", unfollowed := true, recurses := true, apart := false }
def DrawsStepsSaid : Prop := drawsStepsRow.holds Try.pinned (OpenSpec.ofChange drawsStepsSpec)

/-- ITS FALSE NEIGHBOUR: 'it returns false'. Refute it at one input. -/
def drawsStepsWrong : ChangeSpec := { name := "drawsSteps", fn := fun _ => fun
  | [d1, d2] => { results := [.lit (.bool false)], args := [d1, d2] }
  | _ => none }
def DrawsStepsWrongFalsely : Prop := drawsStepsRow.holds Try.pinned (OpenSpec.ofChange drawsStepsWrong)

/-- 'lodestonelaw06.DrawsAll': WHATEVER THE INPUT: true; the input reads as it did. -/
def drawsAllSpec : ChangeSpec := { name := "drawsAll", fn := fun _ => fun
  | [d1, d2] => { results := [.lit (.bool true)], args := [d1, d2] }
  | _ => none }
def drawsAllRow : OpenClaim := { program := "ytmlfcnjfaonaiaa", sum := "7082b1b81102d80d953deef03163b400d51589ab19f4d81ad3abdb252c8cc97b", func := "lodestone/lodestonelaw06.DrawsAll", spec := "drawsAll", unfollowed := true, recurses := true, apart := false }
def DrawsAllSaid : Prop := drawsAllRow.holds Try.pinned (OpenSpec.ofChange drawsAllSpec)

/-- ITS FALSE NEIGHBOUR: 'it returns false'. Refute it at one input. -/
def drawsAllWrong : ChangeSpec := { name := "drawsAll", fn := fun _ => fun
  | [d1, d2] => { results := [.lit (.bool false)], args := [d1, d2] }
  | _ => none }
def DrawsAllWrongFalsely : Prop := drawsAllRow.holds Try.pinned (OpenSpec.ofChange drawsAllWrong)

/-- 'lodestonelaw06.DrawsFewer': WHATEVER THE INPUT: true; the input reads as it did. -/
def drawsFewerSpec : ChangeSpec := { name := "drawsFewer", fn := fun _ => fun
  | [d1, d2, d3] => { results := [.lit (.bool true)], args := [d1, d2, d3] }
  | _ => none }
def drawsFewerRow : OpenClaim := { program := "ytmlfcnjfaonaiaa", sum := "7082b1b81102d80d953deef03163b400d51589ab19f4d81ad3abdb252c8cc97b", func := "lodestone/lodestonelaw06.DrawsFewer", spec := "drawsFewer", unfollowed := true, recurses := true, apart := false }
def DrawsFewerSaid : Prop := drawsFewerRow.holds Try.pinned (OpenSpec.ofChange drawsFewerSpec)

/-- ITS FALSE NEIGHBOUR: 'it returns false'. Refute it at one input. -/
def drawsFewerWrong : ChangeSpec := { name := "drawsFewer", fn := fun _ => fun
  | [d1, d2, d3] => { results := [.lit (.bool false)], args := [d1, d2, d3] }
  | _ => none }
def DrawsFewerWrongFalsely : Prop := drawsFewerRow.holds Try.pinned (OpenSpec.ofChange drawsFewerWrong)

/-- 'lodestonelaw06.DrawsGoOn': WHATEVER THE INPUT: true; the input reads as it did. -/
def drawsGoOnSpec : ChangeSpec := { name := "drawsGoOn", fn := fun _ => fun
  | [d1, d2] => { results := [.lit (.bool true)], args := [d1, d2] }
  | _ => none }
def drawsGoOnRow : OpenClaim := { program := "ytmlfcnjfaonaiaa", sum := "7082b1b81102d80d953deef03163b400d51589ab19f4d81ad3abdb252c8cc97b", func := "lodestone/lodestonelaw06.DrawsGoOn", spec := "drawsGoOn", unfollowed := true, recurses := true, apart := false }
def DrawsGoOnSaid : Prop := drawsGoOnRow.holds Try.pinned (OpenSpec.ofChange drawsGoOnSpec)

/-- ITS FALSE NEIGHBOUR: 'it returns false'. Refute it at one input. -/
def drawsGoOnWrong : ChangeSpec := { name := "drawsGoOn", fn := fun _ => fun
  | [d1, d2] => { results := [.lit (.bool false)], args := [d1, d2] }
  | _ => none }
def DrawsGoOnWrongFalsely : Prop := drawsGoOnRow.holds Try.pinned (OpenSpec.ofChange drawsGoOnWrong)

/-- 'lodestonelaw06.DrawsFirst': WHATEVER THE INPUT: true; the input reads as it did. -/
def drawsFirstSpec : ChangeSpec := { name := "drawsFirst", fn := fun _ => fun
  | [d1, d2] => { results := [.lit (.bool true)], args := [d1, d2] }
  | _ => none }
def drawsFirstRow : OpenClaim := { program := "ytmlfcnjfaonaiaa", sum := "7082b1b81102d80d953deef03163b400d51589ab19f4d81ad3abdb252c8cc97b", func := "lodestone/lodestonelaw06.DrawsFirst", spec := "drawsFirst", unfollowed := true, recurses := true, apart := false }
def DrawsFirstSaid : Prop := drawsFirstRow.holds Try.pinned (OpenSpec.ofChange drawsFirstSpec)

/-- ITS FALSE NEIGHBOUR: 'it returns false'. Refute it at one input. -/
def drawsFirstWrong : ChangeSpec := { name := "drawsFirst", fn := fun _ => fun
  | [d1, d2] => { results := [.lit (.bool false)], args := [d1, d2] }
  | _ => none }
def DrawsFirstWrongFalsely : Prop := drawsFirstRow.holds Try.pinned (OpenSpec.ofChange drawsFirstWrong)

/- THE SECOND FORM. 'bulk': how many values and letters a reading holds, each counted each time it is reached (what is shared counts as often as it is met; a slice's spare places count too). A statement '..UptoSaid' is the law's where the arguments, and the package variables that the reading takes, are together of bulk at most 1048576: NARROWER than '..Said'. Prove '..Said' where nothing that the law and all that it calls make is longer than what came in: it says more and counts as full. Else prove '..UptoSaid'. A law counts once. -/
mutual
def uptoBulk {H : Type} : DataW H → Nat
  | .lit (.string bytes) => bytes.length + 1
  | .lit _ => 1
  | .nil => 1
  | .ptr d => uptoBulk d + 1
  | .slice elems spare => uptoBulkAll elems + uptoBulkAll spare + 1
  | .agg parts => uptoBulkAll parts + 1
  | .iface _ d => uptoBulk d + 1
  | .map entries => uptoBulkEntries entries + 1
  | .held _ => 1
def uptoBulkAll {H : Type} : List (DataW H) → Nat
  | [] => 0
  | d :: r => uptoBulk d + uptoBulkAll r
def uptoBulkEntries {H : Type} : List (Lit × DataW H) → Nat
  | [] => 0
  | x :: r => uptoBulkEntry x + uptoBulkEntries r
def uptoBulkEntry {H : Type} : Lit × DataW H → Nat
  | (.string bytes, d) => bytes.length + uptoBulk d + 1
  | (_, d) => uptoBulk d + 1
 end
def uptoSmall : (H : Type) → List (DataW H) → Bool := fun _ ds => decide (uptoBulkAll ds ≤ 1048576)
def OpenSpec.upto (s : _root_.Go.ChangeSpec) : _root_.Go.OpenSpec := { _root_.Go.OpenSpec.ofChange s with cond := some uptoSmall }

/-- 'lodestonelaw06.DrawsNext', WHERE WHAT IT READS IS OF BULK AT MOST 1048576: true; the input reads as it did. -/
def drawsNextUptoRow : OpenClaim := { program := "ytmlfcnjfaonaiaa", sum := "7082b1b81102d80d953deef03163b400d51589ab19f4d81ad3abdb252c8cc97b", func := "lodestone/lodestonelaw06.DrawsNext", spec := "drawsNext", apart := false, narrowed := true }
def DrawsNextUptoSaid : Prop := drawsNextUptoRow.holds Try.pinned (OpenSpec.upto drawsNextSpec)

/-- 'lodestonelaw06.DrawsBelow', WHERE WHAT IT READS IS OF BULK AT MOST 1048576: true; the input reads as it did. -/
def drawsBelowUptoRow : OpenClaim := { program := "ytmlfcnjfaonaiaa", sum := "7082b1b81102d80d953deef03163b400d51589ab19f4d81ad3abdb252c8cc97b", func := "lodestone/lodestonelaw06.DrawsBelow", spec := "drawsBelow", unfollowed := true, recurses := true, apart := false, narrowed := true }
def DrawsBelowUptoSaid : Prop := drawsBelowUptoRow.holds Try.pinned (OpenSpec.upto drawsBelowSpec)

/-- 'lodestonelaw06.DrawsSteps', WHERE WHAT IT READS IS OF BULK AT MOST 1048576: true; the input reads as it did. -/
def drawsStepsUptoRow : OpenClaim := { program := "ytmlfcnjfaonaiaa", sum := "7082b1b81102d80d953deef03163b400d51589ab19f4d81ad3abdb252c8cc97b", func := "lodestone/lodestonelaw06.DrawsSteps", spec := "drawsSteps", unfollowed := true, recurses := true, apart := false, narrowed := true }
def DrawsStepsUptoSaid : Prop := drawsStepsUptoRow.holds Try.pinned (OpenSpec.upto drawsStepsSpec)

/-- 'lodestonelaw06.DrawsAll', WHERE WHAT IT READS IS OF BULK AT MOST 1048576: true; the input reads as it did. -/
def drawsAllUptoRow : OpenClaim := { program := "ytmlfcnjfaonaiaa", sum := "7082b1b81102d80d953deef03163b400d51589ab19f4d81ad3abdb252c8cc97b", func := "lodestone/lodestonelaw06.DrawsAll", spec := "drawsAll", unfollowed := true, recurses := true, apart := false, narrowed := true }
def DrawsAllUptoSaid : Prop := drawsAllUptoRow.holds Try.pinned (OpenSpec.upto drawsAllSpec)

/-- 'lodestonelaw06.DrawsFewer', WHERE WHAT IT READS IS OF BULK AT MOST 1048576: true; the input reads as it did. -/
def drawsFewerUptoRow : OpenClaim := { program := "ytmlfcnjfaonaiaa", sum := "7082b1b81102d80d953deef03163b400d51589ab19f4d81ad3abdb252c8cc97b", func := "lodestone/lodestonelaw06.DrawsFewer", spec := "drawsFewer", unfollowed := true, recurses := true, apart := false, narrowed := true }
def DrawsFewerUptoSaid : Prop := drawsFewerUptoRow.holds Try.pinned (OpenSpec.upto drawsFewerSpec)

/-- 'lodestonelaw06.DrawsGoOn', WHERE WHAT IT READS IS OF BULK AT MOST 1048576: true; the input reads as it did. -/
def drawsGoOnUptoRow : OpenClaim := { program := "ytmlfcnjfaonaiaa", sum := "7082b1b81102d80d953deef03163b400d51589ab19f4d81ad3abdb252c8cc97b", func := "lodestone/lodestonelaw06.DrawsGoOn", spec := "drawsGoOn", unfollowed := true, recurses := true, apart := false, narrowed := true }
def DrawsGoOnUptoSaid : Prop := drawsGoOnUptoRow.holds Try.pinned (OpenSpec.upto drawsGoOnSpec)

/-- 'lodestonelaw06.DrawsFirst', WHERE WHAT IT READS IS OF BULK AT MOST 1048576: true; the input reads as it did. -/
def drawsFirstUptoRow : OpenClaim := { program := "ytmlfcnjfaonaiaa", sum := "7082b1b81102d80d953deef03163b400d51589ab19f4d81ad3abdb252c8cc97b", func := "lodestone/lodestonelaw06.DrawsFirst", spec := "drawsFirst", unfollowed := true, recurses := true, apart := false, narrowed := true }
def DrawsFirstUptoSaid : Prop := drawsFirstUptoRow.holds Try.pinned (OpenSpec.upto drawsFirstSpec)

end Rows
end Go.Proofs.Ytmlfcnjfaonaiaa
