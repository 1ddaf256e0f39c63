/-
  No cell of these rows narrows 'for every input' (looked for: loops, veiled, ifaces, maps, wideKeys, modest, calm, conditions, laid).
  DERIVED. THE GIVEN ROWS OF THIS SEAT. 5 by the template 'for every input the law returns true; each argument reads behind the call as it read before'; 0 by the template 'total and deterministic' (their statements: YtjdidlbmgnfcdaaTotals.lean).
  GIVEN WITH THE SEED: the statements are not yours to turn. If you find one false, say at which input.
  Laid BY PROGRAM, IN A SANDBOX (cutbox-rows.mjs): the forced cells as the released guide's own fill.sh prints them over the translation a3dba002b867a049… (all of the seat's roots in one cut). By AI agents, Wed Nov 11 2026. No macro, syntax, notation, axiom, sorry.
-/
import Derived.Test.YtjdidlbmgnfcdaaChecked
import GoSem.Claim
import GoSem.ClaimJoined
import GoSem.ClaimMapViews
import Derived.JoinedTies
import Derived.KernelRfl
namespace Go.Proofs.Ytjdidlbmgnfcdaa
/- THE CELL 'sum', in the pinned program and in every row, IS THE sha256 OF THE DUMP (.gsa) THAT YtjdidlbmgnfcdaaProg.lean LOADS. Nothing in Lean hashes anything: it is a label: what it is worth is what the hold of that sum in a sandbox is worth. -/
noncomputable def Try.pinned : Pinned := { name := "ytjdidlbmgnfcdaa", sum := "a3dba002b867a0495022268abb1e821916f375b2e1fdc119163cf3e0199da1dc", checked := Try.checked }
namespace Rows
def none {H : Type} : Left H := { results := [], args := [] }

/-- 'lodestonelaw09.GraphLeft': WHATEVER THE INPUT: true; the input reads as it did. -/
def graphLeftSpec : ChangeSpec := { name := "graphLeft", fn := fun _ => fun
  | [d1, d2, d3] => { results := [.lit (.bool true)], args := [d1, d2, d3] }
  | _ => none }
def graphLeftRow : OpenClaim := { program := "ytjdidlbmgnfcdaa", sum := "a3dba002b867a0495022268abb1e821916f375b2e1fdc119163cf3e0199da1dc", func := "lodestone/lodestonelaw09.GraphLeft", spec := "graphLeft", apart := false }
def GraphLeftSaid : Prop := graphLeftRow.holds Try.pinned (OpenSpec.ofChange graphLeftSpec)

/-- ITS FALSE NEIGHBOUR: 'it returns false'. Refute it at one input. -/
def graphLeftWrong : ChangeSpec := { name := "graphLeft", fn := fun _ => fun
  | [d1, d2, d3] => { results := [.lit (.bool false)], args := [d1, d2, d3] }
  | _ => none }
def GraphLeftWrongFalsely : Prop := graphLeftRow.holds Try.pinned (OpenSpec.ofChange graphLeftWrong)

/-- 'lodestonelaw10.PruneDominates': WHATEVER THE INPUT: true; the input reads as it did. -/
def pruneDominatesSpec : ChangeSpec := { name := "pruneDominates", fn := fun _ => fun
  | [d1, d2, d3] => { results := [.lit (.bool true)], args := [d1, d2, d3] }
  | _ => none }
def pruneDominatesRow : OpenClaim := { program := "ytjdidlbmgnfcdaa", sum := "a3dba002b867a0495022268abb1e821916f375b2e1fdc119163cf3e0199da1dc", func := "lodestone/lodestonelaw10.PruneDominates", spec := "pruneDominates", unfollowed := true, recurses := true, apart := false }
def PruneDominatesSaid : Prop := pruneDominatesRow.holds Try.pinned (OpenSpec.ofChange pruneDominatesSpec)

/-- ITS FALSE NEIGHBOUR: 'it returns false'. Refute it at one input. -/
def pruneDominatesWrong : ChangeSpec := { name := "pruneDominates", fn := fun _ => fun
  | [d1, d2, d3] => { results := [.lit (.bool false)], args := [d1, d2, d3] }
  | _ => none }
def PruneDominatesWrongFalsely : Prop := pruneDominatesRow.holds Try.pinned (OpenSpec.ofChange pruneDominatesWrong)

/-- 'lodestonelaw10.PruneRule': WHATEVER THE INPUT: true; the input reads as it did. -/
def pruneRuleSpec : ChangeSpec := { name := "pruneRule", fn := fun _ => fun
  | [d1, d2] => { results := [.lit (.bool true)], args := [d1, d2] }
  | _ => none }
def pruneRuleRow : OpenClaim := { program := "ytjdidlbmgnfcdaa", sum := "a3dba002b867a0495022268abb1e821916f375b2e1fdc119163cf3e0199da1dc", func := "lodestone/lodestonelaw10.PruneRule", spec := "pruneRule", unfollowed := true, recurses := true, apart := false }
def PruneRuleSaid : Prop := pruneRuleRow.holds Try.pinned (OpenSpec.ofChange pruneRuleSpec)

/-- ITS FALSE NEIGHBOUR: 'it returns false'. Refute it at one input. -/
def pruneRuleWrong : ChangeSpec := { name := "pruneRule", fn := fun _ => fun
  | [d1, d2] => { results := [.lit (.bool false)], args := [d1, d2] }
  | _ => none }
def PruneRuleWrongFalsely : Prop := pruneRuleRow.holds Try.pinned (OpenSpec.ofChange pruneRuleWrong)

/-- 'lodestonelaw10.PruneAgain': WHATEVER THE INPUT: true; the input reads as it did. -/
def pruneAgainSpec : ChangeSpec := { name := "pruneAgain", fn := fun _ => fun
  | [d1, d2] => { results := [.lit (.bool true)], args := [d1, d2] }
  | _ => none }
def pruneAgainRow : OpenClaim := { program := "ytjdidlbmgnfcdaa", sum := "a3dba002b867a0495022268abb1e821916f375b2e1fdc119163cf3e0199da1dc", func := "lodestone/lodestonelaw10.PruneAgain", spec := "pruneAgain", unfollowed := true, recurses := true, apart := false }
def PruneAgainSaid : Prop := pruneAgainRow.holds Try.pinned (OpenSpec.ofChange pruneAgainSpec)

/-- ITS FALSE NEIGHBOUR: 'it returns false'. Refute it at one input. -/
def pruneAgainWrong : ChangeSpec := { name := "pruneAgain", fn := fun _ => fun
  | [d1, d2] => { results := [.lit (.bool false)], args := [d1, d2] }
  | _ => none }
def PruneAgainWrongFalsely : Prop := pruneAgainRow.holds Try.pinned (OpenSpec.ofChange pruneAgainWrong)

/-- 'lodestonelaw10.PruneMore': WHATEVER THE INPUT: true; the input reads as it did. -/
def pruneMoreSpec : ChangeSpec := { name := "pruneMore", fn := fun _ => fun
  | [d1, d2, d3] => { results := [.lit (.bool true)], args := [d1, d2, d3] }
  | _ => none }
def pruneMoreRow : OpenClaim := { program := "ytjdidlbmgnfcdaa", sum := "a3dba002b867a0495022268abb1e821916f375b2e1fdc119163cf3e0199da1dc", func := "lodestone/lodestonelaw10.PruneMore", spec := "pruneMore", unfollowed := true, recurses := true, apart := false }
def PruneMoreSaid : Prop := pruneMoreRow.holds Try.pinned (OpenSpec.ofChange pruneMoreSpec)

/-- ITS FALSE NEIGHBOUR: 'it returns false'. Refute it at one input. -/
def pruneMoreWrong : ChangeSpec := { name := "pruneMore", fn := fun _ => fun
  | [d1, d2, d3] => { results := [.lit (.bool false)], args := [d1, d2, d3] }
  | _ => none }
def PruneMoreWrongFalsely : Prop := pruneMoreRow.holds Try.pinned (OpenSpec.ofChange pruneMoreWrong)

/- THE SECOND FORM. 'bulk': how many values and letters a reading holds, each counted each time it is reached (what is shared counts as often as it is met; a slice's spare places count too). A statement '..UptoSaid' is the law's where the arguments, and the package variables that the reading takes, are together of bulk at most 1048576: NARROWER than '..Said'. Prove '..Said' where nothing that the law and all that it calls make is longer than what came in: it says more and counts as full. Else prove '..UptoSaid'. A law counts once. -/
mutual
def uptoBulk {H : Type} : DataW H → Nat
  | .lit (.string bytes) => bytes.length + 1
  | .lit _ => 1
  | .nil => 1
  | .ptr d => uptoBulk d + 1
  | .slice elems spare => uptoBulkAll elems + uptoBulkAll spare + 1
  | .agg parts => uptoBulkAll parts + 1
  | .iface _ d => uptoBulk d + 1
  | .map entries => uptoBulkEntries entries + 1
  | .held _ => 1
def uptoBulkAll {H : Type} : List (DataW H) → Nat
  | [] => 0
  | d :: r => uptoBulk d + uptoBulkAll r
def uptoBulkEntries {H : Type} : List (Lit × DataW H) → Nat
  | [] => 0
  | x :: r => uptoBulkEntry x + uptoBulkEntries r
def uptoBulkEntry {H : Type} : Lit × DataW H → Nat
  | (.string bytes, d) => bytes.length + uptoBulk d + 1
  | (_, d) => uptoBulk d + 1
 end
def uptoSmall : (H : Type) → List (DataW H) → Bool := fun _ ds => decide (uptoBulkAll ds ≤ 1048576)
def OpenSpec.upto (s : _root_.Go.ChangeSpec) : _root_.Go.OpenSpec := { _root_.Go.OpenSpec.ofChange s with cond := some uptoSmall }

/-- 'lodestonelaw09.GraphLeft', WHERE WHAT IT READS IS OF BULK AT MOST 1048576: true; the input reads as it did. -/
def graphLeftUptoRow : OpenClaim := { program := "ytjdidlbmgnfcdaa", sum := "a3dba002b867a0495022268abb1e821916f375b2e1fdc119163cf3e0199da1dc", func := "lodestone/lodestonelaw09.GraphLeft", spec := "graphLeft", apart := false, narrowed := true }
def GraphLeftUptoSaid : Prop := graphLeftUptoRow.holds Try.pinned (OpenSpec.upto graphLeftSpec)

/-- 'lodestonelaw10.PruneDominates', WHERE WHAT IT READS IS OF BULK AT MOST 1048576: true; the input reads as it did. -/
def pruneDominatesUptoRow : OpenClaim := { program := "ytjdidlbmgnfcdaa", sum := "a3dba002b867a0495022268abb1e821916f375b2e1fdc119163cf3e0199da1dc", func := "lodestone/lodestonelaw10.PruneDominates", spec := "pruneDominates", unfollowed := true, recurses := true, apart := false, narrowed := true }
def PruneDominatesUptoSaid : Prop := pruneDominatesUptoRow.holds Try.pinned (OpenSpec.upto pruneDominatesSpec)

/-- 'lodestonelaw10.PruneRule', WHERE WHAT IT READS IS OF BULK AT MOST 1048576: true; the input reads as it did. -/
def pruneRuleUptoRow : OpenClaim := { program := "ytjdidlbmgnfcdaa", sum := "a3dba002b867a0495022268abb1e821916f375b2e1fdc119163cf3e0199da1dc", func := "lodestone/lodestonelaw10.PruneRule", spec := "pruneRule", unfollowed := true, recurses := true, apart := false, narrowed := true }
def PruneRuleUptoSaid : Prop := pruneRuleUptoRow.holds Try.pinned (OpenSpec.upto pruneRuleSpec)

/-- 'lodestonelaw10.PruneAgain', WHERE WHAT IT READS IS OF BULK AT MOST 1048576: true; the input reads as it did. -/
def pruneAgainUptoRow : OpenClaim := { program := "ytjdidlbmgnfcdaa", sum := "a3dba002b867a0495022268abb1e821916f375b2e1fdc119163cf3e0199da1dc", func := "lodestone/lodestonelaw10.PruneAgain", spec := "pruneAgain", unfollowed := true, recurses := true, apart := false, narrowed := true }
def PruneAgainUptoSaid : Prop := pruneAgainUptoRow.holds Try.pinned (OpenSpec.upto pruneAgainSpec)

/-- 'lodestonelaw10.PruneMore', WHERE WHAT IT READS IS OF BULK AT MOST 1048576: true; the input reads as it did. -/
def pruneMoreUptoRow : OpenClaim := { program := "ytjdidlbmgnfcdaa", sum := "a3dba002b867a0495022268abb1e821916f375b2e1fdc119163cf3e0199da1dc", func := "lodestone/lodestonelaw10.PruneMore", spec := "pruneMore", unfollowed := true, recurses := true, apart := false, narrowed := true }
def PruneMoreUptoSaid : Prop := pruneMoreUptoRow.holds Try.pinned (OpenSpec.upto pruneMoreSpec)

end Rows
end Go.Proofs.Ytjdidlbmgnfcdaa
