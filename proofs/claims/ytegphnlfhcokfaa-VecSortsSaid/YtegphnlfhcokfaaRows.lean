/-
  No cell of these rows narrows 'for every input' (looked for: loops, veiled, ifaces, maps, wideKeys, modest, calm, conditions, laid).
  DERIVED. THE GIVEN ROWS OF THIS SEAT. 8 by the template 'for every input the law returns true; each argument reads behind the call as it read before'; 0 by the template 'total and deterministic' (their statements: YtegphnlfhcokfaaTotals.lean).
  GIVEN WITH THE SEED: the statements are not yours to turn. If you find one false, say at which input.
  Laid BY PROGRAM, IN A SANDBOX (cutbox-rows.mjs): the forced cells as the released guide's own fill.sh prints them over the translation c2d4d7e928de09f5… (all of the seat's roots in one cut). By AI agents, Wed Nov 11 2026. No macro, syntax, notation, axiom, sorry.
-/
import Derived.Test.YtegphnlfhcokfaaChecked
import GoSem.Claim
import GoSem.ClaimJoined
import GoSem.ClaimMapViews
import Derived.JoinedTies
import Derived.KernelRfl
namespace Go.Proofs.Ytegphnlfhcokfaa
/- THE CELL 'sum', in the pinned program and in every row, IS THE sha256 OF THE DUMP (.gsa) THAT YtegphnlfhcokfaaProg.lean LOADS. Nothing in Lean hashes anything: it is a label: what it is worth is what the hold of that sum in a sandbox is worth. -/
noncomputable def Try.pinned : Pinned := { name := "ytegphnlfhcokfaa", sum := "c2d4d7e928de09f5aa304b5f0b6f2e04899e1e5c48f40dd4c64450ba967b863d", checked := Try.checked }
namespace Rows
def none {H : Type} : Left H := { results := [], args := [] }

/-- 'lodestonelaw03.VecDists': WHATEVER THE INPUT: true; the input reads as it did. -/
def vecDistsSpec : ChangeSpec := { name := "vecDists", fn := fun _ => fun
  | [d1, d2] => { results := [.lit (.bool true)], args := [d1, d2] }
  | _ => none }
def vecDistsRow : OpenClaim := { program := "ytegphnlfhcokfaa", sum := "c2d4d7e928de09f5aa304b5f0b6f2e04899e1e5c48f40dd4c64450ba967b863d", func := "lodestone/lodestonelaw03.VecDists", spec := "vecDists", unfollowed := true, recurses := true, apart := false }
def VecDistsSaid : Prop := vecDistsRow.holds Try.pinned (OpenSpec.ofChange vecDistsSpec)

/-- ITS FALSE NEIGHBOUR: 'it returns false'. Refute it at one input. -/
def vecDistsWrong : ChangeSpec := { name := "vecDists", fn := fun _ => fun
  | [d1, d2] => { results := [.lit (.bool false)], args := [d1, d2] }
  | _ => none }
def VecDistsWrongFalsely : Prop := vecDistsRow.holds Try.pinned (OpenSpec.ofChange vecDistsWrong)

/-- 'lodestonelaw03.VecSorts': WHATEVER THE INPUT: true; the input reads as it did. -/
def vecSortsSpec : ChangeSpec := { name := "vecSorts", fn := fun _ => fun
  | [d] => { results := [.lit (.bool true)], args := [d] }
  | _ => none }
def vecSortsRow : OpenClaim := { program := "ytegphnlfhcokfaa", sum := "c2d4d7e928de09f5aa304b5f0b6f2e04899e1e5c48f40dd4c64450ba967b863d", func := "lodestone/lodestonelaw03.VecSorts", spec := "vecSorts", unfollowed := true, recurses := true, apart := false }
def VecSortsSaid : Prop := vecSortsRow.holds Try.pinned (OpenSpec.ofChange vecSortsSpec)

/-- ITS FALSE NEIGHBOUR: 'it returns false'. Refute it at one input. -/
def vecSortsWrong : ChangeSpec := { name := "vecSorts", fn := fun _ => fun
  | [d] => { results := [.lit (.bool false)], args := [d] }
  | _ => none }
def VecSortsWrongFalsely : Prop := vecSortsRow.holds Try.pinned (OpenSpec.ofChange vecSortsWrong)

/-- 'lodestonelaw03.VecBoth': WHATEVER THE INPUT: true; the input reads as it did. -/
def vecBothSpec : ChangeSpec := { name := "vecBoth", fn := fun _ => fun
  | [d1, d2, d3] => { results := [.lit (.bool true)], args := [d1, d2, d3] }
  | _ => none }
def vecBothRow : OpenClaim := { program := "ytegphnlfhcokfaa", sum := "c2d4d7e928de09f5aa304b5f0b6f2e04899e1e5c48f40dd4c64450ba967b863d", func := "lodestone/lodestonelaw03.VecBoth", spec := "vecBoth", unfollowed := true, recurses := true, apart := false }
def VecBothSaid : Prop := vecBothRow.holds Try.pinned (OpenSpec.ofChange vecBothSpec)

/-- ITS FALSE NEIGHBOUR: 'it returns false'. Refute it at one input. -/
def vecBothWrong : ChangeSpec := { name := "vecBoth", fn := fun _ => fun
  | [d1, d2, d3] => { results := [.lit (.bool false)], args := [d1, d2, d3] }
  | _ => none }
def VecBothWrongFalsely : Prop := vecBothRow.holds Try.pinned (OpenSpec.ofChange vecBothWrong)

/-- 'lodestonelaw03.VecThree': WHATEVER THE INPUT: true; the input reads as it did. -/
def vecThreeSpec : ChangeSpec := { name := "vecThree", fn := fun _ => fun
  | [d1, d2, d3] => { results := [.lit (.bool true)], args := [d1, d2, d3] }
  | _ => none }
def vecThreeRow : OpenClaim := { program := "ytegphnlfhcokfaa", sum := "c2d4d7e928de09f5aa304b5f0b6f2e04899e1e5c48f40dd4c64450ba967b863d", func := "lodestone/lodestonelaw03.VecThree", spec := "vecThree", unfollowed := true, recurses := true, apart := false }
def VecThreeSaid : Prop := vecThreeRow.holds Try.pinned (OpenSpec.ofChange vecThreeSpec)

/-- ITS FALSE NEIGHBOUR: 'it returns false'. Refute it at one input. -/
def vecThreeWrong : ChangeSpec := { name := "vecThree", fn := fun _ => fun
  | [d1, d2, d3] => { results := [.lit (.bool false)], args := [d1, d2, d3] }
  | _ => none }
def VecThreeWrongFalsely : Prop := vecThreeRow.holds Try.pinned (OpenSpec.ofChange vecThreeWrong)

/-- 'lodestonelaw03.VecOrder': WHATEVER THE INPUT: true; the input reads as it did. -/
def vecOrderSpec : ChangeSpec := { name := "vecOrder", fn := fun _ => fun
  | [d] => { results := [.lit (.bool true)], args := [d] }
  | _ => none }
def vecOrderRow : OpenClaim := { program := "ytegphnlfhcokfaa", sum := "c2d4d7e928de09f5aa304b5f0b6f2e04899e1e5c48f40dd4c64450ba967b863d", func := "lodestone/lodestonelaw03.VecOrder", spec := "vecOrder", unfollowed := true, recurses := true, apart := false }
def VecOrderSaid : Prop := vecOrderRow.holds Try.pinned (OpenSpec.ofChange vecOrderSpec)

/-- ITS FALSE NEIGHBOUR: 'it returns false'. Refute it at one input. -/
def vecOrderWrong : ChangeSpec := { name := "vecOrder", fn := fun _ => fun
  | [d] => { results := [.lit (.bool false)], args := [d] }
  | _ => none }
def VecOrderWrongFalsely : Prop := vecOrderRow.holds Try.pinned (OpenSpec.ofChange vecOrderWrong)

/-- 'lodestonelaw03.VecLeast': WHATEVER THE INPUT: true; the input reads as it did. -/
def vecLeastSpec : ChangeSpec := { name := "vecLeast", fn := fun _ => fun
  | [d1, d2] => { results := [.lit (.bool true)], args := [d1, d2] }
  | _ => none }
def vecLeastRow : OpenClaim := { program := "ytegphnlfhcokfaa", sum := "c2d4d7e928de09f5aa304b5f0b6f2e04899e1e5c48f40dd4c64450ba967b863d", func := "lodestone/lodestonelaw03.VecLeast", spec := "vecLeast", unfollowed := true, recurses := true, apart := false }
def VecLeastSaid : Prop := vecLeastRow.holds Try.pinned (OpenSpec.ofChange vecLeastSpec)

/-- ITS FALSE NEIGHBOUR: 'it returns false'. Refute it at one input. -/
def vecLeastWrong : ChangeSpec := { name := "vecLeast", fn := fun _ => fun
  | [d1, d2] => { results := [.lit (.bool false)], args := [d1, d2] }
  | _ => none }
def VecLeastWrongFalsely : Prop := vecLeastRow.holds Try.pinned (OpenSpec.ofChange vecLeastWrong)

/-- 'lodestonelaw03.VecAlike': WHATEVER THE INPUT: true; the input reads as it did. -/
def vecAlikeSpec : ChangeSpec := { name := "vecAlike", fn := fun _ => fun
  | [d1, d2, d3] => { results := [.lit (.bool true)], args := [d1, d2, d3] }
  | _ => none }
def vecAlikeRow : OpenClaim := { program := "ytegphnlfhcokfaa", sum := "c2d4d7e928de09f5aa304b5f0b6f2e04899e1e5c48f40dd4c64450ba967b863d", func := "lodestone/lodestonelaw03.VecAlike", spec := "vecAlike", unfollowed := true, recurses := true, apart := false }
def VecAlikeSaid : Prop := vecAlikeRow.holds Try.pinned (OpenSpec.ofChange vecAlikeSpec)

/-- ITS FALSE NEIGHBOUR: 'it returns false'. Refute it at one input. -/
def vecAlikeWrong : ChangeSpec := { name := "vecAlike", fn := fun _ => fun
  | [d1, d2, d3] => { results := [.lit (.bool false)], args := [d1, d2, d3] }
  | _ => none }
def VecAlikeWrongFalsely : Prop := vecAlikeRow.holds Try.pinned (OpenSpec.ofChange vecAlikeWrong)

/-- 'lodestonelaw03.VecMoved': WHATEVER THE INPUT: true; the input reads as it did. -/
def vecMovedSpec : ChangeSpec := { name := "vecMoved", fn := fun _ => fun
  | [d1, d2, d3] => { results := [.lit (.bool true)], args := [d1, d2, d3] }
  | _ => none }
def vecMovedRow : OpenClaim := { program := "ytegphnlfhcokfaa", sum := "c2d4d7e928de09f5aa304b5f0b6f2e04899e1e5c48f40dd4c64450ba967b863d", func := "lodestone/lodestonelaw03.VecMoved", spec := "vecMoved", unfollowed := true, recurses := true, apart := false }
def VecMovedSaid : Prop := vecMovedRow.holds Try.pinned (OpenSpec.ofChange vecMovedSpec)

/-- ITS FALSE NEIGHBOUR: 'it returns false'. Refute it at one input. -/
def vecMovedWrong : ChangeSpec := { name := "vecMoved", fn := fun _ => fun
  | [d1, d2, d3] => { results := [.lit (.bool false)], args := [d1, d2, d3] }
  | _ => none }
def VecMovedWrongFalsely : Prop := vecMovedRow.holds Try.pinned (OpenSpec.ofChange vecMovedWrong)

/- THE SECOND FORM. 'bulk': how many values and letters a reading holds, each counted each time it is reached (what is shared counts as often as it is met; a slice's spare places count too). A statement '..UptoSaid' is the law's where the arguments, and the package variables that the reading takes, are together of bulk at most 1048576: NARROWER than '..Said'. Prove '..Said' where nothing that the law and all that it calls make is longer than what came in: it says more and counts as full. Else prove '..UptoSaid'. A law counts once. -/
mutual
def uptoBulk {H : Type} : DataW H → Nat
  | .lit (.string bytes) => bytes.length + 1
  | .lit _ => 1
  | .nil => 1
  | .ptr d => uptoBulk d + 1
  | .slice elems spare => uptoBulkAll elems + uptoBulkAll spare + 1
  | .agg parts => uptoBulkAll parts + 1
  | .iface _ d => uptoBulk d + 1
  | .map entries => uptoBulkEntries entries + 1
  | .held _ => 1
def uptoBulkAll {H : Type} : List (DataW H) → Nat
  | [] => 0
  | d :: r => uptoBulk d + uptoBulkAll r
def uptoBulkEntries {H : Type} : List (Lit × DataW H) → Nat
  | [] => 0
  | x :: r => uptoBulkEntry x + uptoBulkEntries r
def uptoBulkEntry {H : Type} : Lit × DataW H → Nat
  | (.string bytes, d) => bytes.length + uptoBulk d + 1
  | (_, d) => uptoBulk d + 1
 end
def uptoSmall : (H : Type) → List (DataW H) → Bool := fun _ ds => decide (uptoBulkAll ds ≤ 1048576)
def OpenSpec.upto (s : _root_.Go.ChangeSpec) : _root_.Go.OpenSpec := { _root_.Go.OpenSpec.ofChange s with cond := some uptoSmall }

/-- 'lodestonelaw03.VecDists', WHERE WHAT IT READS IS OF BULK AT MOST 1048576: true; the input reads as it did. -/
def vecDistsUptoRow : OpenClaim := { program := "ytegphnlfhcokfaa", sum := "c2d4d7e928de09f5aa304b5f0b6f2e04899e1e5c48f40dd4c64450ba967b863d", func := "lodestone/lodestonelaw03.VecDists", spec := "vecDists", unfollowed := true, recurses := true, apart := false, narrowed := true }
def VecDistsUptoSaid : Prop := vecDistsUptoRow.holds Try.pinned (OpenSpec.upto vecDistsSpec)

/-- 'lodestonelaw03.VecSorts', WHERE WHAT IT READS IS OF BULK AT MOST 1048576: true; the input reads as it did. -/
def vecSortsUptoRow : OpenClaim := { program := "ytegphnlfhcokfaa", sum := "c2d4d7e928de09f5aa304b5f0b6f2e04899e1e5c48f40dd4c64450ba967b863d", func := "lodestone/lodestonelaw03.VecSorts", spec := "vecSorts", unfollowed := true, recurses := true, apart := false, narrowed := true }
def VecSortsUptoSaid : Prop := vecSortsUptoRow.holds Try.pinned (OpenSpec.upto vecSortsSpec)

/-- 'lodestonelaw03.VecBoth', WHERE WHAT IT READS IS OF BULK AT MOST 1048576: true; the input reads as it did. -/
def vecBothUptoRow : OpenClaim := { program := "ytegphnlfhcokfaa", sum := "c2d4d7e928de09f5aa304b5f0b6f2e04899e1e5c48f40dd4c64450ba967b863d", func := "lodestone/lodestonelaw03.VecBoth", spec := "vecBoth", unfollowed := true, recurses := true, apart := false, narrowed := true }
def VecBothUptoSaid : Prop := vecBothUptoRow.holds Try.pinned (OpenSpec.upto vecBothSpec)

/-- 'lodestonelaw03.VecThree', WHERE WHAT IT READS IS OF BULK AT MOST 1048576: true; the input reads as it did. -/
def vecThreeUptoRow : OpenClaim := { program := "ytegphnlfhcokfaa", sum := "c2d4d7e928de09f5aa304b5f0b6f2e04899e1e5c48f40dd4c64450ba967b863d", func := "lodestone/lodestonelaw03.VecThree", spec := "vecThree", unfollowed := true, recurses := true, apart := false, narrowed := true }
def VecThreeUptoSaid : Prop := vecThreeUptoRow.holds Try.pinned (OpenSpec.upto vecThreeSpec)

/-- 'lodestonelaw03.VecOrder', WHERE WHAT IT READS IS OF BULK AT MOST 1048576: true; the input reads as it did. -/
def vecOrderUptoRow : OpenClaim := { program := "ytegphnlfhcokfaa", sum := "c2d4d7e928de09f5aa304b5f0b6f2e04899e1e5c48f40dd4c64450ba967b863d", func := "lodestone/lodestonelaw03.VecOrder", spec := "vecOrder", unfollowed := true, recurses := true, apart := false, narrowed := true }
def VecOrderUptoSaid : Prop := vecOrderUptoRow.holds Try.pinned (OpenSpec.upto vecOrderSpec)

/-- 'lodestonelaw03.VecLeast', WHERE WHAT IT READS IS OF BULK AT MOST 1048576: true; the input reads as it did. -/
def vecLeastUptoRow : OpenClaim := { program := "ytegphnlfhcokfaa", sum := "c2d4d7e928de09f5aa304b5f0b6f2e04899e1e5c48f40dd4c64450ba967b863d", func := "lodestone/lodestonelaw03.VecLeast", spec := "vecLeast", unfollowed := true, recurses := true, apart := false, narrowed := true }
def VecLeastUptoSaid : Prop := vecLeastUptoRow.holds Try.pinned (OpenSpec.upto vecLeastSpec)

/-- 'lodestonelaw03.VecAlike', WHERE WHAT IT READS IS OF BULK AT MOST 1048576: true; the input reads as it did. -/
def vecAlikeUptoRow : OpenClaim := { program := "ytegphnlfhcokfaa", sum := "c2d4d7e928de09f5aa304b5f0b6f2e04899e1e5c48f40dd4c64450ba967b863d", func := "lodestone/lodestonelaw03.VecAlike", spec := "vecAlike", unfollowed := true, recurses := true, apart := false, narrowed := true }
def VecAlikeUptoSaid : Prop := vecAlikeUptoRow.holds Try.pinned (OpenSpec.upto vecAlikeSpec)

/-- 'lodestonelaw03.VecMoved', WHERE WHAT IT READS IS OF BULK AT MOST 1048576: true; the input reads as it did. -/
def vecMovedUptoRow : OpenClaim := { program := "ytegphnlfhcokfaa", sum := "c2d4d7e928de09f5aa304b5f0b6f2e04899e1e5c48f40dd4c64450ba967b863d", func := "lodestone/lodestonelaw03.VecMoved", spec := "vecMoved", unfollowed := true, recurses := true, apart := false, narrowed := true }
def VecMovedUptoSaid : Prop := vecMovedUptoRow.holds Try.pinned (OpenSpec.upto vecMovedSpec)

end Rows
end Go.Proofs.Ytegphnlfhcokfaa
