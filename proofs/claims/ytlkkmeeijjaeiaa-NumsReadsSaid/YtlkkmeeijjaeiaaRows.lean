/-
  No cell of these rows narrows 'for every input' (looked for: loops, veiled, ifaces, maps, wideKeys, modest, calm, conditions, laid).
  DERIVED. THE GIVEN ROWS OF THIS SEAT. 9 by the template 'for every input the law returns true; each argument reads behind the call as it read before'; 0 by the template 'total and deterministic' (their statements: YtlkkmeeijjaeiaaTotals.lean).
  GIVEN WITH THE SEED: the statements are not yours to turn. If you find one false, say at which input.
  Laid BY PROGRAM, IN A SANDBOX (cutbox-rows.mjs): the forced cells as the released guide's own fill.sh prints them over the translation f73e80539b8e63ef… (all of the seat's roots in one cut). By AI agents, Wed Nov 11 2026. No macro, syntax, notation, axiom, sorry.
-/
import Derived.Test.YtlkkmeeijjaeiaaChecked
import GoSem.Claim
import GoSem.ClaimJoined
import GoSem.ClaimMapViews
import Derived.JoinedTies
import Derived.KernelRfl
namespace Go.Proofs.Ytlkkmeeijjaeiaa
/- THE CELL 'sum', in the pinned program and in every row, IS THE sha256 OF THE DUMP (.gsa) THAT YtlkkmeeijjaeiaaProg.lean LOADS. Nothing in Lean hashes anything: it is a label: what it is worth is what the hold of that sum in a sandbox is worth. -/
noncomputable def Try.pinned : Pinned := { name := "ytlkkmeeijjaeiaa", sum := "f73e80539b8e63efdc7c96d0873c15a52cb2befaf34373268953dd9a242d19d8", checked := Try.checked }
namespace Rows
def none {H : Type} : Left H := { results := [], args := [] }

/-- 'lodestonelaw01.NumsPuts': WHATEVER THE INPUT: true; the input reads as it did. -/
def numsPutsSpec : ChangeSpec := { name := "numsPuts", fn := fun _ => fun
  | [d1, d2] => { results := [.lit (.bool true)], args := [d1, d2] }
  | _ => none }
def numsPutsRow : OpenClaim := { program := "ytlkkmeeijjaeiaa", sum := "f73e80539b8e63efdc7c96d0873c15a52cb2befaf34373268953dd9a242d19d8", func := "lodestone/lodestonelaw01.NumsPuts", spec := "numsPuts", unfollowed := true, recurses := true, apart := false }
def NumsPutsSaid : Prop := numsPutsRow.holds Try.pinned (OpenSpec.ofChange numsPutsSpec)

/-- ITS FALSE NEIGHBOUR: 'it returns false'. Refute it at one input. -/
def numsPutsWrong : ChangeSpec := { name := "numsPuts", fn := fun _ => fun
  | [d1, d2] => { results := [.lit (.bool false)], args := [d1, d2] }
  | _ => none }
def NumsPutsWrongFalsely : Prop := numsPutsRow.holds Try.pinned (OpenSpec.ofChange numsPutsWrong)

/-- 'lodestonelaw01.NumsGets': WHATEVER THE INPUT: true; the input reads as it did. -/
def numsGetsSpec : ChangeSpec := { name := "numsGets", fn := fun _ => fun
  | [d] => { results := [.lit (.bool true)], args := [d] }
  | _ => none }
def numsGetsRow : OpenClaim := { program := "ytlkkmeeijjaeiaa", sum := "f73e80539b8e63efdc7c96d0873c15a52cb2befaf34373268953dd9a242d19d8", func := "lodestone/lodestonelaw01.NumsGets", spec := "numsGets", unfollowed := true, recurses := true, apart := false }
def NumsGetsSaid : Prop := numsGetsRow.holds Try.pinned (OpenSpec.ofChange numsGetsSpec)

/-- ITS FALSE NEIGHBOUR: 'it returns false'. Refute it at one input. -/
def numsGetsWrong : ChangeSpec := { name := "numsGets", fn := fun _ => fun
  | [d] => { results := [.lit (.bool false)], args := [d] }
  | _ => none }
def NumsGetsWrongFalsely : Prop := numsGetsRow.holds Try.pinned (OpenSpec.ofChange numsGetsWrong)

/-- 'lodestonelaw01.NumsItems': WHATEVER THE INPUT: true; the input reads as it did. -/
def numsItemsSpec : ChangeSpec := { name := "numsItems", fn := fun _ => fun
  | [d] => { results := [.lit (.bool true)], args := [d] }
  | _ => none }
def numsItemsRow : OpenClaim := { program := "ytlkkmeeijjaeiaa", sum := "f73e80539b8e63efdc7c96d0873c15a52cb2befaf34373268953dd9a242d19d8", func := "lodestone/lodestonelaw01.NumsItems", spec := "numsItems", unfollowed := true, recurses := true, apart := false }
def NumsItemsSaid : Prop := numsItemsRow.holds Try.pinned (OpenSpec.ofChange numsItemsSpec)

/-- ITS FALSE NEIGHBOUR: 'it returns false'. Refute it at one input. -/
def numsItemsWrong : ChangeSpec := { name := "numsItems", fn := fun _ => fun
  | [d] => { results := [.lit (.bool false)], args := [d] }
  | _ => none }
def NumsItemsWrongFalsely : Prop := numsItemsRow.holds Try.pinned (OpenSpec.ofChange numsItemsWrong)

/-- 'lodestonelaw01.NumsReads': WHATEVER THE INPUT: true; the input reads as it did. -/
def numsReadsSpec : ChangeSpec := { name := "numsReads", fn := fun _ => fun
  | [d] => { results := [.lit (.bool true)], args := [d] }
  | _ => none }
def numsReadsRow : OpenClaim := { program := "ytlkkmeeijjaeiaa", sum := "f73e80539b8e63efdc7c96d0873c15a52cb2befaf34373268953dd9a242d19d8", func := "lodestone/lodestonelaw01.NumsReads", spec := "numsReads", unfollowed := true, recurses := true, apart := false }
def NumsReadsSaid : Prop := numsReadsRow.holds Try.pinned (OpenSpec.ofChange numsReadsSpec)

/-- ITS FALSE NEIGHBOUR: 'it returns false'. Refute it at one input. -/
def numsReadsWrong : ChangeSpec := { name := "numsReads", fn := fun _ => fun
  | [d] => { results := [.lit (.bool false)], args := [d] }
  | _ => none }
def NumsReadsWrongFalsely : Prop := numsReadsRow.holds Try.pinned (OpenSpec.ofChange numsReadsWrong)

/-- 'lodestonelaw01.NumsBack': WHATEVER THE INPUT: true; the input reads as it did. -/
def numsBackSpec : ChangeSpec := { name := "numsBack", fn := fun _ => fun
  | [d1, d2, d3] => { results := [.lit (.bool true)], args := [d1, d2, d3] }
  | _ => none }
def numsBackRow : OpenClaim := { program := "ytlkkmeeijjaeiaa", sum := "f73e80539b8e63efdc7c96d0873c15a52cb2befaf34373268953dd9a242d19d8", func := "lodestone/lodestonelaw01.NumsBack", spec := "numsBack", unfollowed := true, recurses := true, apart := false }
def NumsBackSaid : Prop := numsBackRow.holds Try.pinned (OpenSpec.ofChange numsBackSpec)

/-- ITS FALSE NEIGHBOUR: 'it returns false'. Refute it at one input. -/
def numsBackWrong : ChangeSpec := { name := "numsBack", fn := fun _ => fun
  | [d1, d2, d3] => { results := [.lit (.bool false)], args := [d1, d2, d3] }
  | _ => none }
def NumsBackWrongFalsely : Prop := numsBackRow.holds Try.pinned (OpenSpec.ofChange numsBackWrong)

/-- 'lodestonelaw01.NumsAgain': WHATEVER THE INPUT: true; the input reads as it did. -/
def numsAgainSpec : ChangeSpec := { name := "numsAgain", fn := fun _ => fun
  | [d] => { results := [.lit (.bool true)], args := [d] }
  | _ => none }
def numsAgainRow : OpenClaim := { program := "ytlkkmeeijjaeiaa", sum := "f73e80539b8e63efdc7c96d0873c15a52cb2befaf34373268953dd9a242d19d8", func := "lodestone/lodestonelaw01.NumsAgain", spec := "numsAgain", unfollowed := true, recurses := true, apart := false }
def NumsAgainSaid : Prop := numsAgainRow.holds Try.pinned (OpenSpec.ofChange numsAgainSpec)

/-- ITS FALSE NEIGHBOUR: 'it returns false'. Refute it at one input. -/
def numsAgainWrong : ChangeSpec := { name := "numsAgain", fn := fun _ => fun
  | [d] => { results := [.lit (.bool false)], args := [d] }
  | _ => none }
def NumsAgainWrongFalsely : Prop := numsAgainRow.holds Try.pinned (OpenSpec.ofChange numsAgainWrong)

/-- 'lodestonelaw01.NumsFolds': WHATEVER THE INPUT: true; the input reads as it did. -/
def numsFoldsSpec : ChangeSpec := { name := "numsFolds", fn := fun _ => fun
  | [d1, d2, d3] => { results := [.lit (.bool true)], args := [d1, d2, d3] }
  | _ => none }
def numsFoldsRow : OpenClaim := { program := "ytlkkmeeijjaeiaa", sum := "f73e80539b8e63efdc7c96d0873c15a52cb2befaf34373268953dd9a242d19d8", func := "lodestone/lodestonelaw01.NumsFolds", spec := "numsFolds", unfollowed := true, recurses := true, apart := false }
def NumsFoldsSaid : Prop := numsFoldsRow.holds Try.pinned (OpenSpec.ofChange numsFoldsSpec)

/-- ITS FALSE NEIGHBOUR: 'it returns false'. Refute it at one input. -/
def numsFoldsWrong : ChangeSpec := { name := "numsFolds", fn := fun _ => fun
  | [d1, d2, d3] => { results := [.lit (.bool false)], args := [d1, d2, d3] }
  | _ => none }
def NumsFoldsWrongFalsely : Prop := numsFoldsRow.holds Try.pinned (OpenSpec.ofChange numsFoldsWrong)

/-- 'lodestonelaw01.NumsItemBack': WHATEVER THE INPUT: true; the input reads as it did. -/
def numsItemBackSpec : ChangeSpec := { name := "numsItemBack", fn := fun _ => fun
  | [d1, d2] => { results := [.lit (.bool true)], args := [d1, d2] }
  | _ => none }
def numsItemBackRow : OpenClaim := { program := "ytlkkmeeijjaeiaa", sum := "f73e80539b8e63efdc7c96d0873c15a52cb2befaf34373268953dd9a242d19d8", func := "lodestone/lodestonelaw01.NumsItemBack", spec := "numsItemBack", unfollowed := true, recurses := true, apart := false }
def NumsItemBackSaid : Prop := numsItemBackRow.holds Try.pinned (OpenSpec.ofChange numsItemBackSpec)

/-- ITS FALSE NEIGHBOUR: 'it returns false'. Refute it at one input. -/
def numsItemBackWrong : ChangeSpec := { name := "numsItemBack", fn := fun _ => fun
  | [d1, d2] => { results := [.lit (.bool false)], args := [d1, d2] }
  | _ => none }
def NumsItemBackWrongFalsely : Prop := numsItemBackRow.holds Try.pinned (OpenSpec.ofChange numsItemBackWrong)

/-- 'lodestonelaw01.NumsRow': WHATEVER THE INPUT: true; the input reads as it did. -/
def numsRowSpec : ChangeSpec := { name := "numsRow", fn := fun _ => fun
  | [d] => { results := [.lit (.bool true)], args := [d] }
  | _ => none }
def numsRowRow : OpenClaim := { program := "ytlkkmeeijjaeiaa", sum := "f73e80539b8e63efdc7c96d0873c15a52cb2befaf34373268953dd9a242d19d8", func := "lodestone/lodestonelaw01.NumsRow", spec := "numsRow", unfollowed := true, recurses := true, apart := false }
def NumsRowSaid : Prop := numsRowRow.holds Try.pinned (OpenSpec.ofChange numsRowSpec)

/-- ITS FALSE NEIGHBOUR: 'it returns false'. Refute it at one input. -/
def numsRowWrong : ChangeSpec := { name := "numsRow", fn := fun _ => fun
  | [d] => { results := [.lit (.bool false)], args := [d] }
  | _ => none }
def NumsRowWrongFalsely : Prop := numsRowRow.holds Try.pinned (OpenSpec.ofChange numsRowWrong)

/- THE SECOND FORM. 'bulk': how many values and letters a reading holds, each counted each time it is reached (what is shared counts as often as it is met; a slice's spare places count too). A statement '..UptoSaid' is the law's where the arguments, and the package variables that the reading takes, are together of bulk at most 1048576: NARROWER than '..Said'. Prove '..Said' where nothing that the law and all that it calls make is longer than what came in: it says more and counts as full. Else prove '..UptoSaid'. A law counts once. -/
mutual
def uptoBulk {H : Type} : DataW H → Nat
  | .lit (.string bytes) => bytes.length + 1
  | .lit _ => 1
  | .nil => 1
  | .ptr d => uptoBulk d + 1
  | .slice elems spare => uptoBulkAll elems + uptoBulkAll spare + 1
  | .agg parts => uptoBulkAll parts + 1
  | .iface _ d => uptoBulk d + 1
  | .map entries => uptoBulkEntries entries + 1
  | .held _ => 1
def uptoBulkAll {H : Type} : List (DataW H) → Nat
  | [] => 0
  | d :: r => uptoBulk d + uptoBulkAll r
def uptoBulkEntries {H : Type} : List (Lit × DataW H) → Nat
  | [] => 0
  | x :: r => uptoBulkEntry x + uptoBulkEntries r
def uptoBulkEntry {H : Type} : Lit × DataW H → Nat
  | (.string bytes, d) => bytes.length + uptoBulk d + 1
  | (_, d) => uptoBulk d + 1
 end
def uptoSmall : (H : Type) → List (DataW H) → Bool := fun _ ds => decide (uptoBulkAll ds ≤ 1048576)
def OpenSpec.upto (s : _root_.Go.ChangeSpec) : _root_.Go.OpenSpec := { _root_.Go.OpenSpec.ofChange s with cond := some uptoSmall }

/-- 'lodestonelaw01.NumsPuts', WHERE WHAT IT READS IS OF BULK AT MOST 1048576: true; the input reads as it did. -/
def numsPutsUptoRow : OpenClaim := { program := "ytlkkmeeijjaeiaa", sum := "f73e80539b8e63efdc7c96d0873c15a52cb2befaf34373268953dd9a242d19d8", func := "lodestone/lodestonelaw01.NumsPuts", spec := "numsPuts", unfollowed := true, recurses := true, apart := false, narrowed := true }
def NumsPutsUptoSaid : Prop := numsPutsUptoRow.holds Try.pinned (OpenSpec.upto numsPutsSpec)

/-- 'lodestonelaw01.NumsGets', WHERE WHAT IT READS IS OF BULK AT MOST 1048576: true; the input reads as it did. -/
def numsGetsUptoRow : OpenClaim := { program := "ytlkkmeeijjaeiaa", sum := "f73e80539b8e63efdc7c96d0873c15a52cb2befaf34373268953dd9a242d19d8", func := "lodestone/lodestonelaw01.NumsGets", spec := "numsGets", unfollowed := true, recurses := true, apart := false, narrowed := true }
def NumsGetsUptoSaid : Prop := numsGetsUptoRow.holds Try.pinned (OpenSpec.upto numsGetsSpec)

/-- 'lodestonelaw01.NumsItems', WHERE WHAT IT READS IS OF BULK AT MOST 1048576: true; the input reads as it did. -/
def numsItemsUptoRow : OpenClaim := { program := "ytlkkmeeijjaeiaa", sum := "f73e80539b8e63efdc7c96d0873c15a52cb2befaf34373268953dd9a242d19d8", func := "lodestone/lodestonelaw01.NumsItems", spec := "numsItems", unfollowed := true, recurses := true, apart := false, narrowed := true }
def NumsItemsUptoSaid : Prop := numsItemsUptoRow.holds Try.pinned (OpenSpec.upto numsItemsSpec)

/-- 'lodestonelaw01.NumsReads', WHERE WHAT IT READS IS OF BULK AT MOST 1048576: true; the input reads as it did. -/
def numsReadsUptoRow : OpenClaim := { program := "ytlkkmeeijjaeiaa", sum := "f73e80539b8e63efdc7c96d0873c15a52cb2befaf34373268953dd9a242d19d8", func := "lodestone/lodestonelaw01.NumsReads", spec := "numsReads", unfollowed := true, recurses := true, apart := false, narrowed := true }
def NumsReadsUptoSaid : Prop := numsReadsUptoRow.holds Try.pinned (OpenSpec.upto numsReadsSpec)

/-- 'lodestonelaw01.NumsBack', WHERE WHAT IT READS IS OF BULK AT MOST 1048576: true; the input reads as it did. -/
def numsBackUptoRow : OpenClaim := { program := "ytlkkmeeijjaeiaa", sum := "f73e80539b8e63efdc7c96d0873c15a52cb2befaf34373268953dd9a242d19d8", func := "lodestone/lodestonelaw01.NumsBack", spec := "numsBack", unfollowed := true, recurses := true, apart := false, narrowed := true }
def NumsBackUptoSaid : Prop := numsBackUptoRow.holds Try.pinned (OpenSpec.upto numsBackSpec)

/-- 'lodestonelaw01.NumsAgain', WHERE WHAT IT READS IS OF BULK AT MOST 1048576: true; the input reads as it did. -/
def numsAgainUptoRow : OpenClaim := { program := "ytlkkmeeijjaeiaa", sum := "f73e80539b8e63efdc7c96d0873c15a52cb2befaf34373268953dd9a242d19d8", func := "lodestone/lodestonelaw01.NumsAgain", spec := "numsAgain", unfollowed := true, recurses := true, apart := false, narrowed := true }
def NumsAgainUptoSaid : Prop := numsAgainUptoRow.holds Try.pinned (OpenSpec.upto numsAgainSpec)

/-- 'lodestonelaw01.NumsFolds', WHERE WHAT IT READS IS OF BULK AT MOST 1048576: true; the input reads as it did. -/
def numsFoldsUptoRow : OpenClaim := { program := "ytlkkmeeijjaeiaa", sum := "f73e80539b8e63efdc7c96d0873c15a52cb2befaf34373268953dd9a242d19d8", func := "lodestone/lodestonelaw01.NumsFolds", spec := "numsFolds", unfollowed := true, recurses := true, apart := false, narrowed := true }
def NumsFoldsUptoSaid : Prop := numsFoldsUptoRow.holds Try.pinned (OpenSpec.upto numsFoldsSpec)

/-- 'lodestonelaw01.NumsItemBack', WHERE WHAT IT READS IS OF BULK AT MOST 1048576: true; the input reads as it did. -/
def numsItemBackUptoRow : OpenClaim := { program := "ytlkkmeeijjaeiaa", sum := "f73e80539b8e63efdc7c96d0873c15a52cb2befaf34373268953dd9a242d19d8", func := "lodestone/lodestonelaw01.NumsItemBack", spec := "numsItemBack", unfollowed := true, recurses := true, apart := false, narrowed := true }
def NumsItemBackUptoSaid : Prop := numsItemBackUptoRow.holds Try.pinned (OpenSpec.upto numsItemBackSpec)

/-- 'lodestonelaw01.NumsRow', WHERE WHAT IT READS IS OF BULK AT MOST 1048576: true; the input reads as it did. -/
def numsRowUptoRow : OpenClaim := { program := "ytlkkmeeijjaeiaa", sum := "f73e80539b8e63efdc7c96d0873c15a52cb2befaf34373268953dd9a242d19d8", func := "lodestone/lodestonelaw01.NumsRow", spec := "numsRow", unfollowed := true, recurses := true, apart := false, narrowed := true }
def NumsRowUptoSaid : Prop := numsRowUptoRow.holds Try.pinned (OpenSpec.upto numsRowSpec)

end Rows
end Go.Proofs.Ytlkkmeeijjaeiaa
