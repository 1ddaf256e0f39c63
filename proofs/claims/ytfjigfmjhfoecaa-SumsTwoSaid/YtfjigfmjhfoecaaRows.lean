/-
  No cell of these rows narrows 'for every input' (looked for: loops, veiled, ifaces, maps, wideKeys, modest, calm, conditions, laid).
  DERIVED. THE GIVEN ROWS OF THIS SEAT. 7 by the template 'for every input the law returns true; each argument reads behind the call as it read before'; 0 by the template 'total and deterministic' (their statements: YtfjigfmjhfoecaaTotals.lean).
  GIVEN WITH THE SEED: the statements are not yours to turn. If you find one false, say at which input.
  Laid BY PROGRAM, IN A SANDBOX (cutbox-rows.mjs): the forced cells as the released guide's own fill.sh prints them over the translation d491f9cc2c5c4987… (all of the seat's roots in one cut). By AI agents, Wed Nov 11 2026. No macro, syntax, notation, axiom, sorry.
-/
import Derived.Test.YtfjigfmjhfoecaaChecked
import GoSem.Claim
import GoSem.ClaimJoined
import GoSem.ClaimMapViews
import Derived.JoinedTies
import Derived.KernelRfl
namespace Go.Proofs.Ytfjigfmjhfoecaa
/- THE CELL 'sum', in the pinned program and in every row, IS THE sha256 OF THE DUMP (.gsa) THAT YtfjigfmjhfoecaaProg.lean LOADS. Nothing in Lean hashes anything: it is a label: what it is worth is what the hold of that sum in a sandbox is worth. -/
noncomputable def Try.pinned : Pinned := { name := "ytfjigfmjhfoecaa", sum := "d491f9cc2c5c498743841494b5c7be18c3c539fa6540933ce9f1d97901b6bfe8", checked := Try.checked }
namespace Rows
def none {H : Type} : Left H := { results := [], args := [] }

/-- 'lodestonelaw02.SumsSums': WHATEVER THE INPUT: true; the input reads as it did. -/
def sumsSumsSpec : ChangeSpec := { name := "sumsSums", fn := fun _ => fun
  | [d] => { results := [.lit (.bool true)], args := [d] }
  | _ => none }
def sumsSumsRow : OpenClaim := { program := "ytfjigfmjhfoecaa", sum := "d491f9cc2c5c498743841494b5c7be18c3c539fa6540933ce9f1d97901b6bfe8", func := "lodestone/lodestonelaw02.SumsSums", spec := "sumsSums", unfollowed := true, recurses := true, apart := false }
def SumsSumsSaid : Prop := sumsSumsRow.holds Try.pinned (OpenSpec.ofChange sumsSumsSpec)

/-- ITS FALSE NEIGHBOUR: 'it returns false'. Refute it at one input. -/
def sumsSumsWrong : ChangeSpec := { name := "sumsSums", fn := fun _ => fun
  | [d] => { results := [.lit (.bool false)], args := [d] }
  | _ => none }
def SumsSumsWrongFalsely : Prop := sumsSumsRow.holds Try.pinned (OpenSpec.ofChange sumsSumsWrong)

/-- 'lodestonelaw02.SumsMore': WHATEVER THE INPUT: true; the input reads as it did. -/
def sumsMoreSpec : ChangeSpec := { name := "sumsMore", fn := fun _ => fun
  | [d1, d2] => { results := [.lit (.bool true)], args := [d1, d2] }
  | _ => none }
def sumsMoreRow : OpenClaim := { program := "ytfjigfmjhfoecaa", sum := "d491f9cc2c5c498743841494b5c7be18c3c539fa6540933ce9f1d97901b6bfe8", func := "lodestone/lodestonelaw02.SumsMore", spec := "sumsMore", unfollowed := true, recurses := true, apart := false }
def SumsMoreSaid : Prop := sumsMoreRow.holds Try.pinned (OpenSpec.ofChange sumsMoreSpec)

/-- ITS FALSE NEIGHBOUR: 'it returns false'. Refute it at one input. -/
def sumsMoreWrong : ChangeSpec := { name := "sumsMore", fn := fun _ => fun
  | [d1, d2] => { results := [.lit (.bool false)], args := [d1, d2] }
  | _ => none }
def SumsMoreWrongFalsely : Prop := sumsMoreRow.holds Try.pinned (OpenSpec.ofChange sumsMoreWrong)

/-- 'lodestonelaw02.SumsJoins': WHATEVER THE INPUT: true; the input reads as it did. -/
def sumsJoinsSpec : ChangeSpec := { name := "sumsJoins", fn := fun _ => fun
  | [d1, d2] => { results := [.lit (.bool true)], args := [d1, d2] }
  | _ => none }
def sumsJoinsRow : OpenClaim := { program := "ytfjigfmjhfoecaa", sum := "d491f9cc2c5c498743841494b5c7be18c3c539fa6540933ce9f1d97901b6bfe8", func := "lodestone/lodestonelaw02.SumsJoins", spec := "sumsJoins", unfollowed := true, recurses := true, apart := false }
def SumsJoinsSaid : Prop := sumsJoinsRow.holds Try.pinned (OpenSpec.ofChange sumsJoinsSpec)

/-- ITS FALSE NEIGHBOUR: 'it returns false'. Refute it at one input. -/
def sumsJoinsWrong : ChangeSpec := { name := "sumsJoins", fn := fun _ => fun
  | [d1, d2] => { results := [.lit (.bool false)], args := [d1, d2] }
  | _ => none }
def SumsJoinsWrongFalsely : Prop := sumsJoinsRow.holds Try.pinned (OpenSpec.ofChange sumsJoinsWrong)

/-- 'lodestonelaw02.SumsSpoils': WHATEVER THE INPUT: true; the input reads as it did. -/
def sumsSpoilsSpec : ChangeSpec := { name := "sumsSpoils", fn := fun _ => fun
  | [d1, d2, d3] => { results := [.lit (.bool true)], args := [d1, d2, d3] }
  | _ => none }
def sumsSpoilsRow : OpenClaim := { program := "ytfjigfmjhfoecaa", sum := "d491f9cc2c5c498743841494b5c7be18c3c539fa6540933ce9f1d97901b6bfe8", func := "lodestone/lodestonelaw02.SumsSpoils", spec := "sumsSpoils", unfollowed := true, recurses := true, apart := false }
def SumsSpoilsSaid : Prop := sumsSpoilsRow.holds Try.pinned (OpenSpec.ofChange sumsSpoilsSpec)

/-- ITS FALSE NEIGHBOUR: 'it returns false'. Refute it at one input. -/
def sumsSpoilsWrong : ChangeSpec := { name := "sumsSpoils", fn := fun _ => fun
  | [d1, d2, d3] => { results := [.lit (.bool false)], args := [d1, d2, d3] }
  | _ => none }
def SumsSpoilsWrongFalsely : Prop := sumsSpoilsRow.holds Try.pinned (OpenSpec.ofChange sumsSpoilsWrong)

/-- 'lodestonelaw02.SumsBehind': WHATEVER THE INPUT: true; the input reads as it did. -/
def sumsBehindSpec : ChangeSpec := { name := "sumsBehind", fn := fun _ => fun
  | [d1, d2, d3] => { results := [.lit (.bool true)], args := [d1, d2, d3] }
  | _ => none }
def sumsBehindRow : OpenClaim := { program := "ytfjigfmjhfoecaa", sum := "d491f9cc2c5c498743841494b5c7be18c3c539fa6540933ce9f1d97901b6bfe8", func := "lodestone/lodestonelaw02.SumsBehind", spec := "sumsBehind", unfollowed := true, recurses := true, apart := false }
def SumsBehindSaid : Prop := sumsBehindRow.holds Try.pinned (OpenSpec.ofChange sumsBehindSpec)

/-- ITS FALSE NEIGHBOUR: 'it returns false'. Refute it at one input. -/
def sumsBehindWrong : ChangeSpec := { name := "sumsBehind", fn := fun _ => fun
  | [d1, d2, d3] => { results := [.lit (.bool false)], args := [d1, d2, d3] }
  | _ => none }
def SumsBehindWrongFalsely : Prop := sumsBehindRow.holds Try.pinned (OpenSpec.ofChange sumsBehindWrong)

/-- 'lodestonelaw02.SumsTwo': WHATEVER THE INPUT: true; the input reads as it did. -/
def sumsTwoSpec : ChangeSpec := { name := "sumsTwo", fn := fun _ => fun
  | [d1, d2, d3] => { results := [.lit (.bool true)], args := [d1, d2, d3] }
  | _ => none }
def sumsTwoRow : OpenClaim := { program := "ytfjigfmjhfoecaa", sum := "d491f9cc2c5c498743841494b5c7be18c3c539fa6540933ce9f1d97901b6bfe8", func := "lodestone/lodestonelaw02.SumsTwo", spec := "sumsTwo", unfollowed := true, recurses := true, apart := false }
def SumsTwoSaid : Prop := sumsTwoRow.holds Try.pinned (OpenSpec.ofChange sumsTwoSpec)

/-- ITS FALSE NEIGHBOUR: 'it returns false'. Refute it at one input. -/
def sumsTwoWrong : ChangeSpec := { name := "sumsTwo", fn := fun _ => fun
  | [d1, d2, d3] => { results := [.lit (.bool false)], args := [d1, d2, d3] }
  | _ => none }
def SumsTwoWrongFalsely : Prop := sumsTwoRow.holds Try.pinned (OpenSpec.ofChange sumsTwoWrong)

/-- 'lodestonelaw02.SumsOwn': WHATEVER THE INPUT: true; the input reads as it did. -/
def sumsOwnSpec : ChangeSpec := { name := "sumsOwn", fn := fun _ => fun
  | [d1, d2] => { results := [.lit (.bool true)], args := [d1, d2] }
  | _ => none }
def sumsOwnRow : OpenClaim := { program := "ytfjigfmjhfoecaa", sum := "d491f9cc2c5c498743841494b5c7be18c3c539fa6540933ce9f1d97901b6bfe8", func := "lodestone/lodestonelaw02.SumsOwn", spec := "sumsOwn", unfollowed := true, recurses := true, apart := false }
def SumsOwnSaid : Prop := sumsOwnRow.holds Try.pinned (OpenSpec.ofChange sumsOwnSpec)

/-- ITS FALSE NEIGHBOUR: 'it returns false'. Refute it at one input. -/
def sumsOwnWrong : ChangeSpec := { name := "sumsOwn", fn := fun _ => fun
  | [d1, d2] => { results := [.lit (.bool false)], args := [d1, d2] }
  | _ => none }
def SumsOwnWrongFalsely : Prop := sumsOwnRow.holds Try.pinned (OpenSpec.ofChange sumsOwnWrong)

/- THE SECOND FORM. 'bulk': how many values and letters a reading holds, each counted each time it is reached (what is shared counts as often as it is met; a slice's spare places count too). A statement '..UptoSaid' is the law's where the arguments, and the package variables that the reading takes, are together of bulk at most 1048576: NARROWER than '..Said'. Prove '..Said' where nothing that the law and all that it calls make is longer than what came in: it says more and counts as full. Else prove '..UptoSaid'. A law counts once. -/
mutual
def uptoBulk {H : Type} : DataW H → Nat
  | .lit (.string bytes) => bytes.length + 1
  | .lit _ => 1
  | .nil => 1
  | .ptr d => uptoBulk d + 1
  | .slice elems spare => uptoBulkAll elems + uptoBulkAll spare + 1
  | .agg parts => uptoBulkAll parts + 1
  | .iface _ d => uptoBulk d + 1
  | .map entries => uptoBulkEntries entries + 1
  | .held _ => 1
def uptoBulkAll {H : Type} : List (DataW H) → Nat
  | [] => 0
  | d :: r => uptoBulk d + uptoBulkAll r
def uptoBulkEntries {H : Type} : List (Lit × DataW H) → Nat
  | [] => 0
  | x :: r => uptoBulkEntry x + uptoBulkEntries r
def uptoBulkEntry {H : Type} : Lit × DataW H → Nat
  | (.string bytes, d) => bytes.length + uptoBulk d + 1
  | (_, d) => uptoBulk d + 1
 end
def uptoSmall : (H : Type) → List (DataW H) → Bool := fun _ ds => decide (uptoBulkAll ds ≤ 1048576)
def OpenSpec.upto (s : _root_.Go.ChangeSpec) : _root_.Go.OpenSpec := { _root_.Go.OpenSpec.ofChange s with cond := some uptoSmall }

/-- 'lodestonelaw02.SumsSums', WHERE WHAT IT READS IS OF BULK AT MOST 1048576: true; the input reads as it did. -/
def sumsSumsUptoRow : OpenClaim := { program := "ytfjigfmjhfoecaa", sum := "d491f9cc2c5c498743841494b5c7be18c3c539fa6540933ce9f1d97901b6bfe8", func := "lodestone/lodestonelaw02.SumsSums", spec := "sumsSums", unfollowed := true, recurses := true, apart := false, narrowed := true }
def SumsSumsUptoSaid : Prop := sumsSumsUptoRow.holds Try.pinned (OpenSpec.upto sumsSumsSpec)

/-- 'lodestonelaw02.SumsMore', WHERE WHAT IT READS IS OF BULK AT MOST 1048576: true; the input reads as it did. -/
def sumsMoreUptoRow : OpenClaim := { program := "ytfjigfmjhfoecaa", sum := "d491f9cc2c5c498743841494b5c7be18c3c539fa6540933ce9f1d97901b6bfe8", func := "lodestone/lodestonelaw02.SumsMore", spec := "sumsMore", unfollowed := true, recurses := true, apart := false, narrowed := true }
def SumsMoreUptoSaid : Prop := sumsMoreUptoRow.holds Try.pinned (OpenSpec.upto sumsMoreSpec)

/-- 'lodestonelaw02.SumsJoins', WHERE WHAT IT READS IS OF BULK AT MOST 1048576: true; the input reads as it did. -/
def sumsJoinsUptoRow : OpenClaim := { program := "ytfjigfmjhfoecaa", sum := "d491f9cc2c5c498743841494b5c7be18c3c539fa6540933ce9f1d97901b6bfe8", func := "lodestone/lodestonelaw02.SumsJoins", spec := "sumsJoins", unfollowed := true, recurses := true, apart := false, narrowed := true }
def SumsJoinsUptoSaid : Prop := sumsJoinsUptoRow.holds Try.pinned (OpenSpec.upto sumsJoinsSpec)

/-- 'lodestonelaw02.SumsSpoils', WHERE WHAT IT READS IS OF BULK AT MOST 1048576: true; the input reads as it did. -/
def sumsSpoilsUptoRow : OpenClaim := { program := "ytfjigfmjhfoecaa", sum := "d491f9cc2c5c498743841494b5c7be18c3c539fa6540933ce9f1d97901b6bfe8", func := "lodestone/lodestonelaw02.SumsSpoils", spec := "sumsSpoils", unfollowed := true, recurses := true, apart := false, narrowed := true }
def SumsSpoilsUptoSaid : Prop := sumsSpoilsUptoRow.holds Try.pinned (OpenSpec.upto sumsSpoilsSpec)

/-- 'lodestonelaw02.SumsBehind', WHERE WHAT IT READS IS OF BULK AT MOST 1048576: true; the input reads as it did. -/
def sumsBehindUptoRow : OpenClaim := { program := "ytfjigfmjhfoecaa", sum := "d491f9cc2c5c498743841494b5c7be18c3c539fa6540933ce9f1d97901b6bfe8", func := "lodestone/lodestonelaw02.SumsBehind", spec := "sumsBehind", unfollowed := true, recurses := true, apart := false, narrowed := true }
def SumsBehindUptoSaid : Prop := sumsBehindUptoRow.holds Try.pinned (OpenSpec.upto sumsBehindSpec)

/-- 'lodestonelaw02.SumsTwo', WHERE WHAT IT READS IS OF BULK AT MOST 1048576: true; the input reads as it did. -/
def sumsTwoUptoRow : OpenClaim := { program := "ytfjigfmjhfoecaa", sum := "d491f9cc2c5c498743841494b5c7be18c3c539fa6540933ce9f1d97901b6bfe8", func := "lodestone/lodestonelaw02.SumsTwo", spec := "sumsTwo", unfollowed := true, recurses := true, apart := false, narrowed := true }
def SumsTwoUptoSaid : Prop := sumsTwoUptoRow.holds Try.pinned (OpenSpec.upto sumsTwoSpec)

/-- 'lodestonelaw02.SumsOwn', WHERE WHAT IT READS IS OF BULK AT MOST 1048576: true; the input reads as it did. -/
def sumsOwnUptoRow : OpenClaim := { program := "ytfjigfmjhfoecaa", sum := "d491f9cc2c5c498743841494b5c7be18c3c539fa6540933ce9f1d97901b6bfe8", func := "lodestone/lodestonelaw02.SumsOwn", spec := "sumsOwn", unfollowed := true, recurses := true, apart := false, narrowed := true }
def SumsOwnUptoSaid : Prop := sumsOwnUptoRow.holds Try.pinned (OpenSpec.upto sumsOwnSpec)

end Rows
end Go.Proofs.Ytfjigfmjhfoecaa
