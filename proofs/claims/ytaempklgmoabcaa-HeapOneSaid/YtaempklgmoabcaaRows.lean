/-
  No cell of these rows narrows 'for every input' (looked for: loops, veiled, ifaces, maps, wideKeys, modest, calm, conditions, laid).
  DERIVED. THE GIVEN ROWS OF THIS SEAT. 5 by the template 'for every input the law returns true; each argument reads behind the call as it read before'; 0 by the template 'total and deterministic' (their statements: YtaempklgmoabcaaTotals.lean).
  GIVEN WITH THE SEED: the statements are not yours to turn. If you find one false, say at which input.
  Laid BY PROGRAM, IN A SANDBOX (cutbox-rows.mjs): the forced cells as the released guide's own fill.sh prints them over the translation 6df697363c1047c0… (all of the seat's roots in one cut). By AI agents, Wed Nov 11 2026. No macro, syntax, notation, axiom, sorry.
-/
import Derived.Test.YtaempklgmoabcaaChecked
import GoSem.Claim
import GoSem.ClaimJoined
import GoSem.ClaimMapViews
import Derived.JoinedTies
import Derived.KernelRfl
namespace Go.Proofs.Ytaempklgmoabcaa
/- THE CELL 'sum', in the pinned program and in every row, IS THE sha256 OF THE DUMP (.gsa) THAT YtaempklgmoabcaaProg.lean LOADS. Nothing in Lean hashes anything: it is a label: what it is worth is what the hold of that sum in a sandbox is worth. -/
noncomputable def Try.pinned : Pinned := { name := "ytaempklgmoabcaa", sum := "6df697363c1047c0cc2c7677ec91cf777fc8523d14c15aa7529a513068b4ec23", checked := Try.checked }
namespace Rows
def none {H : Type} : Left H := { results := [], args := [] }

/-- 'lodestonelaw04.HeapNearest': WHATEVER THE INPUT: true; the input reads as it did. -/
def heapNearestSpec : ChangeSpec := { name := "heapNearest", fn := fun _ => fun
  | [d1, d2, d3] => { results := [.lit (.bool true)], args := [d1, d2, d3] }
  | _ => none }
def heapNearestRow : OpenClaim := { program := "ytaempklgmoabcaa", sum := "6df697363c1047c0cc2c7677ec91cf777fc8523d14c15aa7529a513068b4ec23", func := "lodestone/lodestonelaw04.HeapNearest", spec := "heapNearest", unfollowed := true, recurses := true, apart := false }
def HeapNearestSaid : Prop := heapNearestRow.holds Try.pinned (OpenSpec.ofChange heapNearestSpec)

/-- ITS FALSE NEIGHBOUR: 'it returns false'. Refute it at one input. -/
def heapNearestWrong : ChangeSpec := { name := "heapNearest", fn := fun _ => fun
  | [d1, d2, d3] => { results := [.lit (.bool false)], args := [d1, d2, d3] }
  | _ => none }
def HeapNearestWrongFalsely : Prop := heapNearestRow.holds Try.pinned (OpenSpec.ofChange heapNearestWrong)

/-- 'lodestonelaw04.HeapDown': WHATEVER THE INPUT: true; the input reads as it did. -/
def heapDownSpec : ChangeSpec := { name := "heapDown", fn := fun _ => fun
  | [d1, d2] => { results := [.lit (.bool true)], args := [d1, d2] }
  | _ => none }
def heapDownRow : OpenClaim := { program := "ytaempklgmoabcaa", sum := "6df697363c1047c0cc2c7677ec91cf777fc8523d14c15aa7529a513068b4ec23", func := "lodestone/lodestonelaw04.HeapDown", spec := "heapDown", unfollowed := true, recurses := true, apart := false }
def HeapDownSaid : Prop := heapDownRow.holds Try.pinned (OpenSpec.ofChange heapDownSpec)

/-- ITS FALSE NEIGHBOUR: 'it returns false'. Refute it at one input. -/
def heapDownWrong : ChangeSpec := { name := "heapDown", fn := fun _ => fun
  | [d1, d2] => { results := [.lit (.bool false)], args := [d1, d2] }
  | _ => none }
def HeapDownWrongFalsely : Prop := heapDownRow.holds Try.pinned (OpenSpec.ofChange heapDownWrong)

/-- 'lodestonelaw04.HeapHalves': WHATEVER THE INPUT: true; the input reads as it did. -/
def heapHalvesSpec : ChangeSpec := { name := "heapHalves", fn := fun _ => fun
  | [d1, d2, d3] => { results := [.lit (.bool true)], args := [d1, d2, d3] }
  | _ => none }
def heapHalvesRow : OpenClaim := { program := "ytaempklgmoabcaa", sum := "6df697363c1047c0cc2c7677ec91cf777fc8523d14c15aa7529a513068b4ec23", func := "lodestone/lodestonelaw04.HeapHalves", spec := "heapHalves", unfollowed := true, recurses := true, apart := false }
def HeapHalvesSaid : Prop := heapHalvesRow.holds Try.pinned (OpenSpec.ofChange heapHalvesSpec)

/-- ITS FALSE NEIGHBOUR: 'it returns false'. Refute it at one input. -/
def heapHalvesWrong : ChangeSpec := { name := "heapHalves", fn := fun _ => fun
  | [d1, d2, d3] => { results := [.lit (.bool false)], args := [d1, d2, d3] }
  | _ => none }
def HeapHalvesWrongFalsely : Prop := heapHalvesRow.holds Try.pinned (OpenSpec.ofChange heapHalvesWrong)

/-- 'lodestonelaw04.HeapTwice': WHATEVER THE INPUT: true; the input reads as it did. -/
def heapTwiceSpec : ChangeSpec := { name := "heapTwice", fn := fun _ => fun
  | [d1, d2, d3] => { results := [.lit (.bool true)], args := [d1, d2, d3] }
  | _ => none }
def heapTwiceRow : OpenClaim := { program := "ytaempklgmoabcaa", sum := "6df697363c1047c0cc2c7677ec91cf777fc8523d14c15aa7529a513068b4ec23", func := "lodestone/lodestonelaw04.HeapTwice", spec := "heapTwice", unfollowed := true, recurses := true, apart := false }
def HeapTwiceSaid : Prop := heapTwiceRow.holds Try.pinned (OpenSpec.ofChange heapTwiceSpec)

/-- ITS FALSE NEIGHBOUR: 'it returns false'. Refute it at one input. -/
def heapTwiceWrong : ChangeSpec := { name := "heapTwice", fn := fun _ => fun
  | [d1, d2, d3] => { results := [.lit (.bool false)], args := [d1, d2, d3] }
  | _ => none }
def HeapTwiceWrongFalsely : Prop := heapTwiceRow.holds Try.pinned (OpenSpec.ofChange heapTwiceWrong)

/-- 'lodestonelaw04.HeapOne': WHATEVER THE INPUT: true; the input reads as it did. -/
def heapOneSpec : ChangeSpec := { name := "heapOne", fn := fun _ => fun
  | [d] => { results := [.lit (.bool true)], args := [d] }
  | _ => none }
def heapOneRow : OpenClaim := { program := "ytaempklgmoabcaa", sum := "6df697363c1047c0cc2c7677ec91cf777fc8523d14c15aa7529a513068b4ec23", func := "lodestone/lodestonelaw04.HeapOne", spec := "heapOne", unfollowed := true, recurses := true, apart := false }
def HeapOneSaid : Prop := heapOneRow.holds Try.pinned (OpenSpec.ofChange heapOneSpec)

/-- ITS FALSE NEIGHBOUR: 'it returns false'. Refute it at one input. -/
def heapOneWrong : ChangeSpec := { name := "heapOne", fn := fun _ => fun
  | [d] => { results := [.lit (.bool false)], args := [d] }
  | _ => none }
def HeapOneWrongFalsely : Prop := heapOneRow.holds Try.pinned (OpenSpec.ofChange heapOneWrong)

/- THE SECOND FORM. 'bulk': how many values and letters a reading holds, each counted each time it is reached (what is shared counts as often as it is met; a slice's spare places count too). A statement '..UptoSaid' is the law's where the arguments, and the package variables that the reading takes, are together of bulk at most 1048576: NARROWER than '..Said'. Prove '..Said' where nothing that the law and all that it calls make is longer than what came in: it says more and counts as full. Else prove '..UptoSaid'. A law counts once. -/
mutual
def uptoBulk {H : Type} : DataW H → Nat
  | .lit (.string bytes) => bytes.length + 1
  | .lit _ => 1
  | .nil => 1
  | .ptr d => uptoBulk d + 1
  | .slice elems spare => uptoBulkAll elems + uptoBulkAll spare + 1
  | .agg parts => uptoBulkAll parts + 1
  | .iface _ d => uptoBulk d + 1
  | .map entries => uptoBulkEntries entries + 1
  | .held _ => 1
def uptoBulkAll {H : Type} : List (DataW H) → Nat
  | [] => 0
  | d :: r => uptoBulk d + uptoBulkAll r
def uptoBulkEntries {H : Type} : List (Lit × DataW H) → Nat
  | [] => 0
  | x :: r => uptoBulkEntry x + uptoBulkEntries r
def uptoBulkEntry {H : Type} : Lit × DataW H → Nat
  | (.string bytes, d) => bytes.length + uptoBulk d + 1
  | (_, d) => uptoBulk d + 1
 end
def uptoSmall : (H : Type) → List (DataW H) → Bool := fun _ ds => decide (uptoBulkAll ds ≤ 1048576)
def OpenSpec.upto (s : _root_.Go.ChangeSpec) : _root_.Go.OpenSpec := { _root_.Go.OpenSpec.ofChange s with cond := some uptoSmall }

/-- 'lodestonelaw04.HeapNearest', WHERE WHAT IT READS IS OF BULK AT MOST 1048576: true; the input reads as it did. -/
def heapNearestUptoRow : OpenClaim := { program := "ytaempklgmoabcaa", sum := "6df697363c1047c0cc2c7677ec91cf777fc8523d14c15aa7529a513068b4ec23", func := "lodestone/lodestonelaw04.HeapNearest", spec := "heapNearest", unfollowed := true, recurses := true, apart := false, narrowed := true }
def HeapNearestUptoSaid : Prop := heapNearestUptoRow.holds Try.pinned (OpenSpec.upto heapNearestSpec)

/-- 'lodestonelaw04.HeapDown', WHERE WHAT IT READS IS OF BULK AT MOST 1048576: true; the input reads as it did. -/
def heapDownUptoRow : OpenClaim := { program := "ytaempklgmoabcaa", sum := "6df697363c1047c0cc2c7677ec91cf777fc8523d14c15aa7529a513068b4ec23", func := "lodestone/lodestonelaw04.HeapDown", spec := "heapDown", unfollowed := true, recurses := true, apart := false, narrowed := true }
def HeapDownUptoSaid : Prop := heapDownUptoRow.holds Try.pinned (OpenSpec.upto heapDownSpec)

/-- 'lodestonelaw04.HeapHalves', WHERE WHAT IT READS IS OF BULK AT MOST 1048576: true; the input reads as it did. -/
def heapHalvesUptoRow : OpenClaim := { program := "ytaempklgmoabcaa", sum := "6df697363c1047c0cc2c7677ec91cf777fc8523d14c15aa7529a513068b4ec23", func := "lodestone/lodestonelaw04.HeapHalves", spec := "heapHalves", unfollowed := true, recurses := true, apart := false, narrowed := true }
def HeapHalvesUptoSaid : Prop := heapHalvesUptoRow.holds Try.pinned (OpenSpec.upto heapHalvesSpec)

/-- 'lodestonelaw04.HeapTwice', WHERE WHAT IT READS IS OF BULK AT MOST 1048576: true; the input reads as it did. -/
def heapTwiceUptoRow : OpenClaim := { program := "ytaempklgmoabcaa", sum := "6df697363c1047c0cc2c7677ec91cf777fc8523d14c15aa7529a513068b4ec23", func := "lodestone/lodestonelaw04.HeapTwice", spec := "heapTwice", unfollowed := true, recurses := true, apart := false, narrowed := true }
def HeapTwiceUptoSaid : Prop := heapTwiceUptoRow.holds Try.pinned (OpenSpec.upto heapTwiceSpec)

/-- 'lodestonelaw04.HeapOne', WHERE WHAT IT READS IS OF BULK AT MOST 1048576: true; the input reads as it did. -/
def heapOneUptoRow : OpenClaim := { program := "ytaempklgmoabcaa", sum := "6df697363c1047c0cc2c7677ec91cf777fc8523d14c15aa7529a513068b4ec23", func := "lodestone/lodestonelaw04.HeapOne", spec := "heapOne", unfollowed := true, recurses := true, apart := false, narrowed := true }
def HeapOneUptoSaid : Prop := heapOneUptoRow.holds Try.pinned (OpenSpec.upto heapOneSpec)

end Rows
end Go.Proofs.Ytaempklgmoabcaa
