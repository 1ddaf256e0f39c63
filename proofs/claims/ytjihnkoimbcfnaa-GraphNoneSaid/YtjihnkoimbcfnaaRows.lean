/-
  No cell of these rows narrows 'for every input' (looked for: loops, veiled, ifaces, maps, wideKeys, modest, calm, conditions, laid).
  DERIVED. THE GIVEN ROWS OF THIS SEAT. 8 by the template 'for every input the law returns true; each argument reads behind the call as it read before'; 0 by the template 'total and deterministic' (their statements: YtjihnkoimbcfnaaTotals.lean).
  GIVEN WITH THE SEED: the statements are not yours to turn. If you find one false, say at which input.
  Laid BY PROGRAM, IN A SANDBOX (cutbox-rows.mjs): the forced cells as the released guide's own fill.sh prints them over the translation ff663fc20766fedf… (all of the seat's roots in one cut). By AI agents, Wed Nov 11 2026. No macro, syntax, notation, axiom, sorry.
-/
import Derived.Test.YtjihnkoimbcfnaaChecked
import GoSem.Claim
import GoSem.ClaimJoined
import GoSem.ClaimMapViews
import Derived.JoinedTies
import Derived.KernelRfl
namespace Go.Proofs.Ytjihnkoimbcfnaa
/- THE CELL 'sum', in the pinned program and in every row, IS THE sha256 OF THE DUMP (.gsa) THAT YtjihnkoimbcfnaaProg.lean LOADS. Nothing in Lean hashes anything: it is a label: what it is worth is what the hold of that sum in a sandbox is worth. -/
noncomputable def Try.pinned : Pinned := { name := "ytjihnkoimbcfnaa", sum := "ff663fc20766fedf4a4559079e3f34ed3f518db7593e9054bf39020e1d9da187", checked := Try.checked }
namespace Rows
def none {H : Type} : Left H := { results := [], args := [] }

/-- 'lodestonelaw09.GraphChecks': WHATEVER THE INPUT: true; the input reads as it did. -/
def graphChecksSpec : ChangeSpec := { name := "graphChecks", fn := fun _ => fun
  | [d1, d2, d3] => { results := [.lit (.bool true)], args := [d1, d2, d3] }
  | _ => none }
def graphChecksRow : OpenClaim := { program := "ytjihnkoimbcfnaa", sum := "ff663fc20766fedf4a4559079e3f34ed3f518db7593e9054bf39020e1d9da187", func := "lodestone/lodestonelaw09.GraphChecks", spec := "graphChecks", apart := false }
def GraphChecksSaid : Prop := graphChecksRow.holds Try.pinned (OpenSpec.ofChange graphChecksSpec)

/-- ITS FALSE NEIGHBOUR: 'it returns false'. Refute it at one input. -/
def graphChecksWrong : ChangeSpec := { name := "graphChecks", fn := fun _ => fun
  | [d1, d2, d3] => { results := [.lit (.bool false)], args := [d1, d2, d3] }
  | _ => none }
def GraphChecksWrongFalsely : Prop := graphChecksRow.holds Try.pinned (OpenSpec.ofChange graphChecksWrong)

/-- 'lodestonelaw09.GraphReaches': WHATEVER THE INPUT: true; the input reads as it did. -/
def graphReachesSpec : ChangeSpec := { name := "graphReaches", fn := fun _ => fun
  | [d] => { results := [.lit (.bool true)], args := [d] }
  | _ => none }
def graphReachesRow : OpenClaim := { program := "ytjihnkoimbcfnaa", sum := "ff663fc20766fedf4a4559079e3f34ed3f518db7593e9054bf39020e1d9da187", func := "lodestone/lodestonelaw09.GraphReaches", spec := "graphReaches", apart := false }
def GraphReachesSaid : Prop := graphReachesRow.holds Try.pinned (OpenSpec.ofChange graphReachesSpec)

/-- ITS FALSE NEIGHBOUR: 'it returns false'. Refute it at one input. -/
def graphReachesWrong : ChangeSpec := { name := "graphReaches", fn := fun _ => fun
  | [d] => { results := [.lit (.bool false)], args := [d] }
  | _ => none }
def GraphReachesWrongFalsely : Prop := graphReachesRow.holds Try.pinned (OpenSpec.ofChange graphReachesWrong)

/-- 'lodestonelaw09.GraphDrops': WHATEVER THE INPUT: true; the input reads as it did. -/
def graphDropsSpec : ChangeSpec := { name := "graphDrops", fn := fun _ => fun
  | [d1, d2] => { results := [.lit (.bool true)], args := [d1, d2] }
  | _ => none }
def graphDropsRow : OpenClaim := { program := "ytjihnkoimbcfnaa", sum := "ff663fc20766fedf4a4559079e3f34ed3f518db7593e9054bf39020e1d9da187", func := "lodestone/lodestonelaw09.GraphDrops", spec := "graphDrops", apart := false }
def GraphDropsSaid : Prop := graphDropsRow.holds Try.pinned (OpenSpec.ofChange graphDropsSpec)

/-- ITS FALSE NEIGHBOUR: 'it returns false'. Refute it at one input. -/
def graphDropsWrong : ChangeSpec := { name := "graphDrops", fn := fun _ => fun
  | [d1, d2] => { results := [.lit (.bool false)], args := [d1, d2] }
  | _ => none }
def GraphDropsWrongFalsely : Prop := graphDropsRow.holds Try.pinned (OpenSpec.ofChange graphDropsWrong)

/-- 'lodestonelaw09.GraphNearer': WHATEVER THE INPUT: true; the input reads as it did. -/
def graphNearerSpec : ChangeSpec := { name := "graphNearer", fn := fun _ => fun
  | [d] => { results := [.lit (.bool true)], args := [d] }
  | _ => none }
def graphNearerRow : OpenClaim := { program := "ytjihnkoimbcfnaa", sum := "ff663fc20766fedf4a4559079e3f34ed3f518db7593e9054bf39020e1d9da187", func := "lodestone/lodestonelaw09.GraphNearer", spec := "graphNearer", apart := false }
def GraphNearerSaid : Prop := graphNearerRow.holds Try.pinned (OpenSpec.ofChange graphNearerSpec)

/-- ITS FALSE NEIGHBOUR: 'it returns false'. Refute it at one input. -/
def graphNearerWrong : ChangeSpec := { name := "graphNearer", fn := fun _ => fun
  | [d] => { results := [.lit (.bool false)], args := [d] }
  | _ => none }
def GraphNearerWrongFalsely : Prop := graphNearerRow.holds Try.pinned (OpenSpec.ofChange graphNearerWrong)

/-- 'lodestonelaw09.GraphLeft': WHATEVER THE INPUT: true; the input reads as it did. -/
def graphLeftSpec : ChangeSpec := { name := "graphLeft", fn := fun _ => fun
  | [d1, d2, d3] => { results := [.lit (.bool true)], args := [d1, d2, d3] }
  | _ => none }
def graphLeftRow : OpenClaim := { program := "ytjihnkoimbcfnaa", sum := "ff663fc20766fedf4a4559079e3f34ed3f518db7593e9054bf39020e1d9da187", func := "lodestone/lodestonelaw09.GraphLeft", spec := "graphLeft", apart := false }
def GraphLeftSaid : Prop := graphLeftRow.holds Try.pinned (OpenSpec.ofChange graphLeftSpec)

/-- ITS FALSE NEIGHBOUR: 'it returns false'. Refute it at one input. -/
def graphLeftWrong : ChangeSpec := { name := "graphLeft", fn := fun _ => fun
  | [d1, d2, d3] => { results := [.lit (.bool false)], args := [d1, d2, d3] }
  | _ => none }
def GraphLeftWrongFalsely : Prop := graphLeftRow.holds Try.pinned (OpenSpec.ofChange graphLeftWrong)

/-- 'lodestonelaw09.GraphNone': WHATEVER THE INPUT: true; the input reads as it did. -/
def graphNoneSpec : ChangeSpec := { name := "graphNone", fn := fun _ => fun
  | [d1, d2, d3] => { results := [.lit (.bool true)], args := [d1, d2, d3] }
  | _ => none }
def graphNoneRow : OpenClaim := { program := "ytjihnkoimbcfnaa", sum := "ff663fc20766fedf4a4559079e3f34ed3f518db7593e9054bf39020e1d9da187", func := "lodestone/lodestonelaw09.GraphNone", spec := "graphNone", apart := false }
def GraphNoneSaid : Prop := graphNoneRow.holds Try.pinned (OpenSpec.ofChange graphNoneSpec)

/-- ITS FALSE NEIGHBOUR: 'it returns false'. Refute it at one input. -/
def graphNoneWrong : ChangeSpec := { name := "graphNone", fn := fun _ => fun
  | [d1, d2, d3] => { results := [.lit (.bool false)], args := [d1, d2, d3] }
  | _ => none }
def GraphNoneWrongFalsely : Prop := graphNoneRow.holds Try.pinned (OpenSpec.ofChange graphNoneWrong)

/-- 'lodestonelaw09.GraphSpoilt': WHATEVER THE INPUT: true; the input reads as it did. -/
def graphSpoiltSpec : ChangeSpec := { name := "graphSpoilt", fn := fun _ => fun
  | [d1, d2, d3] => { results := [.lit (.bool true)], args := [d1, d2, d3] }
  | _ => none }
def graphSpoiltRow : OpenClaim := { program := "ytjihnkoimbcfnaa", sum := "ff663fc20766fedf4a4559079e3f34ed3f518db7593e9054bf39020e1d9da187", func := "lodestone/lodestonelaw09.GraphSpoilt", spec := "graphSpoilt", apart := false }
def GraphSpoiltSaid : Prop := graphSpoiltRow.holds Try.pinned (OpenSpec.ofChange graphSpoiltSpec)

/-- ITS FALSE NEIGHBOUR: 'it returns false'. Refute it at one input. -/
def graphSpoiltWrong : ChangeSpec := { name := "graphSpoilt", fn := fun _ => fun
  | [d1, d2, d3] => { results := [.lit (.bool false)], args := [d1, d2, d3] }
  | _ => none }
def GraphSpoiltWrongFalsely : Prop := graphSpoiltRow.holds Try.pinned (OpenSpec.ofChange graphSpoiltWrong)

/-- 'lodestonelaw09.GraphMore': WHATEVER THE INPUT: true; the input reads as it did. -/
def graphMoreSpec : ChangeSpec := { name := "graphMore", fn := fun _ => fun
  | [d1, d2, d3] => { results := [.lit (.bool true)], args := [d1, d2, d3] }
  | _ => none }
def graphMoreRow : OpenClaim := { program := "ytjihnkoimbcfnaa", sum := "ff663fc20766fedf4a4559079e3f34ed3f518db7593e9054bf39020e1d9da187", func := "lodestone/lodestonelaw09.GraphMore", spec := "graphMore", apart := false }
def GraphMoreSaid : Prop := graphMoreRow.holds Try.pinned (OpenSpec.ofChange graphMoreSpec)

/-- ITS FALSE NEIGHBOUR: 'it returns false'. Refute it at one input. -/
def graphMoreWrong : ChangeSpec := { name := "graphMore", fn := fun _ => fun
  | [d1, d2, d3] => { results := [.lit (.bool false)], args := [d1, d2, d3] }
  | _ => none }
def GraphMoreWrongFalsely : Prop := graphMoreRow.holds Try.pinned (OpenSpec.ofChange graphMoreWrong)

/- THE SECOND FORM. 'bulk': how many values and letters a reading holds, each counted each time it is reached (what is shared counts as often as it is met; a slice's spare places count too). A statement '..UptoSaid' is the law's where the arguments, and the package variables that the reading takes, are together of bulk at most 1048576: NARROWER than '..Said'. Prove '..Said' where nothing that the law and all that it calls make is longer than what came in: it says more and counts as full. Else prove '..UptoSaid'. A law counts once. -/
mutual
def uptoBulk {H : Type} : DataW H → Nat
  | .lit (.string bytes) => bytes.length + 1
  | .lit _ => 1
  | .nil => 1
  | .ptr d => uptoBulk d + 1
  | .slice elems spare => uptoBulkAll elems + uptoBulkAll spare + 1
  | .agg parts => uptoBulkAll parts + 1
  | .iface _ d => uptoBulk d + 1
  | .map entries => uptoBulkEntries entries + 1
  | .held _ => 1
def uptoBulkAll {H : Type} : List (DataW H) → Nat
  | [] => 0
  | d :: r => uptoBulk d + uptoBulkAll r
def uptoBulkEntries {H : Type} : List (Lit × DataW H) → Nat
  | [] => 0
  | x :: r => uptoBulkEntry x + uptoBulkEntries r
def uptoBulkEntry {H : Type} : Lit × DataW H → Nat
  | (.string bytes, d) => bytes.length + uptoBulk d + 1
  | (_, d) => uptoBulk d + 1
 end
def uptoSmall : (H : Type) → List (DataW H) → Bool := fun _ ds => decide (uptoBulkAll ds ≤ 1048576)
def OpenSpec.upto (s : _root_.Go.ChangeSpec) : _root_.Go.OpenSpec := { _root_.Go.OpenSpec.ofChange s with cond := some uptoSmall }

/-- 'lodestonelaw09.GraphChecks', WHERE WHAT IT READS IS OF BULK AT MOST 1048576: true; the input reads as it did. -/
def graphChecksUptoRow : OpenClaim := { program := "ytjihnkoimbcfnaa", sum := "ff663fc20766fedf4a4559079e3f34ed3f518db7593e9054bf39020e1d9da187", func := "lodestone/lodestonelaw09.GraphChecks", spec := "graphChecks", apart := false, narrowed := true }
def GraphChecksUptoSaid : Prop := graphChecksUptoRow.holds Try.pinned (OpenSpec.upto graphChecksSpec)

/-- 'lodestonelaw09.GraphReaches', WHERE WHAT IT READS IS OF BULK AT MOST 1048576: true; the input reads as it did. -/
def graphReachesUptoRow : OpenClaim := { program := "ytjihnkoimbcfnaa", sum := "ff663fc20766fedf4a4559079e3f34ed3f518db7593e9054bf39020e1d9da187", func := "lodestone/lodestonelaw09.GraphReaches", spec := "graphReaches", apart := false, narrowed := true }
def GraphReachesUptoSaid : Prop := graphReachesUptoRow.holds Try.pinned (OpenSpec.upto graphReachesSpec)

/-- 'lodestonelaw09.GraphDrops', WHERE WHAT IT READS IS OF BULK AT MOST 1048576: true; the input reads as it did. -/
def graphDropsUptoRow : OpenClaim := { program := "ytjihnkoimbcfnaa", sum := "ff663fc20766fedf4a4559079e3f34ed3f518db7593e9054bf39020e1d9da187", func := "lodestone/lodestonelaw09.GraphDrops", spec := "graphDrops", apart := false, narrowed := true }
def GraphDropsUptoSaid : Prop := graphDropsUptoRow.holds Try.pinned (OpenSpec.upto graphDropsSpec)

/-- 'lodestonelaw09.GraphNearer', WHERE WHAT IT READS IS OF BULK AT MOST 1048576: true; the input reads as it did. -/
def graphNearerUptoRow : OpenClaim := { program := "ytjihnkoimbcfnaa", sum := "ff663fc20766fedf4a4559079e3f34ed3f518db7593e9054bf39020e1d9da187", func := "lodestone/lodestonelaw09.GraphNearer", spec := "graphNearer", apart := false, narrowed := true }
def GraphNearerUptoSaid : Prop := graphNearerUptoRow.holds Try.pinned (OpenSpec.upto graphNearerSpec)

/-- 'lodestonelaw09.GraphLeft', WHERE WHAT IT READS IS OF BULK AT MOST 1048576: true; the input reads as it did. -/
def graphLeftUptoRow : OpenClaim := { program := "ytjihnkoimbcfnaa", sum := "ff663fc20766fedf4a4559079e3f34ed3f518db7593e9054bf39020e1d9da187", func := "lodestone/lodestonelaw09.GraphLeft", spec := "graphLeft", apart := false, narrowed := true }
def GraphLeftUptoSaid : Prop := graphLeftUptoRow.holds Try.pinned (OpenSpec.upto graphLeftSpec)

/-- 'lodestonelaw09.GraphNone', WHERE WHAT IT READS IS OF BULK AT MOST 1048576: true; the input reads as it did. -/
def graphNoneUptoRow : OpenClaim := { program := "ytjihnkoimbcfnaa", sum := "ff663fc20766fedf4a4559079e3f34ed3f518db7593e9054bf39020e1d9da187", func := "lodestone/lodestonelaw09.GraphNone", spec := "graphNone", apart := false, narrowed := true }
def GraphNoneUptoSaid : Prop := graphNoneUptoRow.holds Try.pinned (OpenSpec.upto graphNoneSpec)

/-- 'lodestonelaw09.GraphSpoilt', WHERE WHAT IT READS IS OF BULK AT MOST 1048576: true; the input reads as it did. -/
def graphSpoiltUptoRow : OpenClaim := { program := "ytjihnkoimbcfnaa", sum := "ff663fc20766fedf4a4559079e3f34ed3f518db7593e9054bf39020e1d9da187", func := "lodestone/lodestonelaw09.GraphSpoilt", spec := "graphSpoilt", apart := false, narrowed := true }
def GraphSpoiltUptoSaid : Prop := graphSpoiltUptoRow.holds Try.pinned (OpenSpec.upto graphSpoiltSpec)

/-- 'lodestonelaw09.GraphMore', WHERE WHAT IT READS IS OF BULK AT MOST 1048576: true; the input reads as it did. -/
def graphMoreUptoRow : OpenClaim := { program := "ytjihnkoimbcfnaa", sum := "ff663fc20766fedf4a4559079e3f34ed3f518db7593e9054bf39020e1d9da187", func := "lodestone/lodestonelaw09.GraphMore", spec := "graphMore", apart := false, narrowed := true }
def GraphMoreUptoSaid : Prop := graphMoreUptoRow.holds Try.pinned (OpenSpec.upto graphMoreSpec)

end Rows
end Go.Proofs.Ytjihnkoimbcfnaa
