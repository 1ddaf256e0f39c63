/-
  No cell of these rows narrows 'for every input' (looked for: loops, veiled, ifaces, maps, wideKeys, modest, calm, conditions, laid).
  DERIVED. THE GIVEN ROWS OF THIS SEAT. 6 by the template 'for every input the law returns true; each argument reads behind the call as it read before'; 0 by the template 'total and deterministic' (their statements: YtcakmcegcbameaaTotals.lean).
  GIVEN WITH THE SEED: the statements are not yours to turn. If you find one false, say at which input.
  Laid BY PROGRAM, IN A SANDBOX (cutbox-rows.mjs): the forced cells as the released guide's own fill.sh prints them over the translation bbef64c8b061d7c8… (all of the seat's roots in one cut). By AI agents, Wed Nov 11 2026. No macro, syntax, notation, axiom, sorry.
-/
import Derived.Test.YtcakmcegcbameaaChecked
import GoSem.Claim
import GoSem.ClaimJoined
import GoSem.ClaimMapViews
import Derived.JoinedTies
import Derived.KernelRfl
namespace Go.Proofs.Ytcakmcegcbameaa
/- THE CELL 'sum', in the pinned program and in every row, IS THE sha256 OF THE DUMP (.gsa) THAT YtcakmcegcbameaaProg.lean LOADS. Nothing in Lean hashes anything: it is a label: what it is worth is what the hold of that sum in a sandbox is worth. -/
noncomputable def Try.pinned : Pinned := { name := "ytcakmcegcbameaa", sum := "bbef64c8b061d7c8a8f80d739e9cbc0fb097ef8e05974a44bd91a6b9c436f9db", checked := Try.checked }
namespace Rows
def none {H : Type} : Left H := { results := [], args := [] }

/-- 'lodestonelaw07.MeansNearest': WHATEVER THE INPUT: true; the input reads as it did. -/
def meansNearestSpec : ChangeSpec := { name := "meansNearest", fn := fun _ => fun
  | [d1, d2] => { results := [.lit (.bool true)], args := [d1, d2] }
  | _ => none }
def meansNearestRow : OpenClaim := { program := "ytcakmcegcbameaa", sum := "bbef64c8b061d7c8a8f80d739e9cbc0fb097ef8e05974a44bd91a6b9c436f9db", func := "lodestone/lodestonelaw07.MeansNearest", spec := "meansNearest", unfollowed := true, recurses := true, apart := false }
def MeansNearestSaid : Prop := meansNearestRow.holds Try.pinned (OpenSpec.ofChange meansNearestSpec)

/-- ITS FALSE NEIGHBOUR: 'it returns false'. Refute it at one input. -/
def meansNearestWrong : ChangeSpec := { name := "meansNearest", fn := fun _ => fun
  | [d1, d2] => { results := [.lit (.bool false)], args := [d1, d2] }
  | _ => none }
def MeansNearestWrongFalsely : Prop := meansNearestRow.holds Try.pinned (OpenSpec.ofChange meansNearestWrong)

/-- 'lodestonelaw07.MeansBetter': WHATEVER THE INPUT: true; the input reads as it did. -/
def meansBetterSpec : ChangeSpec := { name := "meansBetter", fn := fun _ => fun
  | [d1, d2] => { results := [.lit (.bool true)], args := [d1, d2] }
  | _ => none }
def meansBetterRow : OpenClaim := { program := "ytcakmcegcbameaa", sum := "bbef64c8b061d7c8a8f80d739e9cbc0fb097ef8e05974a44bd91a6b9c436f9db", func := "lodestone/lodestonelaw07.MeansBetter", spec := "meansBetter", unfollowed := true, recurses := true, apart := false }
def MeansBetterSaid : Prop := meansBetterRow.holds Try.pinned (OpenSpec.ofChange meansBetterSpec)

/-- ITS FALSE NEIGHBOUR: 'it returns false'. Refute it at one input. -/
def meansBetterWrong : ChangeSpec := { name := "meansBetter", fn := fun _ => fun
  | [d1, d2] => { results := [.lit (.bool false)], args := [d1, d2] }
  | _ => none }
def MeansBetterWrongFalsely : Prop := meansBetterRow.holds Try.pinned (OpenSpec.ofChange meansBetterWrong)

/-- 'lodestonelaw07.MeansFirst': WHATEVER THE INPUT: true; the input reads as it did. -/
def meansFirstSpec : ChangeSpec := { name := "meansFirst", fn := fun _ => fun
  | [d1, d2] => { results := [.lit (.bool true)], args := [d1, d2] }
  | _ => none }
def meansFirstRow : OpenClaim := { program := "ytcakmcegcbameaa", sum := "bbef64c8b061d7c8a8f80d739e9cbc0fb097ef8e05974a44bd91a6b9c436f9db", func := "lodestone/lodestonelaw07.MeansFirst", spec := "meansFirst", unfollowed := true, recurses := true, apart := false }
def MeansFirstSaid : Prop := meansFirstRow.holds Try.pinned (OpenSpec.ofChange meansFirstSpec)

/-- ITS FALSE NEIGHBOUR: 'it returns false'. Refute it at one input. -/
def meansFirstWrong : ChangeSpec := { name := "meansFirst", fn := fun _ => fun
  | [d1, d2] => { results := [.lit (.bool false)], args := [d1, d2] }
  | _ => none }
def MeansFirstWrongFalsely : Prop := meansFirstRow.holds Try.pinned (OpenSpec.ofChange meansFirstWrong)

/-- 'lodestonelaw07.MeansHalves': WHATEVER THE INPUT: true; the input reads as it did. -/
def meansHalvesSpec : ChangeSpec := { name := "meansHalves", fn := fun _ => fun
  | [d1, d2, d3] => { results := [.lit (.bool true)], args := [d1, d2, d3] }
  | _ => none }
def meansHalvesRow : OpenClaim := { program := "ytcakmcegcbameaa", sum := "bbef64c8b061d7c8a8f80d739e9cbc0fb097ef8e05974a44bd91a6b9c436f9db", func := "lodestone/lodestonelaw07.MeansHalves", spec := "meansHalves", unfollowed := true, recurses := true, apart := false }
def MeansHalvesSaid : Prop := meansHalvesRow.holds Try.pinned (OpenSpec.ofChange meansHalvesSpec)

/-- ITS FALSE NEIGHBOUR: 'it returns false'. Refute it at one input. -/
def meansHalvesWrong : ChangeSpec := { name := "meansHalves", fn := fun _ => fun
  | [d1, d2, d3] => { results := [.lit (.bool false)], args := [d1, d2, d3] }
  | _ => none }
def MeansHalvesWrongFalsely : Prop := meansHalvesRow.holds Try.pinned (OpenSpec.ofChange meansHalvesWrong)

/-- 'lodestonelaw07.MeansMore': WHATEVER THE INPUT: true; the input reads as it did. -/
def meansMoreSpec : ChangeSpec := { name := "meansMore", fn := fun _ => fun
  | [d1, d2] => { results := [.lit (.bool true)], args := [d1, d2] }
  | _ => none }
def meansMoreRow : OpenClaim := { program := "ytcakmcegcbameaa", sum := "bbef64c8b061d7c8a8f80d739e9cbc0fb097ef8e05974a44bd91a6b9c436f9db", func := "lodestone/lodestonelaw07.MeansMore", spec := "meansMore", unfollowed := true, recurses := true, apart := false }
def MeansMoreSaid : Prop := meansMoreRow.holds Try.pinned (OpenSpec.ofChange meansMoreSpec)

/-- ITS FALSE NEIGHBOUR: 'it returns false'. Refute it at one input. -/
def meansMoreWrong : ChangeSpec := { name := "meansMore", fn := fun _ => fun
  | [d1, d2] => { results := [.lit (.bool false)], args := [d1, d2] }
  | _ => none }
def MeansMoreWrongFalsely : Prop := meansMoreRow.holds Try.pinned (OpenSpec.ofChange meansMoreWrong)

/-- 'lodestonelaw07.MeansOrder': WHATEVER THE INPUT: true; the input reads as it did. -/
def meansOrderSpec : ChangeSpec := { name := "meansOrder", fn := fun _ => fun
  | [d1, d2, d3] => { results := [.lit (.bool true)], args := [d1, d2, d3] }
  | _ => none }
def meansOrderRow : OpenClaim := { program := "ytcakmcegcbameaa", sum := "bbef64c8b061d7c8a8f80d739e9cbc0fb097ef8e05974a44bd91a6b9c436f9db", func := "lodestone/lodestonelaw07.MeansOrder", spec := "meansOrder", unfollowed := true, recurses := true, apart := false }
def MeansOrderSaid : Prop := meansOrderRow.holds Try.pinned (OpenSpec.ofChange meansOrderSpec)

/-- ITS FALSE NEIGHBOUR: 'it returns false'. Refute it at one input. -/
def meansOrderWrong : ChangeSpec := { name := "meansOrder", fn := fun _ => fun
  | [d1, d2, d3] => { results := [.lit (.bool false)], args := [d1, d2, d3] }
  | _ => none }
def MeansOrderWrongFalsely : Prop := meansOrderRow.holds Try.pinned (OpenSpec.ofChange meansOrderWrong)

/- THE SECOND FORM. 'bulk': how many values and letters a reading holds, each counted each time it is reached (what is shared counts as often as it is met; a slice's spare places count too). A statement '..UptoSaid' is the law's where the arguments, and the package variables that the reading takes, are together of bulk at most 1048576: NARROWER than '..Said'. Prove '..Said' where nothing that the law and all that it calls make is longer than what came in: it says more and counts as full. Else prove '..UptoSaid'. A law counts once. -/
mutual
def uptoBulk {H : Type} : DataW H → Nat
  | .lit (.string bytes) => bytes.length + 1
  | .lit _ => 1
  | .nil => 1
  | .ptr d => uptoBulk d + 1
  | .slice elems spare => uptoBulkAll elems + uptoBulkAll spare + 1
  | .agg parts => uptoBulkAll parts + 1
  | .iface _ d => uptoBulk d + 1
  | .map entries => uptoBulkEntries entries + 1
  | .held _ => 1
def uptoBulkAll {H : Type} : List (DataW H) → Nat
  | [] => 0
  | d :: r => uptoBulk d + uptoBulkAll r
def uptoBulkEntries {H : Type} : List (Lit × DataW H) → Nat
  | [] => 0
  | x :: r => uptoBulkEntry x + uptoBulkEntries r
def uptoBulkEntry {H : Type} : Lit × DataW H → Nat
  | (.string bytes, d) => bytes.length + uptoBulk d + 1
  | (_, d) => uptoBulk d + 1
 end
def uptoSmall : (H : Type) → List (DataW H) → Bool := fun _ ds => decide (uptoBulkAll ds ≤ 1048576)
def OpenSpec.upto (s : _root_.Go.ChangeSpec) : _root_.Go.OpenSpec := { _root_.Go.OpenSpec.ofChange s with cond := some uptoSmall }

/-- 'lodestonelaw07.MeansNearest', WHERE WHAT IT READS IS OF BULK AT MOST 1048576: true; the input reads as it did. -/
def meansNearestUptoRow : OpenClaim := { program := "ytcakmcegcbameaa", sum := "bbef64c8b061d7c8a8f80d739e9cbc0fb097ef8e05974a44bd91a6b9c436f9db", func := "lodestone/lodestonelaw07.MeansNearest", spec := "meansNearest", unfollowed := true, recurses := true, apart := false, narrowed := true }
def MeansNearestUptoSaid : Prop := meansNearestUptoRow.holds Try.pinned (OpenSpec.upto meansNearestSpec)

/-- 'lodestonelaw07.MeansBetter', WHERE WHAT IT READS IS OF BULK AT MOST 1048576: true; the input reads as it did. -/
def meansBetterUptoRow : OpenClaim := { program := "ytcakmcegcbameaa", sum := "bbef64c8b061d7c8a8f80d739e9cbc0fb097ef8e05974a44bd91a6b9c436f9db", func := "lodestone/lodestonelaw07.MeansBetter", spec := "meansBetter", unfollowed := true, recurses := true, apart := false, narrowed := true }
def MeansBetterUptoSaid : Prop := meansBetterUptoRow.holds Try.pinned (OpenSpec.upto meansBetterSpec)

/-- 'lodestonelaw07.MeansFirst', WHERE WHAT IT READS IS OF BULK AT MOST 1048576: true; the input reads as it did. -/
def meansFirstUptoRow : OpenClaim := { program := "ytcakmcegcbameaa", sum := "bbef64c8b061d7c8a8f80d739e9cbc0fb097ef8e05974a44bd91a6b9c436f9db", func := "lodestone/lodestonelaw07.MeansFirst", spec := "meansFirst", unfollowed := true, recurses := true, apart := false, narrowed := true }
def MeansFirstUptoSaid : Prop := meansFirstUptoRow.holds Try.pinned (OpenSpec.upto meansFirstSpec)

/-- 'lodestonelaw07.MeansHalves', WHERE WHAT IT READS IS OF BULK AT MOST 1048576: true; the input reads as it did. -/
def meansHalvesUptoRow : OpenClaim := { program := "ytcakmcegcbameaa", sum := "bbef64c8b061d7c8a8f80d739e9cbc0fb097ef8e05974a44bd91a6b9c436f9db", func := "lodestone/lodestonelaw07.MeansHalves", spec := "meansHalves", unfollowed := true, recurses := true, apart := false, narrowed := true }
def MeansHalvesUptoSaid : Prop := meansHalvesUptoRow.holds Try.pinned (OpenSpec.upto meansHalvesSpec)

/-- 'lodestonelaw07.MeansMore', WHERE WHAT IT READS IS OF BULK AT MOST 1048576: true; the input reads as it did. -/
def meansMoreUptoRow : OpenClaim := { program := "ytcakmcegcbameaa", sum := "bbef64c8b061d7c8a8f80d739e9cbc0fb097ef8e05974a44bd91a6b9c436f9db", func := "lodestone/lodestonelaw07.MeansMore", spec := "meansMore", unfollowed := true, recurses := true, apart := false, narrowed := true }
def MeansMoreUptoSaid : Prop := meansMoreUptoRow.holds Try.pinned (OpenSpec.upto meansMoreSpec)

/-- 'lodestonelaw07.MeansOrder', WHERE WHAT IT READS IS OF BULK AT MOST 1048576: true; the input reads as it did. -/
def meansOrderUptoRow : OpenClaim := { program := "ytcakmcegcbameaa", sum := "bbef64c8b061d7c8a8f80d739e9cbc0fb097ef8e05974a44bd91a6b9c436f9db", func := "lodestone/lodestonelaw07.MeansOrder", spec := "meansOrder", unfollowed := true, recurses := true, apart := false, narrowed := true }
def MeansOrderUptoSaid : Prop := meansOrderUptoRow.holds Try.pinned (OpenSpec.upto meansOrderSpec)

end Rows
end Go.Proofs.Ytcakmcegcbameaa
