/-
  No cell of these rows narrows 'for every input' (looked for: loops, veiled, ifaces, maps, wideKeys, modest, calm, conditions, laid).
  DERIVED. THE GIVEN ROWS OF THIS SEAT. 8 by the template 'for every input the law returns true; each argument reads behind the call as it read before'; 0 by the template 'total and deterministic' (their statements: YthbimjkcpmffcaaTotals.lean).
  GIVEN WITH THE SEED: the statements are not yours to turn. If you find one false, say at which input.
  Laid BY PROGRAM, IN A SANDBOX (cutbox-rows.mjs): the forced cells as the released guide's own fill.sh prints them over the translation 9c51c350e21daba5… (all of the seat's roots in one cut). By AI agents, Wed Nov 11 2026. No macro, syntax, notation, axiom, sorry.
-/
import Derived.Test.YthbimjkcpmffcaaChecked
import GoSem.Claim
import GoSem.ClaimJoined
import GoSem.ClaimMapViews
import Derived.JoinedTies
import Derived.KernelRfl
namespace Go.Proofs.Ythbimjkcpmffcaa
/- THE CELL 'sum', in the pinned program and in every row, IS THE sha256 OF THE DUMP (.gsa) THAT YthbimjkcpmffcaaProg.lean LOADS. Nothing in Lean hashes anything: it is a label: what it is worth is what the hold of that sum in a sandbox is worth. -/
noncomputable def Try.pinned : Pinned := { name := "ythbimjkcpmffcaa", sum := "9c51c350e21daba5bb090f4f800f28a4f03781113cda31b72692e103943319e7", checked := Try.checked }
namespace Rows
def none {H : Type} : Left H := { results := [], args := [] }

/-- 'lodestonelaw08.PqDecodes': WHATEVER THE INPUT: true; the input reads as it did. -/
def pqDecodesSpec : ChangeSpec := { name := "pqDecodes", fn := fun _ => fun
  | [d1, d2] => { results := [.lit (.bool true)], args := [d1, d2] }
  | _ => none }
def pqDecodesRow : OpenClaim := { program := "ythbimjkcpmffcaa", sum := "9c51c350e21daba5bb090f4f800f28a4f03781113cda31b72692e103943319e7", func := "lodestone/lodestonelaw08.PqDecodes", spec := "pqDecodes", unfollowed := true, recurses := true, apart := false }
def PqDecodesSaid : Prop := pqDecodesRow.holds Try.pinned (OpenSpec.ofChange pqDecodesSpec)

/-- ITS FALSE NEIGHBOUR: 'it returns false'. Refute it at one input. -/
def pqDecodesWrong : ChangeSpec := { name := "pqDecodes", fn := fun _ => fun
  | [d1, d2] => { results := [.lit (.bool false)], args := [d1, d2] }
  | _ => none }
def PqDecodesWrongFalsely : Prop := pqDecodesRow.holds Try.pinned (OpenSpec.ofChange pqDecodesWrong)

/-- 'lodestonelaw08.PqLooks': WHATEVER THE INPUT: true; the input reads as it did. -/
def pqLooksSpec : ChangeSpec := { name := "pqLooks", fn := fun _ => fun
  | [d1, d2] => { results := [.lit (.bool true)], args := [d1, d2] }
  | _ => none }
def pqLooksRow : OpenClaim := { program := "ythbimjkcpmffcaa", sum := "9c51c350e21daba5bb090f4f800f28a4f03781113cda31b72692e103943319e7", func := "lodestone/lodestonelaw08.PqLooks", spec := "pqLooks", apart := false }
def PqLooksSaid : Prop := pqLooksRow.holds Try.pinned (OpenSpec.ofChange pqLooksSpec)

/-- ITS FALSE NEIGHBOUR: 'it returns false'. Refute it at one input. -/
def pqLooksWrong : ChangeSpec := { name := "pqLooks", fn := fun _ => fun
  | [d1, d2] => { results := [.lit (.bool false)], args := [d1, d2] }
  | _ => none }
def PqLooksWrongFalsely : Prop := pqLooksRow.holds Try.pinned (OpenSpec.ofChange pqLooksWrong)

/-- 'lodestonelaw08.PqFar': WHATEVER THE INPUT: true; the input reads as it did. -/
def pqFarSpec : ChangeSpec := { name := "pqFar", fn := fun _ => fun
  | [d1, d2, d3] => { results := [.lit (.bool true)], args := [d1, d2, d3] }
  | _ => none }
def pqFarRow : OpenClaim := { program := "ythbimjkcpmffcaa", sum := "9c51c350e21daba5bb090f4f800f28a4f03781113cda31b72692e103943319e7", func := "lodestone/lodestonelaw08.PqFar", spec := "pqFar", unfollowed := true, recurses := true, apart := false }
def PqFarSaid : Prop := pqFarRow.holds Try.pinned (OpenSpec.ofChange pqFarSpec)

/-- ITS FALSE NEIGHBOUR: 'it returns false'. Refute it at one input. -/
def pqFarWrong : ChangeSpec := { name := "pqFar", fn := fun _ => fun
  | [d1, d2, d3] => { results := [.lit (.bool false)], args := [d1, d2, d3] }
  | _ => none }
def PqFarWrongFalsely : Prop := pqFarRow.holds Try.pinned (OpenSpec.ofChange pqFarWrong)

/-- 'lodestonelaw08.PqNearest': WHATEVER THE INPUT: true; the input reads as it did. -/
def pqNearestSpec : ChangeSpec := { name := "pqNearest", fn := fun _ => fun
  | [d1, d2, d3] => { results := [.lit (.bool true)], args := [d1, d2, d3] }
  | _ => none }
def pqNearestRow : OpenClaim := { program := "ythbimjkcpmffcaa", sum := "9c51c350e21daba5bb090f4f800f28a4f03781113cda31b72692e103943319e7", func := "lodestone/lodestonelaw08.PqNearest", spec := "pqNearest", unfollowed := true, recurses := true, apart := false }
def PqNearestSaid : Prop := pqNearestRow.holds Try.pinned (OpenSpec.ofChange pqNearestSpec)

/-- ITS FALSE NEIGHBOUR: 'it returns false'. Refute it at one input. -/
def pqNearestWrong : ChangeSpec := { name := "pqNearest", fn := fun _ => fun
  | [d1, d2, d3] => { results := [.lit (.bool false)], args := [d1, d2, d3] }
  | _ => none }
def PqNearestWrongFalsely : Prop := pqNearestRow.holds Try.pinned (OpenSpec.ofChange pqNearestWrong)

/-- 'lodestonelaw08.PqBack': WHATEVER THE INPUT: true; the input reads as it did. -/
def pqBackSpec : ChangeSpec := { name := "pqBack", fn := fun _ => fun
  | [d1, d2] => { results := [.lit (.bool true)], args := [d1, d2] }
  | _ => none }
def pqBackRow : OpenClaim := { program := "ythbimjkcpmffcaa", sum := "9c51c350e21daba5bb090f4f800f28a4f03781113cda31b72692e103943319e7", func := "lodestone/lodestonelaw08.PqBack", spec := "pqBack", unfollowed := true, recurses := true, apart := false }
def PqBackSaid : Prop := pqBackRow.holds Try.pinned (OpenSpec.ofChange pqBackSpec)

/-- ITS FALSE NEIGHBOUR: 'it returns false'. Refute it at one input. -/
def pqBackWrong : ChangeSpec := { name := "pqBack", fn := fun _ => fun
  | [d1, d2] => { results := [.lit (.bool false)], args := [d1, d2] }
  | _ => none }
def PqBackWrongFalsely : Prop := pqBackRow.holds Try.pinned (OpenSpec.ofChange pqBackWrong)

/-- 'lodestonelaw08.PqMade': WHATEVER THE INPUT: true; the input reads as it did. -/
def pqMadeSpec : ChangeSpec := { name := "pqMade", fn := fun _ => fun
  | [d1, d2] => { results := [.lit (.bool true)], args := [d1, d2] }
  | _ => none }
def pqMadeRow : OpenClaim := { program := "ythbimjkcpmffcaa", sum := "9c51c350e21daba5bb090f4f800f28a4f03781113cda31b72692e103943319e7", func := "lodestone/lodestonelaw08.PqMade", spec := "pqMade", unfollowed := true, recurses := true, apart := false }
def PqMadeSaid : Prop := pqMadeRow.holds Try.pinned (OpenSpec.ofChange pqMadeSpec)

/-- ITS FALSE NEIGHBOUR: 'it returns false'. Refute it at one input. -/
def pqMadeWrong : ChangeSpec := { name := "pqMade", fn := fun _ => fun
  | [d1, d2] => { results := [.lit (.bool false)], args := [d1, d2] }
  | _ => none }
def PqMadeWrongFalsely : Prop := pqMadeRow.holds Try.pinned (OpenSpec.ofChange pqMadeWrong)

/-- 'lodestonelaw08.PqParts': WHATEVER THE INPUT: true; the input reads as it did. -/
def pqPartsSpec : ChangeSpec := { name := "pqParts", fn := fun _ => fun
  | [d1, d2] => { results := [.lit (.bool true)], args := [d1, d2] }
  | _ => none }
def pqPartsRow : OpenClaim := { program := "ythbimjkcpmffcaa", sum := "9c51c350e21daba5bb090f4f800f28a4f03781113cda31b72692e103943319e7", func := "lodestone/lodestonelaw08.PqParts", spec := "pqParts", unfollowed := true, recurses := true, apart := false }
def PqPartsSaid : Prop := pqPartsRow.holds Try.pinned (OpenSpec.ofChange pqPartsSpec)

/-- ITS FALSE NEIGHBOUR: 'it returns false'. Refute it at one input. -/
def pqPartsWrong : ChangeSpec := { name := "pqParts", fn := fun _ => fun
  | [d1, d2] => { results := [.lit (.bool false)], args := [d1, d2] }
  | _ => none }
def PqPartsWrongFalsely : Prop := pqPartsRow.holds Try.pinned (OpenSpec.ofChange pqPartsWrong)

/-- 'lodestonelaw08.PqAlone': WHATEVER THE INPUT: true; the input reads as it did. -/
def pqAloneSpec : ChangeSpec := { name := "pqAlone", fn := fun _ => fun
  | [d1, d2] => { results := [.lit (.bool true)], args := [d1, d2] }
  | _ => none }
def pqAloneRow : OpenClaim := { program := "ythbimjkcpmffcaa", sum := "9c51c350e21daba5bb090f4f800f28a4f03781113cda31b72692e103943319e7", func := "lodestone/lodestonelaw08.PqAlone", spec := "pqAlone", unfollowed := true, recurses := true, apart := false }
def PqAloneSaid : Prop := pqAloneRow.holds Try.pinned (OpenSpec.ofChange pqAloneSpec)

/-- ITS FALSE NEIGHBOUR: 'it returns false'. Refute it at one input. -/
def pqAloneWrong : ChangeSpec := { name := "pqAlone", fn := fun _ => fun
  | [d1, d2] => { results := [.lit (.bool false)], args := [d1, d2] }
  | _ => none }
def PqAloneWrongFalsely : Prop := pqAloneRow.holds Try.pinned (OpenSpec.ofChange pqAloneWrong)

/- THE SECOND FORM. 'bulk': how many values and letters a reading holds, each counted each time it is reached (what is shared counts as often as it is met; a slice's spare places count too). A statement '..UptoSaid' is the law's where the arguments, and the package variables that the reading takes, are together of bulk at most 1048576: NARROWER than '..Said'. Prove '..Said' where nothing that the law and all that it calls make is longer than what came in: it says more and counts as full. Else prove '..UptoSaid'. A law counts once. -/
mutual
def uptoBulk {H : Type} : DataW H → Nat
  | .lit (.string bytes) => bytes.length + 1
  | .lit _ => 1
  | .nil => 1
  | .ptr d => uptoBulk d + 1
  | .slice elems spare => uptoBulkAll elems + uptoBulkAll spare + 1
  | .agg parts => uptoBulkAll parts + 1
  | .iface _ d => uptoBulk d + 1
  | .map entries => uptoBulkEntries entries + 1
  | .held _ => 1
def uptoBulkAll {H : Type} : List (DataW H) → Nat
  | [] => 0
  | d :: r => uptoBulk d + uptoBulkAll r
def uptoBulkEntries {H : Type} : List (Lit × DataW H) → Nat
  | [] => 0
  | x :: r => uptoBulkEntry x + uptoBulkEntries r
def uptoBulkEntry {H : Type} : Lit × DataW H → Nat
  | (.string bytes, d) => bytes.length + uptoBulk d + 1
  | (_, d) => uptoBulk d + 1
 end
def uptoSmall : (H : Type) → List (DataW H) → Bool := fun _ ds => decide (uptoBulkAll ds ≤ 1048576)
def OpenSpec.upto (s : _root_.Go.ChangeSpec) : _root_.Go.OpenSpec := { _root_.Go.OpenSpec.ofChange s with cond := some uptoSmall }

/-- 'lodestonelaw08.PqDecodes', WHERE WHAT IT READS IS OF BULK AT MOST 1048576: true; the input reads as it did. -/
def pqDecodesUptoRow : OpenClaim := { program := "ythbimjkcpmffcaa", sum := "9c51c350e21daba5bb090f4f800f28a4f03781113cda31b72692e103943319e7", func := "lodestone/lodestonelaw08.PqDecodes", spec := "pqDecodes", unfollowed := true, recurses := true, apart := false, narrowed := true }
def PqDecodesUptoSaid : Prop := pqDecodesUptoRow.holds Try.pinned (OpenSpec.upto pqDecodesSpec)

/-- 'lodestonelaw08.PqLooks', WHERE WHAT IT READS IS OF BULK AT MOST 1048576: true; the input reads as it did. -/
def pqLooksUptoRow : OpenClaim := { program := "ythbimjkcpmffcaa", sum := "9c51c350e21daba5bb090f4f800f28a4f03781113cda31b72692e103943319e7", func := "lodestone/lodestonelaw08.PqLooks", spec := "pqLooks", apart := false, narrowed := true }
def PqLooksUptoSaid : Prop := pqLooksUptoRow.holds Try.pinned (OpenSpec.upto pqLooksSpec)

/-- 'lodestonelaw08.PqFar', WHERE WHAT IT READS IS OF BULK AT MOST 1048576: true; the input reads as it did. -/
def pqFarUptoRow : OpenClaim := { program := "ythbimjkcpmffcaa", sum := "9c51c350e21daba5bb090f4f800f28a4f03781113cda31b72692e103943319e7", func := "lodestone/lodestonelaw08.PqFar", spec := "pqFar", unfollowed := true, recurses := true, apart := false, narrowed := true }
def PqFarUptoSaid : Prop := pqFarUptoRow.holds Try.pinned (OpenSpec.upto pqFarSpec)

/-- 'lodestonelaw08.PqNearest', WHERE WHAT IT READS IS OF BULK AT MOST 1048576: true; the input reads as it did. -/
def pqNearestUptoRow : OpenClaim := { program := "ythbimjkcpmffcaa", sum := "9c51c350e21daba5bb090f4f800f28a4f03781113cda31b72692e103943319e7", func := "lodestone/lodestonelaw08.PqNearest", spec := "pqNearest", unfollowed := true, recurses := true, apart := false, narrowed := true }
def PqNearestUptoSaid : Prop := pqNearestUptoRow.holds Try.pinned (OpenSpec.upto pqNearestSpec)

/-- 'lodestonelaw08.PqBack', WHERE WHAT IT READS IS OF BULK AT MOST 1048576: true; the input reads as it did. -/
def pqBackUptoRow : OpenClaim := { program := "ythbimjkcpmffcaa", sum := "9c51c350e21daba5bb090f4f800f28a4f03781113cda31b72692e103943319e7", func := "lodestone/lodestonelaw08.PqBack", spec := "pqBack", unfollowed := true, recurses := true, apart := false, narrowed := true }
def PqBackUptoSaid : Prop := pqBackUptoRow.holds Try.pinned (OpenSpec.upto pqBackSpec)

/-- 'lodestonelaw08.PqMade', WHERE WHAT IT READS IS OF BULK AT MOST 1048576: true; the input reads as it did. -/
def pqMadeUptoRow : OpenClaim := { program := "ythbimjkcpmffcaa", sum := "9c51c350e21daba5bb090f4f800f28a4f03781113cda31b72692e103943319e7", func := "lodestone/lodestonelaw08.PqMade", spec := "pqMade", unfollowed := true, recurses := true, apart := false, narrowed := true }
def PqMadeUptoSaid : Prop := pqMadeUptoRow.holds Try.pinned (OpenSpec.upto pqMadeSpec)

/-- 'lodestonelaw08.PqParts', WHERE WHAT IT READS IS OF BULK AT MOST 1048576: true; the input reads as it did. -/
def pqPartsUptoRow : OpenClaim := { program := "ythbimjkcpmffcaa", sum := "9c51c350e21daba5bb090f4f800f28a4f03781113cda31b72692e103943319e7", func := "lodestone/lodestonelaw08.PqParts", spec := "pqParts", unfollowed := true, recurses := true, apart := false, narrowed := true }
def PqPartsUptoSaid : Prop := pqPartsUptoRow.holds Try.pinned (OpenSpec.upto pqPartsSpec)

/-- 'lodestonelaw08.PqAlone', WHERE WHAT IT READS IS OF BULK AT MOST 1048576: true; the input reads as it did. -/
def pqAloneUptoRow : OpenClaim := { program := "ythbimjkcpmffcaa", sum := "9c51c350e21daba5bb090f4f800f28a4f03781113cda31b72692e103943319e7", func := "lodestone/lodestonelaw08.PqAlone", spec := "pqAlone", unfollowed := true, recurses := true, apart := false, narrowed := true }
def PqAloneUptoSaid : Prop := pqAloneUptoRow.holds Try.pinned (OpenSpec.upto pqAloneSpec)

end Rows
end Go.Proofs.Ythbimjkcpmffcaa
