/- The walk of the document's Check (layer 9). -/
import Derived.Test.YtjdidlbmgnfcdabKh
import Derived.Test.YtjdidlbmgnfcdabKe
import Derived.Deep.RegionHeld3
namespace Go.Proofs.Ytjdidlbmgnfcdab
open Go.RowKit
set_option linter.unusedVariables false
/-- A node that may be, at its place. -/
def NodeOk (G : List Pn) (d deg : Int) (i : Nat) : Prop := (nAt G i).1 ≤ 4611686018427387903 ∧ ((nAt G i).2.1.length : Int) = d ∧ ((nAt G i).2.2.length : Int) ≤ deg ∧ unlikeB (nAt G i).2.2 i = true ∧ findI G (nAt G i).1 = i
instance (G : List Pn) (d deg : Int) (i : Nat) : Decidable (NodeOk G d deg i) := by unfold NodeOk; infer_instance
/-- A graph that may be, for a setup. -/
def checkB (G : List Pn) (s d deg b n m : Int) : Bool := setupB d deg b n m && (holdsB G s && decide (∀ i, i < G.length → NodeOk G d deg i))
end Go.Proofs.Ytjdidlbmgnfcdab
