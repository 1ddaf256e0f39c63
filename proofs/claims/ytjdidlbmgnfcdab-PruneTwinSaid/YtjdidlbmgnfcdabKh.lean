/- The walk of the document's Holds (layer 9). -/
import Derived.Test.YtjdidlbmgnfcdabKg
namespace Go.Proofs.Ytjdidlbmgnfcdab
open Go.RowKit
set_option linter.unusedVariables false
theorem holds_bad {G : List Pn} {s t : Int} {i k : Nat} (hi : i < G.length) (hk : (outAt G i)[k]? = some t) (h : ¬ (0 ≤ t ∧ t < (G.length : Int))) : holdsB G s = false := decide_eq_false (fun q => h (q.out hi (List.mem_of_getElem? hk)))
theorem holds_ok {G : List Pn} {s : Int} (h1 : G.length ≤ 2048 ∧ 0 ≤ s ∧ (s < (G.length : Int) ∨ s ≤ 0)) (h : ∀ (i : Nat), i < G.length → ∀ (k : Nat) (t : Int), (outAt G i)[k]? = some t → 0 ≤ t ∧ t < (G.length : Int)) : holdsB G s = true := decide_eq_true ⟨h1.1, h1.2.1, h1.2.2, fun x hx t ht => by
  obtain ⟨i, hi, rfl⟩ := List.getElem_of_mem hx
  obtain ⟨k, hk, rfl⟩ := List.getElem_of_mem ht
  refine h i hi k _ ?_
  have : outAt G i = G[i].2.2 := by unfold outAt; rw [nAt_get (List.getElem?_eq_getElem hi)]
  rw [this]
  exact List.getElem?_eq_getElem hk⟩
end Go.Proofs.Ytjdidlbmgnfcdab
