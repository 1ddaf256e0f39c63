/- The end of a drawn region that only reads: one walk, in the text's order, from the middle on. -/
import Derived.BigQuiet
import Derived.Deep.QuietTactic
namespace Go.Proofs.Ytfokejlancmahaa
set_option linter.unusedVariables false
theorem wpAny_tail {P : Program} {md : Region.Mode} {ops : Array Oper} {Q : Exit → Act → World → Prop} (k : Nat) (C : World → Prop) {l : List Oper} {fuel : Nat} {listed : Array Bool} {a : Act} {w : World} (hs : Region.noSelect ops = true) (hl : ops.toList.drop k = l) (hf : l.length = fuel) (hB : Region.lexFrom md ops l.length k listed = true) (hC : C w)
    (h : wpQuiet P ops C (fun a' => ∀ w', C w' → Q .normal a' w') l a) : wpAny P md ops Q fuel listed a w := by
  subst hf
  refine wpAny_of_quiet (Q := fun a' => ∀ w', C w' → Q .normal a' w') (fun _ w' hw' h => h w' hw') _ _ _ _ hC (wpAnyQ_lex hs l k listed a (fun j => ?_) hB h)
  rw [← hl, List.getElem?_drop, Array.getElem?_toList]
end Go.Proofs.Ytfokejlancmahaa
