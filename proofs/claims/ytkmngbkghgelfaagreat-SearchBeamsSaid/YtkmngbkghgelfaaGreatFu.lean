/- A drawn region whose operations and callees answer alike in every world of a class. -/
import Derived.BigQuiet
import Derived.Deep.QuietTactic
namespace Go.Proofs.YtkmngbkghgelfaaGreat
set_option linter.unusedVariables false
/-- A drawn region whose operations and callees answer alike in every world of a class, and stay in it (a callee may make memory). -/
theorem wp_region_quietC {P : Program} {id : Nat} {Q : Exit → Act → World → Prop} {a : Act} {w : World} {l : List Oper} (C : World → Prop) (hm : P.follows .mixedOrders = true) (hB : Region.lexB .any l.toArray = true) (hC : C w.drew)
    (h : wpQuiet P l.toArray C (fun a' => ∀ w', C w' → Q .normal a' w') l a) : (Code.region id l.toArray true).wp P Q a w :=
  wp_region_quiet (C := C) hm hB hC (by simpa using h)
end Go.Proofs.YtkmngbkghgelfaaGreat
