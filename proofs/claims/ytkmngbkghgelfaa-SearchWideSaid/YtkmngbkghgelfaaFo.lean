/- The walk of trueHits. -/
import Derived.Test.YtkmngbkghgelfaaFn
import Derived.Deep.QuietTactic
import Derived.BigQuiet
namespace Go.Proofs.Ytkmngbkghgelfaa
open Go.Shelf Go.RowKit Go.Lib
open Go.Sort hiding Below
set_option linter.unusedVariables false
set_option linter.unusedSimpArgs false
theorem find_place {G : List Pn} (hN : (G.map (·.1)).Nodup) {p : Nat} (hp : p < G.length) : findI G (nAt G p).1 = p :=
  findI_at hp rfl (fun j hj e => by have := ids_inj hN (show j < G.length by omega) hp e; omega)
end Go.Proofs.Ytkmngbkghgelfaa
