/- The walk of the document's Together (layer 3). -/
import Derived.Test.YthbimjkcpmffcaaNd
import Derived.Deep.QuietTactic
import Derived.BigQuiet
namespace Go.Proofs.Ythbimjkcpmffcaa
open Go.RowKit
set_option linter.unusedVariables false
end Go.Proofs.Ythbimjkcpmffcaa
