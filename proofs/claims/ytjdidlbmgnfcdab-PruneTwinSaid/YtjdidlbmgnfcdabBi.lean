/- The walks of the statements' own helpers on lists of int: TwinInts, LeftInts. -/
import Derived.Test.YtjdidlbmgnfcdabB8
namespace Go.Proofs.Ytjdidlbmgnfcdab
open Go.RowKit
set_option linter.unusedVariables false
theorem Try.info3 : (Try.prog.info? 3).map (fun i => (i.zero, i.size, i.bytes)) = some (some (.int .i64 0), 1, 8) := by kernel_rfl
end Go.Proofs.Ytjdidlbmgnfcdab
