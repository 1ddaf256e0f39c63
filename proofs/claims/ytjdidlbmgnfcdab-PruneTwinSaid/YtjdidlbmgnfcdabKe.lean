/- The walks of SameNode, SameNodes, SameGraph; LeftNode, LeftNodes, LeftGraph. -/
import Derived.Test.YtjdidlbmgnfcdabKd
import Derived.Test.YtjdidlbmgnfcdabBs
namespace Go.Proofs.Ytjdidlbmgnfcdab
open Go.RowKit
set_option linter.unusedVariables false
/-- Two nodes by value, each in a box. -/
theorem twoN (w : World) (x y : Array Value) (t : TypeId) : Whole ((w.alloc (.cells x t)).alloc (.cells y t)) w.heap.size t x ∧ Whole ((w.alloc (.cells x t)).alloc (.cells y t)) (w.heap.size + 1) t y ∧ Below w.heap.size w ((w.alloc (.cells x t)).alloc (.cells y t)) ∧ ((w.alloc (.cells x t)).alloc (.cells y t)).heap.size = w.heap.size + 2 := by
  refine ⟨(Whole.new w t _).alloc _, ?_, below_one (below_one (Below.refl _ _) _) _, by simp⟩
  have := Whole.new (w.alloc (.cells x t)) t y
  rwa [World.size_alloc] at this
end Go.Proofs.Ytjdidlbmgnfcdab
