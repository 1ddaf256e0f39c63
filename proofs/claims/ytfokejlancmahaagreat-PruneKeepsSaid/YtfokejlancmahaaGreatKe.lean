/- The walks of SameNode, SameNodes, SameGraph; LeftNode, LeftNodes, LeftGraph. -/
import Derived.Test.YtfokejlancmahaaGreatKd
import Derived.Test.YtfokejlancmahaaGreatBs
namespace Go.Proofs.YtfokejlancmahaaGreat
open Go.RowKit
set_option linter.unusedVariables false
/-- Two nodes by value, each in a box. -/
theorem twoN (w : World) (x y : Array Value) (t : TypeId) : Whole ((w.alloc (.cells x t)).alloc (.cells y t)) w.heap.size t x ∧ Whole ((w.alloc (.cells x t)).alloc (.cells y t)) (w.heap.size + 1) t y ∧ Below w.heap.size w ((w.alloc (.cells x t)).alloc (.cells y t)) ∧ ((w.alloc (.cells x t)).alloc (.cells y t)).heap.size = w.heap.size + 2 := by
  refine ⟨(Whole.new w t _).alloc _, ?_, below_one (below_one (Below.refl _ _) _) _, by simp⟩
  have := Whole.new (w.alloc (.cells x t)) t y
  rwa [World.size_alloc] at this
set_option maxRecDepth 100000 in
set_option maxHeartbeats 4000000 in
/-- A twin of a node that is still what it was made of. -/
theorem leftNode_any (id : Int) (a1 a2 a3 a4 : Option Addr) (c1 c2 c3 c4 : Nat) (v o : List Int) (w : World) (D : Nat) (hD : D ≤ w.heap.size) (h1 : Rd .i8 w D a1 (v ++ [77])) (h2 : Rd .i64 w D a2 (o ++ [77])) (h3 : Rd .i8 w D a3 v) (h4 : Rd .i64 w D a4 o)
    (l1 : v.length ≤ 1000000) (l2 : o.length ≤ 1000000) (k1 : v.length < c1 ∧ c1 ≤ 9223372036854775807) (k2 : o.length < c2 ∧ c2 ≤ 9223372036854775807) (k3 : v.length ≤ c3 ∧ c3 ≤ 9223372036854775807) (k4 : o.length ≤ c4 ∧ c4 ≤ 9223372036854775807) :
    Calls Tryz.prog 99 #[.agg #[.int .u64 id, .slice a1 v.length c1, .slice a2 o.length c2], .agg #[.int .u64 id, .slice a3 v.length c3, .slice a4 o.length c4]] w fun e w' => e = .returned (.bool true) ∧ Below w.heap.size w w' := by
  obtain ⟨W0, W1, B0, hsz⟩ := twoN w #[.int .u64 id, .slice a1 v.length c1, .slice a2 o.length c2] #[.int .u64 id, .slice a3 v.length c3, .slice a4 o.length c4] 73
  have L8 := Lib.hid (fun W (h : Below w.heap.size w W) => leftInt8s_any a1 a3 c1 c3 v _ rfl W D (h3.below (h.mono hD)) (h1.below (h.mono hD)) k3.1 k1.1 ⟨k3.2, by omega⟩ k1.2)
  have LI := Lib.hid (fun W (h : Below w.heap.size w W) => leftInts_any a2 a4 c2 c4 o _ rfl W D (h4.below (h.mono hD)) (h2.below (h.mono hD)) k4.1 k2.1 ⟨k4.2, by omega⟩ k2.2)
  have HB := Lib.hid B0
  have p0 := W0.cell 0
  have p1 := W0.cell 1
  have p2 := W0.cell 2
  have q0 := W1.cell 0
  have q1 := W1.cell 1
  have q2 := W1.cell 2
  clear W0 W1 B0 hsz h1 h2 h3 h4 k1 k2 k3 k4
  have e1 : (id == id) = true := by simp
  go_enter Tryz.func99, Tryz.ntmps99
  go_wp2_with (first
    | (go_at_call 23; refine (L8.out _ HB.out).mono ?_; rintro e w2 ⟨rfl, nq, rfl⟩)
    | (go_at_call 13; refine (LI.out _ (below_drewN HB.out _)).mono ?_; rintro e w3 ⟨rfl, mq, rfl⟩))
  go_ret
  exact ⟨rfl, below_drewN HB.out _⟩
end Go.Proofs.YtfokejlancmahaaGreat
