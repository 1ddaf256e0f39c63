/- The walks of Less and of the comparison that Sort hands to the library. -/
import Derived.Test.YtkmngbkghgelfaaVi
import Derived.WalkKit
import Derived.Below
import Derived.Lib.Hide
namespace Go.Proofs.Ytkmngbkghgelfaa
open Go.Shelf Go.RowKit Go.Lib Go.Sort
set_option linter.unusedVariables false
theorem retbb {a b : Bool} (h : a = b) : Ending.returned (.bool a) = .returned (.bool b) := by rw [h]
set_option maxHeartbeats 1000000 in
theorem less_any (a b c d : Int) (w : World) :
    Calls Try.prog 45 #[.agg #[.int .u64 a, .int .i64 b], .agg #[.int .u64 c, .int .i64 d]] w fun e w' => e = .returned (.bool (ltH (a, b) (c, d))) ∧ w' = (w.alloc (.cells #[.int .u64 a, .int .i64 b] 46)).alloc (.cells #[.int .u64 c, .int .i64 d] 46) := by
  by_cases h1 : b = d
  · subst h1
    have n1 : (b != b) = false := by simp
    by_cases h2 : a < c
    · have E := Lib.hid (show ltH (a, b) (c, b) = true from decide_eq_true (.inr ⟨rfl, h2⟩))
      go_enter Try.func45, Try.ntmps45
      go_wp2
      go_ret
      exact ⟨retbb E.out.symm, rfl⟩
    · have E := Lib.hid (show ltH (a, b) (c, b) = false from decide_eq_false (by simp; omega))
      go_enter Try.func45, Try.ntmps45
      go_wp2
      go_ret
      exact ⟨retbb E.out.symm, rfl⟩
  · have n1 : (b != d) = true := by simpa using h1
    by_cases h2 : b < d
    · have E := Lib.hid (show ltH (a, b) (c, d) = true from decide_eq_true (.inl h2))
      go_enter Try.func45, Try.ntmps45
      go_wp2
      go_ret
      exact ⟨retbb E.out.symm, rfl⟩
    · have E := Lib.hid (show ltH (a, b) (c, d) = false from decide_eq_false (by simp; omega))
      go_enter Try.func45, Try.ntmps45
      go_wp2
      go_ret
      exact ⟨retbb E.out.symm, rfl⟩
theorem grow4 (w : World) (o1 o2 o3 o4 : Obj) : ∃ os, (((w.alloc o1).alloc o2).alloc o3).alloc o4 = grow (w.drewN 0) os :=
  ⟨_, by rw [alloc_eq_grow, alloc_eq_grow, alloc_eq_grow, alloc_eq_grow, grow_grow, grow_grow, grow_grow]; rfl⟩
theorem grow6 (w : World) (o1 o2 o3 o4 o5 o6 : Obj) : ∃ os, (((((w.alloc o1).alloc o2).alloc o3).alloc o4).alloc o5).alloc o6 = grow (w.drewN 0) os :=
  ⟨_, by rw [alloc_eq_grow, alloc_eq_grow, alloc_eq_grow, alloc_eq_grow, alloc_eq_grow, alloc_eq_grow, grow_grow, grow_grow, grow_grow, grow_grow, grow_grow]; rfl⟩
def CmpYes (r : Int) (w : World) (e : Ending) (w' : World) : Prop := e = .returned (.int .i64 r) ∧ ∃ q os', w' = grow (w.drewN q) os'
set_option maxHeartbeats 1000000 in
theorem cmp_any (a b c d : Int) (w : World) :
    Calls Try.prog 51 #[.agg #[.int .u64 a, .int .i64 b], .agg #[.int .u64 c, .int .i64 d]] w (CmpYes (cfH (a, b) (c, d)) w) := by
  have H1 := Lib.hid (less_any a b c d)
  have H2 := Lib.hid (less_any c d a b)
  cases h1 : ltH (a, b) (c, d) with
  | true =>
    have E := Lib.hid (show cfH (a, b) (c, d) = -1 by unfold cfH; rw [h1]; rfl)
    rw [h1] at H1
    clear h1
    go_enter Try.func51, Try.ntmps51
    go_wp2_with fail
    refine (H1.out _).mono ?_
    rintro e w' ⟨rfl, rfl⟩
    go_wp2
    go_ret
    exact ⟨by rw [E.out]; rfl, 0, grow4 _ _ _ _ _⟩
  | false =>
    rw [h1] at H1
    cases h2 : ltH (c, d) (a, b) with
    | true =>
      have E := Lib.hid (show cfH (a, b) (c, d) = 1 by unfold cfH; rw [h1, h2]; rfl)
      rw [h2] at H2
      clear h1 h2
      go_enter Try.func51, Try.ntmps51
      go_wp2_with fail
      refine (H1.out _).mono ?_
      rintro e w' ⟨rfl, rfl⟩
      go_wp2_with fail
      refine (H2.out _).mono ?_
      rintro e w' ⟨rfl, rfl⟩
      go_wp2
      go_ret
      exact ⟨by rw [E.out]; rfl, 0, grow6 _ _ _ _ _ _ _⟩
    | false =>
      have E := Lib.hid (show cfH (a, b) (c, d) = 0 by unfold cfH; rw [h1, h2]; rfl)
      rw [h2] at H2
      clear h1 h2
      go_enter Try.func51, Try.ntmps51
      go_wp2_with fail
      refine (H1.out _).mono ?_
      rintro e w' ⟨rfl, rfl⟩
      go_wp2_with fail
      refine (H2.out _).mono ?_
      rintro e w' ⟨rfl, rfl⟩
      go_wp2
      go_ret
      exact ⟨by rw [E.out]; rfl, 0, grow6 _ _ _ _ _ _ _⟩
theorem cmpLaysH (blk off size : Nat) (w : World) : CmpLays Try.prog 51 #[] encH 2 cfH blk off size w := fun _ _ _ _ x y => cmp_any x.1 x.2 y.1 y.2 _
theorem eg36 : ∀ args w, (callFunc 51 args).run Try.prog w = .ok (.enter 51 args) w := Try.call51
end Go.Proofs.Ytkmngbkghgelfaa
