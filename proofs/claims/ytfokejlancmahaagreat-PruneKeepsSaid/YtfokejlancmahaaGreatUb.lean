/- Pruning: the program's small functions: Less, the order of spots, needless, apart, isPlace, mayAsk. -/
import Derived.Test.YtfokejlancmahaaGreatLg
import Derived.Test.YtfokejlancmahaaGreatVd
import Derived.Test.YtfokejlancmahaaGreatUa
import Derived.Sort.Grow
import Derived.IntWalk
import Derived.Deep.RegionHeld3
import Derived.Deep.OwnRows
namespace Go.Proofs.YtfokejlancmahaaGreat
open Go.RowKit Go.Lib
open Go.Sort hiding Below
set_option linter.unusedVariables false
set_option linter.unusedSimpArgs false
/-- How far two nodes are apart. -/
def fI (G : List Pn) (i j : Nat) : Int := far (nAt G i).2.1 (nAt G j).2.1
/-- A graph's vectors may be told apart. -/
structure PG (G : List Pn) (d : Nat) : Prop where
  dim : 1 ≤ d ∧ d ≤ 64
  len : G.length ≤ 2048
  each : ∀ i, i < G.length → (nAt G i).2.1.length = d
  num : ∀ i, i < G.length → ∀ n ∈ (nAt G i).2.1, -128 ≤ n ∧ n ≤ 127
  id : ∀ i, i < G.length → 0 ≤ (nAt G i).1 ∧ (nAt G i).1 ≤ 4611686018427387903
  inj : ∀ i j, i < G.length → j < G.length → (nAt G i).1 = (nAt G j).1 → i = j
def ltQ (x y : Int × Int) : Bool := decide (x.2 < y.2 ∨ (x.2 = y.2 ∧ x.1 < y.1))
def cfQ (x y : Int × Int) : Int := if ltQ x y then -1 else if ltQ y x then 1 else 0
theorem retq {a b : Bool} (h : a = b) : Ending.returned (.bool a) = .returned (.bool b) := by rw [h]
set_option maxHeartbeats 1000000 in
theorem lessQ_any (a b c d : Int) (w : World) :
    Calls Tryz.prog 144 #[.agg #[.int .u64 a, .int .i64 b], .agg #[.int .u64 c, .int .i64 d]] w fun e w' => e = .returned (.bool (ltQ (a, b) (c, d))) ∧ w' = (w.alloc (.cells #[.int .u64 a, .int .i64 b] 79)).alloc (.cells #[.int .u64 c, .int .i64 d] 79) := by
  by_cases h1 : b = d
  · subst h1
    have n1 : (b != b) = false := by simp
    by_cases h2 : a < c
    · have E := Lib.hid (show ltQ (a, b) (c, b) = true from decide_eq_true (.inr ⟨rfl, h2⟩))
      go_enter Tryz.func144, Tryz.ntmps144
      go_wp2
      go_ret
      exact ⟨retq E.out.symm, rfl⟩
    · have E := Lib.hid (show ltQ (a, b) (c, b) = false from decide_eq_false (by simp; omega))
      go_enter Tryz.func144, Tryz.ntmps144
      go_wp2
      go_ret
      exact ⟨retq E.out.symm, rfl⟩
  · have n1 : (b != d) = true := by simpa using h1
    by_cases h2 : b < d
    · have E := Lib.hid (show ltQ (a, b) (c, d) = true from decide_eq_true (.inl h2))
      go_enter Tryz.func144, Tryz.ntmps144
      go_wp2
      go_ret
      exact ⟨retq E.out.symm, rfl⟩
    · have E := Lib.hid (show ltQ (a, b) (c, d) = false from decide_eq_false (by simp; omega))
      go_enter Tryz.func144, Tryz.ntmps144
      go_wp2
      go_ret
      exact ⟨retq E.out.symm, rfl⟩
theorem growQ4 (w : World) (o1 o2 o3 o4 : Obj) : ∃ os, (((w.alloc o1).alloc o2).alloc o3).alloc o4 = grow (w.drewN 0) os :=
  ⟨_, by rw [alloc_eq_grow, alloc_eq_grow, alloc_eq_grow, alloc_eq_grow, grow_grow, grow_grow, grow_grow]; rfl⟩
theorem growQ6 (w : World) (o1 o2 o3 o4 o5 o6 : Obj) : ∃ os, (((((w.alloc o1).alloc o2).alloc o3).alloc o4).alloc o5).alloc o6 = grow (w.drewN 0) os :=
  ⟨_, by rw [alloc_eq_grow, alloc_eq_grow, alloc_eq_grow, alloc_eq_grow, alloc_eq_grow, alloc_eq_grow, grow_grow, grow_grow, grow_grow, grow_grow, grow_grow]; rfl⟩
def CmpQ (r : Int) (w : World) (e : Ending) (w' : World) : Prop := e = .returned (.int .i64 r) ∧ ∃ q os', w' = grow (w.drewN q) os'
set_option maxHeartbeats 2000000 in
theorem order_any (p q a b c d : Int) (w : World) :
    Calls Tryz.prog 91 #[.agg #[.int .i64 p, .int .u64 a, .int .i64 b], .agg #[.int .i64 q, .int .u64 c, .int .i64 d]] w (CmpQ (cfQ (a, b) (c, d)) w) := by
  have H1 := Lib.hid (lessQ_any a b c d)
  have H2 := Lib.hid (lessQ_any c d a b)
  cases h1 : ltQ (a, b) (c, d) with
  | true =>
    have E := Lib.hid (show cfQ (a, b) (c, d) = -1 by unfold cfQ; rw [h1]; rfl)
    rw [h1] at H1
    clear h1
    go_enter Tryz.func91, Tryz.ntmps91
    go_wp2_with fail
    refine (H1.out _).mono ?_
    rintro e w' ⟨rfl, rfl⟩
    go_wp2
    go_ret
    exact ⟨by rw [E.out]; rfl, 0, growQ4 _ _ _ _ _⟩
  | false =>
    rw [h1] at H1
    cases h2 : ltQ (c, d) (a, b) with
    | true =>
      have E := Lib.hid (show cfQ (a, b) (c, d) = 1 by unfold cfQ; rw [h1, h2]; rfl)
      rw [h2] at H2
      clear h1 h2
      go_enter Tryz.func91, Tryz.ntmps91
      go_wp2_with fail
      refine (H1.out _).mono ?_
      rintro e w' ⟨rfl, rfl⟩
      go_wp2_with fail
      refine (H2.out _).mono ?_
      rintro e w' ⟨rfl, rfl⟩
      go_wp2
      go_ret
      exact ⟨by rw [E.out]; rfl, 0, growQ6 _ _ _ _ _ _ _⟩
    | false =>
      have E := Lib.hid (show cfQ (a, b) (c, d) = 0 by unfold cfQ; rw [h1, h2]; rfl)
      rw [h2] at H2
      clear h1 h2
      go_enter Tryz.func91, Tryz.ntmps91
      go_wp2_with fail
      refine (H1.out _).mono ?_
      rintro e w' ⟨rfl, rfl⟩
      go_wp2_with fail
      refine (H2.out _).mono ?_
      rintro e w' ⟨rfl, rfl⟩
      go_wp2
      go_ret
      exact ⟨by rw [E.out]; rfl, 0, growQ6 _ _ _ _ _ _ _⟩
theorem isPlaceQ_any (p n : Int) (w : World) : Calls Tryz.prog 88 #[.int .i64 p, .int .i64 n] w fun e w' => e = .returned (.bool (decide (0 ≤ p ∧ p < n))) ∧ w' = w := by
  by_cases h1 : 0 ≤ p
  · have e1 : decide ((0 : Int) ≤ p) = true := decide_eq_true h1
    by_cases h2 : p < n
    · have E := Lib.hid (show decide (0 ≤ p ∧ p < n) = true from decide_eq_true ⟨h1, h2⟩)
      have e2 : decide (p < n) = true := decide_eq_true h2
      go_enter Tryz.func88, Tryz.ntmps88
      go_wp2
      go_ret
      first | exact ⟨retq E.out.symm, rfl⟩ | exact ⟨rfl, rfl⟩
    · have E := Lib.hid (show decide (0 ≤ p ∧ p < n) = false from decide_eq_false (by omega))
      have e2 : decide (p < n) = false := decide_eq_false h2
      go_enter Tryz.func88, Tryz.ntmps88
      go_wp2
      go_ret
      first | exact ⟨retq E.out.symm, rfl⟩ | exact ⟨rfl, rfl⟩
  · have E := Lib.hid (show decide (0 ≤ p ∧ p < n) = false from decide_eq_false (by omega))
    have e1 : decide ((0 : Int) ≤ p) = false := decide_eq_false h1
    go_enter Tryz.func88, Tryz.ntmps88
    go_wp2
    go_ret
    first | exact ⟨retq E.out.symm, rfl⟩ | exact ⟨rfl, rfl⟩
/-- Does one place make another one needless, by how far they are? -/
def ndB (num den a b : Int) : Bool := decide (num * a ≤ den * b)
theorem mul_bd {x a : Int} (h1 : 1 ≤ x) (h2 : x ≤ 1000) (h3 : 0 ≤ a) (h4 : a ≤ 4161600) : 0 ≤ x * a ∧ x * a ≤ 4161600000 := by
  refine ⟨Int.mul_nonneg (by omega) h3, ?_⟩
  have := Int.mul_le_mul h2 h4 h3 (by omega)
  omega
theorem needless_any (d g b n m x y : Int) (w : World) (hn : 1 ≤ n ∧ n ≤ 1000) (hm : 1 ≤ m ∧ m ≤ 1000) (hx : 0 ≤ x ∧ x ≤ 4161600) (hy : 0 ≤ y ∧ y ≤ 4161600) :
    Calls Tryz.prog 94 #[.agg #[.int .i64 d, .int .i64 g, .int .i64 b, .int .i64 n, .int .i64 m], .int .i64 x, .int .i64 y] w fun e w' => e = .returned (.bool (ndB n m x y)) ∧ Below w.heap.size w w' := by
  have b1 := mul_bd hn.1 hn.2 hx.1 hx.2
  have b2 := mul_bd hm.1 hm.2 hy.1 hy.2
  have W0 := Whole.new w 26 #[.int .i64 d, .int .i64 g, .int .i64 b, .int .i64 n, .int .i64 m]
  have HB := Lib.hid (below_one (Below.refl w.heap.size w) (.cells #[.int .i64 d, .int .i64 g, .int .i64 b, .int .i64 n, .int .i64 m] 26))
  have p3 := W0.cell 3
  have p4 := W0.cell 4
  have E := Lib.hid (show ndB n m x y = decide (n * x ≤ m * y) from rfl)
  obtain ⟨z1, ez1⟩ : ∃ z, n * x = z := ⟨_, rfl⟩
  obtain ⟨z2, ez2⟩ : ∃ z, m * y = z := ⟨_, rfl⟩
  have m1 : IntKind.i64.wrap (n * x) = z1 := by rw [ez1]; exact IntWalk.i64_in _ (by omega)
  have m2 : IntKind.i64.wrap (m * y) = z2 := by rw [ez2]; exact IntWalk.i64_in _ (by omega)
  rw [ez1, ez2] at E
  clear W0 ez1 ez2 b1 b2 hx hy hn hm
  go_enter Tryz.func94, Tryz.ntmps94
  go_wp2
  go_ret
  exact ⟨retq E.out.symm, HB.out⟩
end Go.Proofs.YtfokejlancmahaaGreat
