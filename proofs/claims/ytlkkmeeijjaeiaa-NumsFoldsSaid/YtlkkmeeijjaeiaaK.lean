/- The walk of the statement NumsFolds. -/
import Derived.Test.YtlkkmeeijjaeiaaI
import Derived.Test.YtlkkmeeijjaeiaaF
namespace Go.Proofs.Ytlkkmeeijjaeiaa
open Go.RowKit
set_option linter.unusedVariables false
theorem fold_bd (a : Int) (h : -9223372036854775808 ≤ a ∧ a ≤ 9223372036854775807) : 0 ≤ foldS a ∧ foldS a ≤ 18446744073709551615 := by
  unfold foldS; split <;> omega
theorem unfold_bd (n : Int) (h : 0 ≤ n ∧ n ≤ 18446744073709551615) : -9223372036854775808 ≤ unfoldS n ∧ unfoldS n ≤ 9223372036854775807 := by
  unfold unfoldS; split <;> omega
theorem unfold_fold (a : Int) : unfoldS (foldS a) = a := by
  unfold unfoldS foldS
  split <;> split <;> omega
theorem fold_unfold (n : Int) (h : 0 ≤ n) : foldS (unfoldS n) = n := by
  unfold unfoldS foldS
  split <;> split <;> omega
theorem fold_pos {a : Int} (h : 0 ≤ a) : foldS a = 2 * a := by unfold foldS; rw [if_pos h]
theorem fold_neg {a : Int} (h : ¬ 0 ≤ a) : foldS a = -2 * a - 1 := by unfold foldS; rw [if_neg h]
set_option maxRecDepth 100000 in
set_option maxHeartbeats 4000000 in
theorem numsFolds_walk (a b n : Int) (ha : -9223372036854775808 ≤ a ∧ a ≤ 9223372036854775807) (hb : -9223372036854775808 ≤ b ∧ b ≤ 9223372036854775807) (hn : 0 ≤ n ∧ n ≤ 18446744073709551615) (w : World) :
    Calls Try.prog 9 #[.int .i64 a, .int .i64 b, .int .u64 n] w fun e w' => e = .returned (.bool true) ∧ Below w.heap.size w w' := by
  have FA := Lib.hid (fun W => fold_any a ha W)
  have FB := Lib.hid (fun W => fold_any b hb W)
  have UA : Hid (∀ W, Calls Try.prog 17 #[.int .u64 (foldS a)] W fun e w' => e = .returned (.int .i64 a) ∧ W = w') := fun W => by
    have := unfold_any (foldS a) (fold_bd a ha) W
    rwa [unfold_fold] at this
  have UN := Lib.hid (fun W => unfold_any n hn W)
  have FU : Hid (∀ W, Calls Try.prog 15 #[.int .i64 (unfoldS n)] W fun e w' => e = .returned (.int .u64 n) ∧ W = w') := fun W => by
    have := fold_any (unfoldS n) (unfold_bd n hn) W
    rwa [fold_unfold n hn.1] at this
  have AL := Lib.hid alive_any
  have hcase : ∀ x y : Int, (0 ≤ a → x = 2 * a) → (¬ 0 ≤ a → x = -2 * a - 1) → (0 ≤ b → y = 2 * b) → (¬ 0 ≤ b → y = -2 * b - 1) →
      ((x == y) = true ∧ (a == b) = true) ∨ ((x == y) = false ∧ (a == b) = false) := by
    intro x y h1 h2 h3 h4
    by_cases e : a = b
    · left; subst e; by_cases h0 : 0 ≤ a
      · rw [h1 h0, h3 h0]; simp
      · rw [h2 h0, h4 h0]; simp
    · right; refine ⟨?_, by simpa using e⟩
      have : x ≠ y := by
        by_cases h0 : 0 ≤ a <;> by_cases h5 : 0 ≤ b
        · rw [h1 h0, h3 h5]; omega
        · rw [h1 h0, h4 h5]; omega
        · rw [h2 h0, h3 h5]; omega
        · rw [h2 h0, h4 h5]; omega
      simpa using this
  have hpar : (0 ≤ a → (foldS a % 2 == 0) = true) ∧ (¬ 0 ≤ a → (foldS a % 2 == 0) = false) := by
    refine ⟨fun h => ?_, fun h => ?_⟩
    · rw [fold_pos h]; simp
    · rw [fold_neg h]; simp; omega
  have HC := Lib.hid (hcase (foldS a) (foldS b) (fun h => fold_pos h) (fun h => fold_neg h) (fun h => fold_pos h) (fun h => fold_neg h))
  have HP := Lib.hid hpar
  have p1 : Hid (0 ≤ a → foldS a = 2 * a) := fun h => fold_pos h
  have p2 : Hid (¬ 0 ≤ a → foldS a = -2 * a - 1) := fun h => fold_neg h
  have p3 : Hid (0 ≤ b → foldS b = 2 * b) := fun h => fold_pos h
  have p4 : Hid (¬ 0 ≤ b → foldS b = -2 * b - 1) := fun h => fold_neg h
  have hx := fold_bd a ha
  clear hcase hpar
  generalize foldS a = x at *
  generalize foldS b = y at *
  generalize unfoldS n = u at *
  obtain ⟨hx0, hx1⟩ := hx
  clear ha hb hn
  have hord : ((0 ≤ a ∧ 0 ≤ b ∧ a < b) → x < y) ∧ ((¬ 0 ≤ a ∧ ¬ 0 ≤ b ∧ b < a) → x < y) := by
    refine ⟨fun ⟨h1, h2, h3⟩ => ?_, fun ⟨h1, h2, h3⟩ => ?_⟩
    · rw [p1.out h1, p3.out h2]; omega
    · rw [p2.out h1, p4.out h2]; omega
  have HO := Lib.hid hord
  clear hord p1 p2 p3 p4
  have tail : ∀ (ha0 : 0 ≤ a ∨ ¬ 0 ≤ a), True := fun _ => trivial
  by_cases h0 : 0 ≤ a <;> by_cases h1 : 0 ≤ b <;> rcases Int.lt_trichotomy a b with h2 | h2 | h2
  all_goals first
    | (exfalso; omega)
    | skip
  all_goals
    clear tail
    first
      | have hq := HP.out.1 h0
      | have hq := HP.out.2 h0
    clear HP
    try have h3 : x < y := by first | exact HO.out.1 ⟨h0, h1, h2⟩ | exact HO.out.2 ⟨h0, h1, h2⟩
    clear HO
    rcases HC.out with ⟨q1, q2⟩ | ⟨q1, q2⟩
    all_goals first
      | (exfalso; simp at q1 q2; omega)
      | skip
    all_goals
      clear HC
      try subst h2
      go_enter Try.func9, Try.ntmps9
      go_wp2_with fail
      refine (FA.out w).mono ?_
      rintro e w' ⟨rfl, rfl⟩
      go_wp2_with fail
      refine (FB.out w).mono ?_
      rintro e w' ⟨rfl, rfl⟩
      go_wp2_with fail
      refine (AL.out w).mono ?_
      rintro e w1 ⟨rfl, hB⟩
      go_wp2_with fail
      refine (UA.out w1).mono ?_
      rintro e w' ⟨rfl, rfl⟩
      go_wp2_with fail
      refine (UN.out w1).mono ?_
      rintro e w' ⟨rfl, rfl⟩
      go_wp2_with fail
      refine (FU.out w1).mono ?_
      rintro e w' ⟨rfl, rfl⟩
      go_wp2
      go_ret
      first | exact ⟨rfl, hB⟩ | exact ⟨retb hq, hB⟩ | exact ⟨retb (by simpa using h0), hB⟩
end Go.Proofs.Ytlkkmeeijjaeiaa
