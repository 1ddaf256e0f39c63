/- The walk of alive, and of SameInts. -/
import Derived.Test.YtmlfcnjfaonaiaaDg
namespace Go.Proofs.Ytmlfcnjfaonaiaa
open Go.RowKit Go.Shelf
set_option linter.unusedVariables false
theorem num0 : numOf (behindOf 0) = 16294208416658607535 := by decide +kernel
theorem num1 : numOf (behindOf (behindOf 0)) = 7960286522194355700 := by decide +kernel
theorem num2 : numOf (behindOf 1234567) = 6457827717110365317 := by decide +kernel
set_option maxRecDepth 100000 in
theorem alive_any (w : World) : Calls Try.prog 14 #[] w fun e w' => e = .returned (.bool true) ∧ Below w.heap.size w w' := by
  have H0 := next_any 0 w
  have H1 := next_any (behindOf 0) w
  have H2 := next_any 1234567 w
  have HB := Below_any 0 0 w
  have HS := callsIn_wide.1 (shuffle_yes 5 1 (by omega) w)
  rw [num0] at H0
  rw [num1] at H1
  rw [num2] at H2
  rw [show shufS 5 1 = 5 by rfl] at HS
  revert H0 H1 H2
  generalize behindOf (behindOf 0) = b2
  generalize behindOf 0 = b1
  generalize behindOf 1234567 = b3
  intro H0 H1 H2
  have HB2 : Hid (Calls Try.prog 12 #[.int .u64 0, .int .i64 0] w fun e w' => e = .returned (.tuple #[.int .i64 0, .int .u64 0, .int .i64 1]) ∧ w' = w) := HB.mono (fun e w' ⟨h1, h2⟩ => ⟨by simpa [BelowYes] using h1, h2⟩)
  have H0 : Hid (Calls Try.prog 10 #[.int .u64 0] w fun e w' => e = .returned (.tuple #[.int .u64 16294208416658607535, .int .u64 (b1 : Nat)]) ∧ w' = w) := H0
  have H2 : Hid (Calls Try.prog 10 #[.int .u64 1234567] w fun e w' => e = .returned (.tuple #[.int .u64 6457827717110365317, .int .u64 (b3 : Nat)]) ∧ w' = w) := H2
  have H1 : Hid (Calls Try.prog 10 #[.int .u64 (b1 : Nat)] w fun e w' => e = .returned (.tuple #[.int .u64 7960286522194355700, .int .u64 (b2 : Nat)]) ∧ w' = w) := H1
  have HS : Hid (Calls Try.prog 15 #[.int .u64 5, .int .i64 1] w fun e w' => ∃ g, e = .returned (.tuple #[.slice (some ⟨g, 0, none⟩) 1 1, .int .u64 5, .int .i64 0]) ∧ w.heap.size ≤ g ∧ Whole w' g 3 (rowI (shufL 5 1)) ∧ Below w.heap.size w w') := HS
  go_enter Try.func14, Try.ntmps14
  go_wp2_with (first
    | (go_at_call 10; (with_reducible refine H0.out.mono ?_); rintro e w1 ⟨rfl, rfl⟩)
    | (go_at_call 10; (with_reducible refine H1.out.mono ?_); rintro e w1 ⟨rfl, rfl⟩)
    | (go_at_call 10; (with_reducible refine H2.out.mono ?_); rintro e w1 ⟨rfl, rfl⟩)
    | (go_at_call 12; refine HB2.out.mono ?_; rintro e w1 ⟨rfl, rfl⟩)
    | (go_at_call 15; refine HS.out.mono ?_; rintro e W1 ⟨g, rfl, hg, hw, hb⟩
       have HW := Lib.hid hw
       clear hw)
    | (go_at_call 16; refine (pick_no 5 3 4 (by omega) _).mono ?_; rintro e W2 ⟨rfl, hb2⟩))
  go_ret
  exact ⟨by simp, hb.trans (hb2.mono hb.size)⟩
end Go.Proofs.Ytmlfcnjfaonaiaa
