/- The walks of Next, Below and what they call, and of the document's Next and Below. -/
import Derived.Test.YtmlfcnjfaonaiaaGreatChecked
import Derived.Test.YtmlfcnjfaonaiaaGreatDa
import Derived.OwnWalk
import Derived.Deep.QuietTactic
import Derived.BigQuiet
namespace Go.Proofs.YtmlfcnjfaonaiaaGreat
open Go.RowKit
set_option linter.unusedVariables false
theorem xs_int (z : Nat) (k : Nat) (h : z < 18446744073709551616) : bits .xor .u64 (z : Int) ((z / k : Nat) : Int) = ((z ^^^ z / k : Nat) : Int) :=
  u64_xor_nat z (z / k) h (Nat.lt_of_le_of_lt (Nat.div_le_self _ _) h)
theorem mixA_int (s : Nat) (hs : s < 18446744073709551616) : IntKind.u64.wrap (bits .xor .u64 (s : Int) ((s : Int) / 1073741824) * 13787848793156543929) = ((mixA s : Nat) : Int) := by
  rw [show ((s : Int) / 1073741824) = ((s / 1073741824 : Nat) : Int) by omega, xs_int s _ hs, IntKind.wrap_u64]
  unfold mixA
  omega
theorem mixB_int (s : Nat) (hs : s < 18446744073709551616) : IntKind.u64.wrap (bits .xor .u64 (s : Int) ((s : Int) / 134217728) * 10723151780598845931) = ((mixB s : Nat) : Int) := by
  rw [show ((s : Int) / 134217728) = ((s / 134217728 : Nat) : Int) by omega, xs_int s _ hs, IntKind.wrap_u64]
  unfold mixB
  omega
theorem mixC_int (s : Nat) (hs : s < 18446744073709551616) : bits .xor .u64 (s : Int) ((s : Int) / 2147483648) = ((mixC s : Nat) : Int) := by
  rw [show ((s : Int) / 2147483648) = ((s / 2147483648 : Nat) : Int) by omega, xs_int s _ hs]
  rfl
theorem behind_int (s : Nat) : IntKind.u64.wrap ((s : Int) + 11400714819323198485) = ((behindOf s : Nat) : Int) := by
  rw [IntKind.wrap_u64]
  unfold behindOf
  omega
theorem num_eq (s x y z : Nat) (hx : mixA s = x) (hy : mixB x = y) (hz : mixC y = z) : numOf s = z := by subst hx hy hz; rfl
set_option maxRecDepth 100000 in
theorem numberOf_any (s : Nat) (hs : s < 18446744073709551616) (w : World) : Calls Tryz.prog 96 #[.int .u64 s] w fun e w' => e = .returned (.int .u64 (numOf s : Nat)) ∧ w' = w := by
  have e1 := mixA_int s hs
  obtain ⟨x, hx⟩ : ∃ x, mixA s = x := ⟨_, rfl⟩
  have hx2 : x < 18446744073709551616 := hx ▸ mixA_lt s
  have e2 := mixB_int x hx2
  obtain ⟨y, hy⟩ : ∃ y, mixB x = y := ⟨_, rfl⟩
  have hy2 : y < 18446744073709551616 := hy ▸ mixB_lt x
  have e3 := mixC_int y hy2
  obtain ⟨z, hz⟩ : ∃ z, mixC y = z := ⟨_, rfl⟩
  have HE := num_eq s x y z hx hy hz
  rw [HE]
  rw [hx] at e1
  rw [hy] at e2
  rw [hz] at e3
  clear HE hx hy hz hx2 hy2
  go_enter Tryz.func96, Tryz.ntmps96
  go_wp2
  go_ret
  exact ⟨rfl, rfl⟩
set_option maxRecDepth 100000 in
theorem next_any (s : Nat) (w : World) : Calls Tryz.prog 84 #[.int .u64 s] w fun e w' => e = .returned (.tuple #[.int .u64 (numOf (behindOf s) : Nat), .int .u64 (behindOf s : Nat)]) ∧ w' = w := by
  have e1 := behind_int s
  have HN := Lib.hid (numberOf_any (behindOf s) (behindOf_lt s) w)
  revert e1 HN
  generalize behindOf s = b
  intro e1 HN
  revert HN
  generalize numOf b = x
  intro HN
  go_enter Tryz.func84, Tryz.ntmps84
  go_wp2_with (go_at_call 96; refine HN.out.mono ?_; rintro e w' ⟨rfl, rfl⟩)
  refine bodyPost_ret (results_tmp2 rfl _ _ _) rfl ?_
  exact ⟨rfl, rfl⟩
set_option maxRecDepth 100000 in
theorem refNext_any (s : Nat) (hs : s < 18446744073709551616) (w : World) : Calls Tryz.prog 59 #[.int .u64 s] w fun e w' => e = .returned (.tuple #[.int .u64 (numOf (behindOf s) : Nat), .int .u64 (behindOf s : Nat)]) ∧ w' = w := by
  have e0 := behind_int s
  have hb := behindOf_lt s
  revert e0 hb
  generalize behindOf s = b
  intro e0 hb
  have e1 := mixA_int b hb
  obtain ⟨x, hx⟩ : ∃ x, mixA b = x := ⟨_, rfl⟩
  have hx2 : x < 18446744073709551616 := hx ▸ mixA_lt b
  have e2 := mixB_int x hx2
  obtain ⟨y, hy⟩ : ∃ y, mixB x = y := ⟨_, rfl⟩
  have hy2 : y < 18446744073709551616 := hy ▸ mixB_lt x
  have e3 := mixC_int y hy2
  obtain ⟨z, hz⟩ : ∃ z, mixC y = z := ⟨_, rfl⟩
  have HE := num_eq b x y z hx hy hz
  rw [HE]
  rw [hx] at e1
  rw [hy] at e2
  rw [hz] at e3
  clear HE hx hy hz hx2 hy2 hb
  go_enter Tryz.func59, Tryz.ntmps59
  go_wp2
  refine bodyPost_ret (results_tmp2 rfl _ _ _) rfl ?_
  exact ⟨rfl, rfl⟩
theorem rem_int (x n : Nat) : Int.tmod (x : Int) (n : Int) = ((x % n : Nat) : Int) := rfl
/-- A draw below n, of a number that may be. -/
def dr (s n : Nat) : Nat := numOf (behindOf s) % n
set_option maxRecDepth 100000 in
theorem below_any (s n : Nat) (hn : 1 ≤ n) (hn2 : n ≤ 2147483647) (w : World) : Calls Tryz.prog 56 #[.int .u64 s, .int .i64 n] w fun e w' => e = .returned (.tuple #[.int .i64 (dr s n : Nat), .int .u64 (behindOf s : Nat)]) ∧ w' = w := by
  have HN := Lib.hid (next_any s w)
  unfold dr
  have hx := numOf_lt (behindOf s)
  revert HN hx
  generalize behindOf s = b
  generalize numOf b = x
  intro HN hx
  have hm := Nat.mod_lt x (show 0 < n by omega)
  go_enter Tryz.func56, Tryz.ntmps56
  go_wp2_with (go_at_call 84; refine HN.out.mono ?_; rintro e w' ⟨rfl, rfl⟩)
  refine bodyPost_ret (results_tmp2 rfl _ _ _) rfl ?_
  exact ⟨rfl, rfl⟩
/-- What Below answers, of any number. -/
def BelowYes (s : Nat) (n : Int) (e : Ending) : Prop :=
  if 1 ≤ n ∧ n ≤ 2147483647 then e = .returned (.tuple #[.int .i64 (dr s n.toNat : Nat), .int .u64 (behindOf s : Nat), .int .i64 0]) else e = .returned (.tuple #[.int .i64 0, .int .u64 0, .int .i64 1])
theorem BelowYes.yes (s : Nat) (n : Int) (h1 : 1 ≤ n) (h2 : n ≤ 2147483647) : BelowYes s n (.returned (.tuple #[.int .i64 (dr s n.toNat : Nat), .int .u64 (behindOf s : Nat), .int .i64 0])) := by
  unfold BelowYes; rw [if_pos ⟨h1, h2⟩]
theorem BelowYes.no (s : Nat) (n : Int) (h : ¬ (1 ≤ n ∧ n ≤ 2147483647)) : BelowYes s n (.returned (.tuple #[.int .i64 0, .int .u64 0, .int .i64 1])) := by
  unfold BelowYes; rw [if_neg h]
set_option maxRecDepth 100000 in
theorem refBelow_any (s : Nat) (hs : s < 18446744073709551616) (n : Int) (w : World) : Calls Tryz.prog 16 #[.int .u64 s, .int .i64 n] w fun e w' => BelowYes s n e ∧ w' = w := by
  go_enter Tryz.func16, Tryz.ntmps16
  by_cases h : 1 ≤ n ∧ n ≤ 2147483647
  · obtain ⟨h1, h2⟩ := h
    have HY := Lib.hid (BelowYes.yes s n h1 h2)
    obtain ⟨m, rfl⟩ := Int.eq_ofNat_of_zero_le (show 0 ≤ n by omega)
    have HN := Lib.hid (refNext_any s hs w)
    rw [Int.toNat_natCast] at HY
    unfold dr at HY
    have hx := numOf_lt (behindOf s)
    revert HN hx HY
    generalize behindOf s = b
    generalize numOf b = x
    intro HY HN hx
    have hm := Nat.mod_lt x (show 0 < m by omega)
    have e1 : decide ((m : Int) < 1) = false := decide_eq_false (by omega)
    have e2 : decide ((2147483647 : Int) < m) = false := decide_eq_false (by omega)
    go_wp2_with (go_at_call 59; refine HN.out.mono ?_; rintro e w' ⟨rfl, rfl⟩)
    refine bodyPost_ret (results_tmp3 rfl _ _ _) rfl ?_
    exact ⟨HY.out, rfl⟩
  · have HY := Lib.hid (BelowYes.no s n h)
    by_cases h1 : n < 1
    · have e1 : decide (n < 1) = true := decide_eq_true h1
      go_wp2
      refine bodyPost_ret (results_tmp3 rfl _ _ _) rfl ?_
      exact ⟨HY.out, rfl⟩
    · have e1 : decide (n < 1) = false := decide_eq_false h1
      have e2 : decide (2147483647 < n) = true := decide_eq_true (by omega)
      go_wp2
      refine bodyPost_ret (results_tmp3 rfl _ _ _) rfl ?_
      exact ⟨HY.out, rfl⟩
end Go.Proofs.YtmlfcnjfaonaiaaGreat
