/- The walks of Next and below. -/
import Derived.Test.YtcakmcegcbameaaChecked
import Derived.Test.YtcakmcegcbameaaDa
import Derived.OwnWalk
import Derived.Deep.QuietTactic
import Derived.BigQuiet
namespace Go.Proofs.Ytcakmcegcbameaa
open Go.RowKit
set_option linter.unusedVariables false
theorem xs_int (z : Nat) (k : Nat) (h : z < 18446744073709551616) : bits .xor .u64 (z : Int) ((z / k : Nat) : Int) = ((z ^^^ z / k : Nat) : Int) :=
  u64_xor_nat z (z / k) h (Nat.lt_of_le_of_lt (Nat.div_le_self _ _) h)
theorem mixA_int (s : Nat) (hs : s < 18446744073709551616) : IntKind.u64.wrap (bits .xor .u64 (s : Int) ((s : Int) / 1073741824) * 13787848793156543929) = ((mixA s : Nat) : Int) := by
  rw [show ((s : Int) / 1073741824) = ((s / 1073741824 : Nat) : Int) by omega, xs_int s _ hs, IntKind.wrap_u64]
  unfold mixA
  omega
theorem mixB_int (s : Nat) (hs : s < 18446744073709551616) : IntKind.u64.wrap (bits .xor .u64 (s : Int) ((s : Int) / 134217728) * 10723151780598845931) = ((mixB s : Nat) : Int) := by
  rw [show ((s : Int) / 134217728) = ((s / 134217728 : Nat) : Int) by omega, xs_int s _ hs, IntKind.wrap_u64]
  unfold mixB
  omega
theorem mixC_int (s : Nat) (hs : s < 18446744073709551616) : bits .xor .u64 (s : Int) ((s : Int) / 2147483648) = ((mixC s : Nat) : Int) := by
  rw [show ((s : Int) / 2147483648) = ((s / 2147483648 : Nat) : Int) by omega, xs_int s _ hs]
  rfl
theorem behind_int (s : Nat) : IntKind.u64.wrap ((s : Int) + 11400714819323198485) = ((behindOf s : Nat) : Int) := by
  rw [IntKind.wrap_u64]
  unfold behindOf
  omega
theorem num_eq (s x y z : Nat) (hx : mixA s = x) (hy : mixB x = y) (hz : mixC y = z) : numOf s = z := by subst hx hy hz; rfl
set_option maxRecDepth 100000 in
theorem numberOf_any (s : Nat) (hs : s < 18446744073709551616) (w : World) : Calls Try.prog 81 #[.int .u64 s] w fun e w' => e = .returned (.int .u64 (numOf s : Nat)) ∧ w' = w := by
  have e1 := mixA_int s hs
  obtain ⟨x, hx⟩ : ∃ x, mixA s = x := ⟨_, rfl⟩
  have hx2 : x < 18446744073709551616 := hx ▸ mixA_lt s
  have e2 := mixB_int x hx2
  obtain ⟨y, hy⟩ : ∃ y, mixB x = y := ⟨_, rfl⟩
  have hy2 : y < 18446744073709551616 := hy ▸ mixB_lt x
  have e3 := mixC_int y hy2
  obtain ⟨z, hz⟩ : ∃ z, mixC y = z := ⟨_, rfl⟩
  have HE := num_eq s x y z hx hy hz
  rw [HE]
  rw [hx] at e1
  rw [hy] at e2
  rw [hz] at e3
  clear HE hx hy hz hx2 hy2
  go_enter Try.func81, Try.ntmps81
  go_wp2
  go_ret
  exact ⟨rfl, rfl⟩
set_option maxRecDepth 100000 in
theorem next_any (s : Nat) (w : World) : Calls Try.prog 74 #[.int .u64 s] w fun e w' => e = .returned (.tuple #[.int .u64 (numOf (behindOf s) : Nat), .int .u64 (behindOf s : Nat)]) ∧ w' = w := by
  have e1 := behind_int s
  have HN := Lib.hid (numberOf_any (behindOf s) (behindOf_lt s) w)
  revert e1 HN
  generalize behindOf s = b
  intro e1 HN
  revert HN
  generalize numOf b = x
  intro HN
  go_enter Try.func74, Try.ntmps74
  go_wp2_with (go_at_call 81; refine HN.out.mono ?_; rintro e w' ⟨rfl, rfl⟩)
  refine bodyPost_ret (results_tmp2 rfl _ _ _) rfl ?_
  exact ⟨rfl, rfl⟩
theorem rem_int (x n : Nat) : Int.tmod (x : Int) (n : Int) = ((x % n : Nat) : Int) := rfl
/-- A draw below n, of a number that may be. -/
def dr (s n : Nat) : Nat := numOf (behindOf s) % n
set_option maxRecDepth 100000 in
theorem below_any (s n : Nat) (hn : 1 ≤ n) (hn2 : n ≤ 2147483647) (w : World) : Calls Try.prog 62 #[.int .u64 s, .int .i64 n] w fun e w' => e = .returned (.tuple #[.int .i64 (dr s n : Nat), .int .u64 (behindOf s : Nat)]) ∧ w' = w := by
  have HN := Lib.hid (next_any s w)
  unfold dr
  have hx := numOf_lt (behindOf s)
  revert HN hx
  generalize behindOf s = b
  generalize numOf b = x
  intro HN hx
  have hm := Nat.mod_lt x (show 0 < n by omega)
  go_enter Try.func62, Try.ntmps62
  go_wp2_with (go_at_call 74; refine HN.out.mono ?_; rintro e w' ⟨rfl, rfl⟩)
  refine bodyPost_ret (results_tmp2 rfl _ _ _) rfl ?_
  exact ⟨rfl, rfl⟩
end Go.Proofs.Ytcakmcegcbameaa
