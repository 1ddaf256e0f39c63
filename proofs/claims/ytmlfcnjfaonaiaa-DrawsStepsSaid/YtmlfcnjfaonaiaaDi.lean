/- The walks of DrawsBelow and DrawsSteps. -/
import Derived.Test.YtmlfcnjfaonaiaaDh
namespace Go.Proofs.Ytmlfcnjfaonaiaa
open Go.RowKit Go.Shelf
set_option linter.unusedVariables false
theorem beq_cast (p q : Nat) : ((p : Int) == (q : Int)) = (p == q) := by
  rw [Bool.eq_iff_iff, beq_iff_eq, beq_iff_eq]; omega
set_option maxRecDepth 100000 in
set_option maxHeartbeats 1000000 in
theorem drawsBelow_yes (s m : Nat) (hs : s < 18446744073709551616) (hm : m < 4294967296) (w : World) : Calls Try.prog 4 #[.int .u64 s, .int .u32 m] w fun e w' => e = .returned (.bool true) ∧ Below w.heap.size w w' := by
  obtain ⟨k, hk⟩ : ∃ k, m % 2147483647 + 1 = k := ⟨_, rfl⟩
  have hk1 : 1 ≤ k := by omega
  have hk2 : k ≤ 2147483647 := by omega
  have hki : (m : Int) % 2147483647 + 1 = (k : Int) := by omega
  have HN := next_any s w
  have HB : Calls Try.prog 12 #[.int .u64 s, .int .i64 k] w fun e w' => e = .returned (.tuple #[.int .i64 (dr s k : Nat), .int .u64 (behindOf s : Nat), .int .i64 0]) ∧ w' = w :=
    (Below_any s k w).mono (fun e w' ⟨h1, h2⟩ => ⟨by unfold BelowYes at h1; rwa [if_pos (by omega), Int.toNat_natCast] at h1, h2⟩)
  have HC : Calls Try.prog 12 #[.int .u64 s, .int .i64 1] w fun e w' => e = .returned (.tuple #[.int .i64 0, .int .u64 (behindOf s : Nat), .int .i64 0]) ∧ w' = w :=
    (Below_any s 1 w).mono (fun e w' ⟨h1, h2⟩ => ⟨by unfold BelowYes at h1; rw [if_pos (by omega)] at h1; rw [h1]; simp [dr, Nat.mod_one], h2⟩)
  have hx := numOf_lt (behindOf s)
  have hd : dr s k = numOf (behindOf s) % k := rfl
  have hdk := Nat.mod_lt (numOf (behindOf s)) (show 0 < k by omega)
  rw [hd] at HB
  clear hd
  revert HN HB HC hx hdk
  generalize numOf (behindOf s) = x
  generalize behindOf s = b
  intro HN HB HC hx hdk
  have ez : (x : Int) % (k : Int) = ((x % k : Nat) : Int) := by omega
  have HB := Lib.hid HB
  have HC := Lib.hid HC
  have HN := Lib.hid HN
  obtain ⟨d, hd⟩ : ∃ d, x % k = d := ⟨_, rfl⟩
  rw [hd] at HB ez hdk
  have HD := Lib.hid hd
  clear hd hk
  have e3 : decide (0 ≤ (d : Int)) = true := decide_eq_true (by omega)
  have e4 : decide ((d : Int) < (k : Int)) = true := decide_eq_true (by omega)
  go_enter Try.func4, Try.ntmps4
  go_wp2_with (first
    | (go_at_call 12; (with_reducible refine HB.out.mono ?_); rintro e w1 ⟨rfl, rfl⟩)
    | (go_at_call 12; (with_reducible refine HC.out.mono ?_); rintro e w1 ⟨rfl, rfl⟩)
    | (go_at_call 10; (with_reducible refine HN.out.mono ?_); rintro e w1 ⟨rfl, rfl⟩)
    | (go_at_call 14; refine (alive_any _).mono ?_; rintro e w2 ⟨rfl, hb⟩))
  go_ret
  exact ⟨by simp, hb⟩
set_option maxRecDepth 100000 in
set_option maxHeartbeats 1000000 in
theorem drawsSteps_yes (a b : Nat) (ha : a < 18446744073709551616) (hb : b < 18446744073709551616) (w : World) : Calls Try.prog 5 #[.int .u64 a, .int .u64 b] w fun e w' => e = .returned (.bool true) ∧ Below w.heap.size w w' := by
  have H1 := next_any a w
  have H2 := next_any b w
  have e1 : (behindOf a == behindOf b) = (a == b) := by
    by_cases h : a = b
    · simp [h]
    · have : behindOf a ≠ behindOf b := fun e => h (behindOf_inj ha hb e)
      rw [beq_eq_false_iff_ne.2 h, beq_eq_false_iff_ne.2 this]
  have e2 : (numOf (behindOf a) == numOf (behindOf b)) = (a == b) := by
    by_cases h : a = b
    · simp [h]
    · have : numOf (behindOf a) ≠ numOf (behindOf b) := fun e => h (behindOf_inj ha hb (numOf_inj (behindOf_lt a) (behindOf_lt b) e))
      rw [beq_eq_false_iff_ne.2 h, beq_eq_false_iff_ne.2 this]
  revert H1 H2 e1 e2
  generalize numOf (behindOf a) = x
  generalize numOf (behindOf b) = y
  generalize behindOf a = p
  generalize behindOf b = q
  intro H1 H2 e1 e2
  have i1 : ((p : Int) == (q : Int)) = (a == b) := by rw [beq_cast]; exact e1
  have i2 : ((x : Int) == (y : Int)) = (a == b) := by rw [beq_cast]; exact e2
  have i3 : ((a : Int) == (b : Int)) = (a == b) := beq_cast a b
  have H1 := Lib.hid H1
  have H2 := Lib.hid H2
  obtain ⟨t, ht⟩ : ∃ t, (a == b) = t := ⟨_, rfl⟩
  rw [ht] at i1 i2 i3
  have HA := Lib.hid (fun w => alive_any w)
  clear ht e1 e2 ha hb
  go_enter Try.func5, Try.ntmps5
  go_wp2_with (first
    | (go_at_call 10; (with_reducible refine H1.out.mono ?_); rintro e w1 ⟨rfl, rfl⟩)
    | (go_at_call 10; (with_reducible refine H2.out.mono ?_); rintro e w1 ⟨rfl, rfl⟩)
    | (go_at_call 14; refine (HA.out _).mono ?_; rintro e w2 ⟨rfl, hb⟩))
  all_goals go_ret
  all_goals exact ⟨by simp, hb⟩
end Go.Proofs.Ytmlfcnjfaonaiaa
