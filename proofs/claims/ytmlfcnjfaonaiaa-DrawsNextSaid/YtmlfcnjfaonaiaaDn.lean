/- The walk of DrawsNext. -/
import Derived.Test.YtmlfcnjfaonaiaaDb
import Derived.BigQuiet
namespace Go.Proofs.Ytmlfcnjfaonaiaa
open Go.RowKit
set_option linter.unusedVariables false
theorem BelowYes.form {s : Nat} {n : Int} {e : Ending} (h : BelowYes s n e) : ∃ (a b c : Int), e = .returned (.tuple #[.int .i64 a, .int .u64 b, .int .i64 c]) ∧ Hid (∀ e', BelowYes s n e' → e' = .returned (.tuple #[.int .i64 a, .int .u64 b, .int .i64 c])) := by
  unfold BelowYes at h ⊢
  split at h
  · rename_i hh
    exact ⟨_, _, _, h, fun e' h' => by rw [if_pos hh] at h'; exact h'⟩
  · rename_i hh
    exact ⟨_, _, _, h, fun e' h' => by rw [if_neg hh] at h'; exact h'⟩
set_option maxRecDepth 100000 in
theorem drawsNext_yes (s : Nat) (hs : s < 18446744073709551616) (n : Int) (w : World) : Calls Try.prog 3 #[.int .u64 s, .int .i64 n] w fun e w' => e = .returned (.bool true) ∧ w' = w := by
  have H1 := Lib.hid (next_any s w)
  have H2 := Lib.hid (refNext_any s hs w)
  have H3 := Lib.hid (Below_any s n w)
  have H4 := Lib.hid (refBelow_any s hs n w)
  revert H1 H2
  generalize numOf (behindOf s) = x
  generalize behindOf s = b
  intro H1 H2
  go_enter Try.func3, Try.ntmps3
  go_wp2_with (first
    | (go_at_call 10; refine H1.out.mono ?_; rintro e w1 ⟨rfl, rfl⟩)
    | (go_at_call 11; refine H2.out.mono ?_; rintro e w1 ⟨rfl, rfl⟩)
    | (go_at_call 12; refine H3.out.mono ?_; rintro e w1 ⟨hb, rfl⟩; obtain ⟨p, q, r, rfl, HU⟩ := hb.form; clear hb)
    | (go_at_call 13; refine H4.out.mono ?_; rintro e w1 ⟨hb, rfl⟩; obtain rfl := HU.out _ hb; clear hb))
  go_ret
  exact ⟨by simp, rfl⟩
end Go.Proofs.Ytmlfcnjfaonaiaa
