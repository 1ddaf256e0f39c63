/- The walk of SameInts, of lists that are the same; rows of numbers. -/
import Derived.Test.YtmlfcnjfaonaiaaGreatDg
import Derived.Deep.QuietTactic
import Derived.BigQuiet
namespace Go.Proofs.YtmlfcnjfaonaiaaGreat
open Go.RowKit Go.Shelf
set_option linter.unusedVariables false
set_option maxRecDepth 100000 in
set_option maxHeartbeats 1000000 in
/-- SameInts, of lists that are the same. -/
theorem sameInts_any (A B : Option Addr) (c d : Nat) (xs : List Int) (w : World) (D : Nat) (hx : Rd .i64 w D A xs) (hy : Rd .i64 w D B xs) (hl : xs.length ≤ 140737488355328) :
    Calls Tryz.prog 8 #[.slice A xs.length c, .slice B xs.length d] w fun e w' => e = .returned (.bool true) ∧ ∃ nq, w' = w.drewN nq := by
  go_enter Tryz.func8, Tryz.ntmps8
  go_wp2
  go_loopw [5] (fun i wr => ∃ k nq : Nat, k ≤ xs.length ∧ i = .int .i64 k ∧ wr = w.drewN nq) (fun i _ => xs.length - (intOf i).toNat)
  case atStart => exact ⟨0, 0, by omega, rfl, rfl⟩
  case round =>
    obtain ⟨k, nq, hk, rfl, rfl⟩ := hrel
    by_cases hlt : k < xs.length
    · obtain ⟨b, off, v, rfl, hbs, hcx, hvx⟩ := hx.at_ hlt
      obtain ⟨b', off', v', rfl, hbs', hcy, hvy⟩ := hy.at_ hlt
      obtain rfl : v = v' := hvx.out.symm.trans hvy.out
      have e : (v != v) = false := by simp
      go_wp2
      go_quiet (fail)
      go_wp2
      go_roundw
      case rel => exact ⟨k + 1, _, by omega, by go_num, rfl⟩
      case measure => simp [intOf]; omega
    · obtain rfl : k = xs.length := by omega
      go_wp2
      go_ret
      exact ⟨rfl, _, rfl⟩
theorem rd_whole {w : World} {g : Nat} {l : List Nat} (h : Whole w g 3 (rowI l)) : Rd .i64 w w.heap.size (some ⟨g, 0, none⟩) (ints l) := fun hl =>
  ⟨g, 0, rfl, h.lt, fun i hi => by rw [ints_len] at hi; rw [h.cell0 i, rowI_at hi, ints_at]⟩
/-- A number appended to a row of numbers. -/
theorem row_more {l : List Nat} {i y : Nat} (h : i < l.length) (hy : l[i]?.getD 0 = y) : ((ints (l.take i)).map (Value.int .i64)) ++ [Value.int .i64 (y : Nat)] = (ints (l.take (i + 1))).map (Value.int .i64) := by
  have e : l.take (i + 1) = l.take i ++ [y] := by rw [List.take_add_one, List.getElem?_eq_getElem h]; rw [List.getElem?_eq_getElem h, Option.getD_some] at hy; rw [hy]; rfl
  rw [e]; simp [ints]
end Go.Proofs.YtmlfcnjfaonaiaaGreat
