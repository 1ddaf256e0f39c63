/- The walk of Pick. -/
import Derived.Test.YtcakmcegcbameaaDf
import Derived.Test.YtcakmcegcbameaaDc
import Derived.Test.YtcakmcegcbameaaGa
import Derived.Test.YtcakmcegcbameaaOw
namespace Go.Proofs.Ytcakmcegcbameaa
open Go.RowKit Go.Shelf
set_option linter.unusedVariables false
theorem rowI_ints (l : List Nat) : rowI l = ((ints l).map (Value.int .i64)).toArray := by simp [rowI, ints]
theorem ints_getD (l : List Nat) (j : Nat) : (ints l).getD j 0 = ((l[j]?.getD 0 : Nat) : Int) := by rw [List.getD_eq_getElem?_getD]; exact ints_at l j
set_option maxRecDepth 100000 in
set_option maxHeartbeats 1000000 in
theorem pick_yes (s n k : Nat) (hn : n ≤ 2048) (hk : k ≤ n) (w : World) : Calls Try.prog 34 #[.int .u64 s, .int .i64 n, .int .i64 k] w fun e w' =>
    ∃ v, e = .returned (.tuple #[v, .int .u64 (shufS s n : Nat), .int .i64 0]) ∧ v ≠ .slice none 0 0 ∧ w'.ownsRow w.heap.size 3 1 v k ((ints (pkL s n k)).map (Value.int .i64)) ∧ Below w.heap.size w w' := by
  have e1 : decide ((k : Int) < 0) = false := decide_eq_false (by omega)
  have e2 : decide ((n : Int) < k) = false := decide_eq_false (by omega)
  have HS := Lib.hid (callsIn_wide.1 (shuffle_yes s n hn w))
  go_enter Try.func34, Try.ntmps34
  go_wp2_with (first
    | (go_at_call 43; refine HS.out.mono ?_; rintro e W1 ⟨g, rfl, hg, hw, hb⟩
       have HC := Lib.hid (clone_any g k n (ints (shufL s n)) W1 (by rw [ints_len, shufL_len]; exact hk) (by omega) (fun j hj => by
         rw [ints_len] at hj
         rw [hw.cell0 j, rowI_at hj, ints_getD]))
       have HW := Lib.hid hw
       clear hw)
    | (go_at_call 44; refine HC.out.mono ?_; rintro e W2 ⟨v, rfl, hv, hv0, hb2⟩
       have HO := Lib.hid (sort_own _ _ _ _ _ hv (by omega)))
    | (go_at_call 45; refine HO.out.mono ?_; rintro e W3 ⟨rfl, hv3, hg3⟩))
  refine bodyPost_ret (results_tmp3 rfl _ _ _) rfl ?_
  refine ⟨v, rfl, hv0, ?_, ?_⟩
  · have h := own_base hv3 hb.size
    rw [ints_take, sort_pick (take_ok s n k).1 (take_ok s n k).2] at h
    exact h
  · exact (hb.trans (hb2.mono hb.size)).grown hg3 (by have := hb.size; have := hb2.size; omega) (fun r hr => by
      have := (hv.lt r hr).1; have := hb.size; omega)
set_option maxRecDepth 100000 in
theorem pick_no (s : Nat) (n k : Int) (h : ¬ (0 ≤ k ∧ k ≤ n ∧ n ≤ 2048)) (w : World) : Calls Try.prog 34 #[.int .u64 s, .int .i64 n, .int .i64 k] w fun e w' => e = .returned (.tuple #[.slice none 0 0, .int .u64 0, .int .i64 1]) ∧ Below w.heap.size w w' := by
  go_enter Try.func34, Try.ntmps34
  by_cases h1 : k < 0
  · have e1 : decide (k < 0) = true := decide_eq_true h1
    go_wp2
    refine bodyPost_ret (results_tmp3 rfl _ _ _) rfl ?_
    exact ⟨rfl, Below.refl _ _⟩
  · have e1 : decide (k < 0) = false := decide_eq_false h1
    by_cases h2 : n < k
    · have e2 : decide (n < k) = true := decide_eq_true h2
      go_wp2
      refine bodyPost_ret (results_tmp3 rfl _ _ _) rfl ?_
      exact ⟨rfl, Below.refl _ _⟩
    · have e2 : decide (n < k) = false := decide_eq_false h2
      have HS := Lib.hid (shuffle_no s n (by omega) w)
      go_wp2_with (go_at_call 43; refine HS.out.mono ?_; rintro e W1 ⟨rfl, hb⟩)
      refine bodyPost_ret (results_tmp3 rfl _ _ _) rfl ?_
      exact ⟨rfl, hb⟩
end Go.Proofs.Ytcakmcegcbameaa
