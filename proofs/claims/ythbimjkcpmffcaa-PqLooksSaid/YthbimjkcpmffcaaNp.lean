/- Mathematics of Train: the first means, so many steps. -/
import Derived.Test.YthbimjkcpmffcaaNo
import Derived.Test.YthbimjkcpmffcaaDa
namespace Go.Proofs.Ythbimjkcpmffcaa
set_option linter.unusedVariables false
/-- The vectors at the places that a draw tells. -/
def firstL (vs : List (List Int)) (s k : Nat) : List (List Int) := (pkL s vs.length k).map (vAt vs)
theorem firstL_len {vs : List (List Int)} {s k : Nat} (h : k ≤ vs.length) : (firstL vs s k).length = k := by unfold firstL; rw [List.length_map, pkL_len h]
theorem firstL_mem {vs : List (List Int)} {s k : Nat} {v : List Int} (h : v ∈ firstL vs s k) : v ∈ vs := by
  unfold firstL at h
  obtain ⟨i, hi, rfl⟩ := List.mem_map.1 h
  exact vAt_mem (pkL_lt hi)
theorem firstL_take {vs : List (List Int)} {s k i x : Nat} (hi : i < k) (hk : k ≤ vs.length) (hx : (pkL s vs.length k)[i]?.getD 0 = x) : (firstL vs s k).take (i + 1) = (firstL vs s k).take i ++ [vAt vs x] := by
  have hl : i < (pkL s vs.length k).length := by rw [pkL_len hk]; exact hi
  rw [List.getElem?_eq_getElem hl, Option.getD_some] at hx
  unfold firstL
  rw [List.take_add_one, List.getElem?_map, List.getElem?_eq_getElem hl, hx]
  rfl
theorem firstL_may {vs : List (List Int)} {s k : Nat} (h : mayB vs = true) (h1 : 1 ≤ k) (h2 : k ≤ 64) (h3 : k ≤ vs.length) : mayM (firstL vs s k) vs = true := by
  have hm := mayB_yes h
  have h4 := mayB_of (vs := firstL vs s k) (d := dimOf vs) (by rw [firstL_len h3]; exact h1) (by rw [firstL_len h3]; omega) hm.2.2.1 hm.2.2.2.1 (fun v hv => mayB_len h v (firstL_mem hv))
  exact decide_eq_true ⟨by rw [firstL_len h3]; exact h2, h4.1, hm.2.1, fun i hi => by rw [h4.2]; exact mayB_len h _ (vAt_mem hi)⟩
theorem stepsL_may {vs : List (List Int)} {ms : List (List Int)} (h : mayM ms vs = true) : ∀ k, mayM (stepsL vs k ms) vs = true
  | 0 => h
  | k + 1 => (stepL_may (stepsL_may h k)).1
theorem stepsL_b8 {vs ms : List (List Int)} (hm : B8 ms) (hv : B8 vs) : ∀ k, B8 (stepsL vs k ms)
  | 0 => hm
  | k + 1 => stepL_b8 (stepsL_b8 hm hv k) hv
/-- May so many means be drawn of these vectors, in so many rounds? -/
def mayT (vs : List (List Int)) (k r : Int) : Prop := mayB vs = true ∧ 1 ≤ k ∧ k ≤ 64 ∧ k ≤ vs.length ∧ 0 ≤ r ∧ r ≤ 100
theorem firstL_all (vs : List (List Int)) (s : Nat) : firstL vs s vs.length = vs := by
  unfold firstL
  rw [pkL_all]
  apply List.ext_getElem
  · simp
  · intro i h1 h2
    simp [vAt, h2]
/-- Rounds more never cost more. -/
theorem steps_cost {vs ms : List (List Int)} (h : mayM ms vs = true) (k : Nat) : costL (stepsL vs (k + 1) ms) vs ≤ costL (stepsL vs k ms) vs := step_cost (stepsL_may h k)
theorem steps_cost0 {vs ms : List (List Int)} (h : mayM ms vs = true) : ∀ k, costL (stepsL vs k ms) vs ≤ costL ms vs
  | 0 => Int.le_refl _
  | k + 1 => Int.le_trans (steps_cost h k) (steps_cost0 h k)
end Go.Proofs.Ythbimjkcpmffcaa
