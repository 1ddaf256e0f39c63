/- The mathematics of VecAlike: the mean of one vector, however often; the mean of all turned about. -/
import Derived.Test.YtegphnlfhcokfaaO
namespace Go.Proofs.Ytegphnlfhcokfaa
set_option linter.unusedVariables false
theorem quo_neg (S c : Int) (hc : 1 ≤ c) : quo (-S) c = -quo S c := by
  unfold quo
  rcases Int.lt_trichotomy S 0 with h | h | h
  · rw [if_neg (by omega), if_pos h, Int.neg_neg]
  · subst h
    rw [if_neg (by omega)]
    simp
    have : c / (2 * c) = 0 := Int.ediv_eq_zero_of_lt (by omega) (by omega)
    rw [this]; rfl
  · rw [if_pos (by omega), if_neg (by omega), Int.neg_neg]
theorem quo_all (x c : Int) (hc : 1 ≤ c) : quo (c * x) c = x := by
  have h := quo_near (S := c * x) (c := c) hc
  generalize quo (c * x) c = q at h
  rcases Int.lt_trichotomy q x with h1 | h1 | h1
  · have h2 := Int.mul_le_mul_of_nonneg_left (show q ≤ x - 1 by omega) (show 0 ≤ c by omega)
    rw [Int.mul_sub, Int.mul_one] at h2
    omega
  · exact h1
  · have h2 := Int.mul_le_mul_of_nonneg_left (show x + 1 ≤ q by omega) (show 0 ≤ c by omega)
    rw [Int.mul_add, Int.mul_one] at h2
    omega
theorem quo_127 {s c : Int} (hc : 1 ≤ c) (h : -127 * c ≤ s ∧ s ≤ 127 * c) : -127 ≤ quo s c ∧ quo s c ≤ 127 := by
  unfold quo
  split
  · have h1 : (2 * -s + c) / (2 * c) < 128 := Int.ediv_lt_of_lt_mul (by omega) (by omega)
    have h2 : 0 ≤ (2 * -s + c) / (2 * c) := Int.ediv_nonneg (by omega) (by omega)
    omega
  · have h1 : (2 * s + c) / (2 * c) < 128 := Int.ediv_lt_of_lt_mul (by omega) (by omega)
    have h2 : 0 ≤ (2 * s + c) / (2 * c) := Int.ediv_nonneg (by omega) (by omega)
    omega
/-- All vectors turned about. -/
def negs (vs : List (List Int)) : List (List Int) := vs.map (·.map (- ·))
theorem negs_len (vs : List (List Int)) : (negs vs).length = vs.length := by simp [negs]
theorem negs_dim (vs : List (List Int)) : dimOf (negs vs) = dimOf vs := by
  unfold dimOf negs
  rw [List.getElem?_map]
  cases vs[0]? <;> simp
theorem sumP_negs (vs : List (List Int)) (p : Nat) : sumP (negs vs) p = -sumP vs p := by
  induction vs with
  | nil => simp [sumP, negs]
  | cons v r ih =>
    have e1 : sumP (negs (v :: r)) p = (v.map (- ·))[p]?.getD 0 + sumP (negs r) p := by simp [sumP, negs]
    have e2 : sumP (v :: r) p = v[p]?.getD 0 + sumP r p := by simp [sumP]
    have e3 : (v.map (- ·))[p]?.getD 0 = -(v[p]?.getD 0) := by
      rw [List.getElem?_map]
      cases v[p]? <;> simp
    rw [e1, e2, e3, ih]; omega
theorem meanL_negs (vs : List (List Int)) (h : 1 ≤ vs.length) : meanL (negs vs) = (meanL vs).map (- ·) := by
  unfold meanL
  rw [negs_dim, List.map_map]
  apply List.map_congr_left
  intro p _
  simp only [Function.comp]
  rw [sumP_negs, negs_len, quo_neg _ _ (by omega)]
theorem sumP_rep (n : Nat) (v : List Int) (p : Nat) : sumP (List.replicate n v) p = (n : Int) * v[p]?.getD 0 := by
  induction n with
  | zero => simp [sumP]
  | succ n ih =>
    have e : sumP (List.replicate (n + 1) v) p = v[p]?.getD 0 + sumP (List.replicate n v) p := by simp [sumP, List.replicate_succ]
    rw [e, ih, Int.natCast_add, Int.add_mul]; simp; omega
theorem meanL_rep (n : Nat) (v : List Int) (h : 1 ≤ n) : meanL (List.replicate n v) = v := by
  have hd : dimOf (List.replicate n v) = v.length := by
    unfold dimOf
    rw [List.getElem?_replicate, if_pos (by omega)]; rfl
  unfold meanL
  rw [hd]
  apply List.ext_getElem
  · simp
  · intro i h1 h2
    simp only [List.getElem_map, List.getElem_range, List.length_replicate]
    rw [sumP_rep, quo_all _ _ (by omega), List.getElem?_eq_getElem h2]; rfl
end Go.Proofs.Ytegphnlfhcokfaa
