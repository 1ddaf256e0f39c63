/- The mathematics of VecLeast: no vector is nearer to all than their mean. -/
import Derived.Test.YtegphnlfhcokfaaL
import Derived.Test.YtegphnlfhcokfaaG
namespace Go.Proofs.Ytegphnlfhcokfaa
set_option linter.unusedVariables false
/-- How far all vectors are from one, together. -/
def costL (vs : List (List Int)) (m : List Int) : Int := (vs.map fun v => far v m).sum
theorem costL_cons (v : List Int) (vs : List (List Int)) (m : List Int) : costL (v :: vs) m = far v m + costL vs m := by simp [costL]
def sumR (D : Nat) (f : Nat → Int) : Int := ((List.range D).map f).sum
theorem sumR_zero (f : Nat → Int) : sumR 0 f = 0 := rfl
theorem sumR_succ (D : Nat) (f : Nat → Int) : sumR (D + 1) f = sumR D f + f D := by unfold sumR; rw [List.range_succ, List.map_append, List.sum_append]; simp
theorem sumR_add (D : Nat) (f g : Nat → Int) : sumR D (fun p => f p + g p) = sumR D f + sumR D g := by
  induction D with
  | zero => simp [sumR_zero]
  | succ D ih => rw [sumR_succ, sumR_succ, sumR_succ, ih]; omega
theorem sumR_le (D : Nat) (f g : Nat → Int) (h : ∀ p, p < D → f p ≤ g p) : sumR D f ≤ sumR D g := by
  induction D with
  | zero => simp [sumR_zero]
  | succ D ih => rw [sumR_succ, sumR_succ]; have := ih (fun p hp => h p (by omega)); have := h D (by omega); omega
theorem sumR_congr (D : Nat) (f g : Nat → Int) (h : ∀ p, p < D → f p = g p) : sumR D f = sumR D g := by
  induction D with
  | zero => rfl
  | succ D ih => rw [sumR_succ, sumR_succ, ih (fun p hp => h p (by omega)), h D (by omega)]
theorem sumR_nought (D : Nat) : sumR D (fun _ => 0) = 0 := by
  induction D with
  | zero => rfl
  | succ D ih => rw [sumR_succ, ih]; rfl
/-- The square of what is between at a place. -/
def sqAt (v m : List Int) (p : Nat) : Int := (v[p]?.getD 0 - m[p]?.getD 0) * (v[p]?.getD 0 - m[p]?.getD 0)
theorem far_sumR : ∀ (D : Nat) (v m : List Int), v.length = D → m.length = D → far v m = sumR D (sqAt v m) := by
  intro D
  induction D with
  | zero => intro v m hv hm; rw [List.eq_nil_of_length_eq_zero hv, far_nil]; rfl
  | succ D ih =>
    intro v m hv hm
    have ev : v = v.take D ++ [v[D]?.getD 0] := by
      have := List.take_succ_eq_append_getElem (l := v) (i := D) (by omega)
      rw [List.take_of_length_le (by omega)] at this
      rw [List.getElem?_eq_getElem (by omega)]; exact this
    have em : m = m.take D ++ [m[D]?.getD 0] := by
      have := List.take_succ_eq_append_getElem (l := m) (i := D) (by omega)
      rw [List.take_of_length_le (by omega)] at this
      rw [List.getElem?_eq_getElem (by omega)]; exact this
    rw [sumR_succ]
    have h1 : far v m = far (v.take D) (m.take D) + (v[D]?.getD 0 - m[D]?.getD 0) * (v[D]?.getD 0 - m[D]?.getD 0) := by
      have := far_snoc (v.take D) (m.take D) (v[D]?.getD 0) (m[D]?.getD 0) (by simp; omega)
      rw [← ev, ← em] at this
      exact this
    rw [h1, ih _ _ (by simp; omega) (by simp; omega)]
    have h2 : sumR D (sqAt (v.take D) (m.take D)) = sumR D (sqAt v m) := sumR_congr _ _ _ (fun p hp => by unfold sqAt; rw [List.getElem?_take, if_pos hp, List.getElem?_take, if_pos hp])
    rw [h2]; rfl
/-- What all vectors cost at a place. -/
def placeC (vs : List (List Int)) (p : Nat) (x : Int) : Int := (vs.map fun v => (v[p]?.getD 0 - x) * (v[p]?.getD 0 - x)).sum
theorem costL_places (D : Nat) (m : List Int) (hm : m.length = D) : ∀ (vs : List (List Int)), (∀ v ∈ vs, v.length = D) → costL vs m = sumR D (fun p => placeC vs p (m[p]?.getD 0))
  | [], _ => by simp [costL, placeC, sumR_nought]
  | v :: vs, h => by
    rw [costL_cons, far_sumR D v m (h v (by simp)) hm, costL_places D m hm vs (fun u hu => h u (by simp [hu])), ← sumR_add]
    apply sumR_congr
    intro p hp
    simp [placeC, sqAt]
theorem placeC_expand (vs : List (List Int)) (p : Nat) : ∀ x : Int, ∃ Q : Int, ∀ x : Int, placeC vs p x = Q - 2 * (x * sumP vs p) + (vs.length : Int) * (x * x) := fun _ => by
  induction vs with
  | nil => exact ⟨0, fun x => by simp [placeC, sumP]⟩
  | cons v r ih =>
    obtain ⟨Q, hQ⟩ := ih
    refine ⟨Q + (v[p]?.getD 0) * (v[p]?.getD 0), fun x => ?_⟩
    have e1 : placeC (v :: r) p x = (v[p]?.getD 0 - x) * (v[p]?.getD 0 - x) + placeC r p x := by simp [placeC]
    have e2 : sumP (v :: r) p = v[p]?.getD 0 + sumP r p := by simp [sumP]
    rw [e1, e2, hQ x]
    generalize v[p]?.getD 0 = a
    generalize sumP r p = S
    simp only [List.length_cons, Int.natCast_add, Int.natCast_one]
    rw [Int.sub_mul, Int.mul_sub, Int.mul_sub, Int.mul_add, Int.add_mul, Int.one_mul, Int.mul_comm a x]
    omega
theorem quo_near {S c : Int} (hc : 1 ≤ c) : 2 * (c * quo S c) - c ≤ 2 * S ∧ 2 * S ≤ 2 * (c * quo S c) + c := by
  unfold quo
  split
  · have h1 := Int.mul_ediv_add_emod (2 * -S + c) (2 * c)
    have h2 := Int.emod_nonneg (2 * -S + c) (show 2 * c ≠ 0 by omega)
    have h3 := Int.emod_lt_of_pos (2 * -S + c) (show 0 < 2 * c by omega)
    generalize (2 * -S + c) / (2 * c) = q at *
    rw [Int.mul_assoc] at h1
    rw [Int.mul_neg]
    omega
  · have h1 := Int.mul_ediv_add_emod (2 * S + c) (2 * c)
    have h2 := Int.emod_nonneg (2 * S + c) (show 2 * c ≠ 0 by omega)
    have h3 := Int.emod_lt_of_pos (2 * S + c) (show 0 < 2 * c by omega)
    generalize (2 * S + c) / (2 * c) = q at *
    rw [Int.mul_assoc] at h1
    omega
theorem placeC_least (vs : List (List Int)) (p : Nat) (h : 1 ≤ vs.length) (o : Int) : placeC vs p (quo (sumP vs p) vs.length) ≤ placeC vs p o := by
  obtain ⟨Q, hQ⟩ := placeC_expand vs p 0
  rw [hQ, hQ]
  have hn := quo_near (S := sumP vs p) (c := (vs.length : Int)) (by omega)
  generalize quo (sumP vs p) vs.length = m at *
  generalize sumP vs p = S at *
  have hc : 1 ≤ (vs.length : Int) := by omega
  generalize (vs.length : Int) = c at *
  obtain ⟨k, rfl⟩ : ∃ k, o = m + k := ⟨o - m, by omega⟩
  have e : c * ((m + k) * (m + k)) = c * (m * m) + 2 * (k * (c * m)) + c * (k * k) := by
    rw [Int.add_mul, Int.mul_add, Int.mul_add, Int.mul_add, Int.mul_add, Int.mul_add]
    have h1 : c * (m * k) = k * (c * m) := by rw [Int.mul_comm m k, Int.mul_left_comm]
    have h2 : c * (k * m) = k * (c * m) := Int.mul_left_comm _ _ _
    rw [h1, h2]; omega
  rw [e, Int.add_mul]
  have key : 0 ≤ 2 * (k * (c * m)) + c * (k * k) - 2 * (k * S) := by
    have e2 : 2 * (k * (c * m)) + c * (k * k) - 2 * (k * S) = k * (2 * (c * m) - 2 * S + c * k) := by
      rw [Int.mul_add, Int.mul_sub, Int.mul_left_comm c k k, Int.mul_left_comm k 2 (c * m), Int.mul_left_comm k 2 S]
      omega
    rw [e2]
    rcases Int.lt_trichotomy k 0 with hk | hk | hk
    · have h3 : c * k ≤ -c := by
        have := Int.mul_le_mul_of_nonneg_left (show k ≤ -1 by omega) (show 0 ≤ c by omega)
        rw [Int.mul_neg, Int.mul_one] at this; exact this
      have h4 := Int.mul_nonneg (show 0 ≤ -k by omega) (show 0 ≤ -(2 * (c * m) - 2 * S + c * k) by omega)
      rwa [Int.neg_mul_neg] at h4
    · rw [hk, Int.zero_mul]; omega
    · have h3 : c ≤ c * k := by
        have := Int.mul_le_mul_of_nonneg_left (show 1 ≤ k by omega) (show 0 ≤ c by omega)
        rw [Int.mul_one] at this; exact this
      exact Int.mul_nonneg (by omega) (by omega)
  omega
theorem cost_least (vs : List (List Int)) (o : List Int) (h : mayB vs = true) (ho : o.length = dimOf vs) : costL vs (meanL vs) ≤ costL vs o := by
  have hm := mayB_yes h
  have hall : ∀ v ∈ vs, v.length = dimOf vs := fun v hv => by
    obtain ⟨i, hi, rfl⟩ := List.getElem_of_mem hv
    have := hm.2.2.2.2 i hi
    rwa [List.getElem?_eq_getElem hi] at this
  rw [costL_places (dimOf vs) (meanL vs) (meanL_len vs) vs hall, costL_places (dimOf vs) o ho vs hall]
  apply sumR_le
  intro p hp
  have e : (meanL vs)[p]?.getD 0 = quo (sumP vs p) vs.length := by unfold meanL; simp [hp]
  rw [e]
  exact placeC_least vs p hm.1 _
end Go.Proofs.Ytegphnlfhcokfaa
