/- Plain mathematics of layer 1 (nums): the bytes of a number, and that they are got. -/
import Derived.Test.YtlkkmeeijjaeiaaA
namespace Go.Proofs.Ytlkkmeeijjaeiaa
open Go.RowKit
set_option linter.unusedVariables false

/-- The bytes of a number, 7 bits each, the lowest first; all but the last have 128 more. -/
def putL (n : Nat) : List Int := if h : n < 128 then [(n : Int)] else (((n % 128 : Nat) : Int) + 128) :: putL (n / 128)
termination_by n
decreasing_by omega
theorem putL_small {n : Nat} (h : n < 128) : putL n = [(n : Int)] := by rw [putL, dif_pos h]
theorem putL_big {n : Nat} (h : ¬ n < 128) : putL n = (((n % 128 : Nat) : Int) + 128) :: putL (n / 128) := by rw [putL, dif_neg h]
theorem putL_ne (n : Nat) : 0 < (putL n).length := by
  by_cases h : n < 128
  · simp [putL_small h]
  · simp [putL_big h]
theorem putL_byte : ∀ (n : Nat) (x : Int), x ∈ putL n → 0 ≤ x ∧ x ≤ 255 := by
  intro n
  induction n using putL.induct with
  | case1 n h => intro x hx; rw [putL_small h] at hx; simp at hx; omega
  | case2 n h ih => intro x hx; rw [putL_big h] at hx; simp only [List.mem_cons] at hx; rcases hx with rfl | hx; · omega
                    · exact ih x hx
theorem putL_val (n : Nat) : val (putL n) = n := by
  induction n using putL.induct with
  | case1 n h => rw [putL_small h]; simp [val]; omega
  | case2 n h ih => rw [putL_big h]; simp only [val, ih]; omega
theorem putL_lead (n : Nat) (more : List Int) : lead (putL n ++ more) + 1 = (putL n).length := by
  induction n using putL.induct with
  | case1 n h => rw [putL_small h]; simp [lead]; omega
  | case2 n h ih => rw [putL_big h]; simp only [List.cons_append, lead, List.length_cons]; rw [if_pos (by omega)]; omega
theorem putL_last (n : Nat) (more : List Int) (h : 0 < lead (putL n ++ more)) : (putL n ++ more)[lead (putL n ++ more)]?.getD 0 ≠ 0 := by
  induction n using putL.induct with
  | case1 n hn => rw [putL_small hn] at h; simp only [List.cons_append, List.nil_append, lead] at h; rw [if_neg (by omega)] at h; omega
  | case2 n hn ih =>
    rw [putL_big hn] at h ⊢
    simp only [List.cons_append, lead] at h ⊢
    rw [if_pos (by omega)]
    simp only [List.getElem?_cons_succ]
    by_cases h0 : 0 < lead (putL (n / 128) ++ more)
    · exact ih h0
    · have h1 := putL_lead (n / 128) more
      have h2 : (putL (n / 128)).length = 1 := by omega
      by_cases hs : n / 128 < 128
      · rw [putL_small hs]; simp [lead]; rw [if_neg (by omega)]; simp; omega
      · rw [putL_big hs, List.length_cons] at h2; have := putL_ne (n / 128 / 128); omega
theorem putL_len (n k : Nat) (h : n < 128 ^ (k + 1)) : (putL n).length ≤ k + 1 := by
  induction k generalizing n with
  | zero => rw [putL_small (by simpa using h)]; simp
  | succ k ih =>
    by_cases hn : n < 128
    · rw [putL_small hn]; simp
    · rw [putL_big hn, List.length_cons]
      have := ih (n / 128) (by rw [Nat.div_lt_iff_lt_mul (by omega), ← Nat.pow_succ]; exact h)
      omega
theorem putL_len9 (n : Nat) (h : n ≤ 4611686018427387903) : (putL n).length ≤ 9 := putL_len n 8 (by omega)
theorem putL_mono (n m : Nat) (h : (putL n).length < (putL m).length) : n < m := by
  induction n using putL.induct generalizing m with
  | case1 n hn =>
    rw [putL_small hn] at h
    by_cases hm : m < 128
    · rw [putL_small hm] at h; simp at h
    · omega
  | case2 n hn ih =>
    rw [putL_big hn, List.length_cons] at h
    by_cases hm : m < 128
    · rw [putL_small hm] at h; simp at h
    · rw [putL_big hm, List.length_cons] at h
      have := ih (m / 128) (by omega)
      omega
/-- What was put is got, whatever stands behind it. -/
theorem get_put (n : Nat) (more : List Int) (h : n ≤ 4611686018427387903) : getE (putL n ++ more) = 0 ∧ getN (putL n ++ more) = n ∧ getK (putL n ++ more) = (putL n).length := by
  have hl := putL_lead n more
  have h9 := putL_len9 n h
  have hlt : lead (putL n ++ more) < (putL n ++ more).length := by rw [List.length_append]; omega
  obtain ⟨e1, e2⟩ := sz_stop (putL n ++ more) _ rfl (by omega) hlt
  have ht : (putL n ++ more).take (lead (putL n ++ more) + 1) = putL n := by rw [hl]; simp
  have hv : val ((putL n ++ more).take (lead (putL n ++ more) + 1)) = n := by rw [ht, putL_val]
  obtain ⟨g1, g2, g3⟩ := get_ok (xs := putL n ++ more) e2 (by by_cases h0 : 0 < lead (putL n ++ more); · exact .inr (putL_last n more h0)
                                                              · exact .inl (by omega)) (by rw [hv]; unfold maxNum; omega)
  exact ⟨g1, by rw [g2, hv], by rw [g3]; omega⟩
theorem lead_full : ∀ xs : List Int, (∀ x ∈ xs, 128 ≤ x) → lead xs = xs.length
  | [], _ => rfl
  | x :: r, h => by
    simp only [lead, List.length_cons]
    rw [if_pos (h x (by simp)), lead_full r (fun y hy => h y (by simp [hy]))]
theorem putL_take (n i : Nat) (h : i < (putL n).length) : ∀ x ∈ (putL n).take i, 128 ≤ x := by
  induction n using putL.induct generalizing i with
  | case1 n hn => rw [putL_small hn] at h ⊢; simp at h; subst h; simp
  | case2 n hn ih =>
    rw [putL_big hn] at h ⊢
    cases i with
    | zero => simp
    | succ i =>
      intro x hx
      simp only [List.take_succ_cons, List.mem_cons] at hx
      rcases hx with rfl | hx
      · omega
      · exact ih i (by simpa using h) x hx
/-- Of fewer bytes none is got: they are too short. -/
theorem get_fewer (n i : Nat) (h : n ≤ 4611686018427387903) (hi : i < (putL n).length) : getE ((putL n).take i) = 4 := by
  have h9 := putL_len9 n h
  have hl := lead_full _ (putL_take n i hi)
  have hlen : ((putL n).take i).length = i := by rw [List.length_take]; omega
  obtain ⟨e1, e2⟩ := sz_short ((putL n).take i) (by omega) (by omega)
  rw [get_sz (by omega), e2]
/-- What is got is put as the bytes that it had. -/
theorem put_get : ∀ (xs : List Int), (∀ x ∈ xs, 0 ≤ x ∧ x ≤ 255) → lead xs < xs.length → (0 < lead xs → xs[lead xs]?.getD 0 ≠ 0) → putL (val (xs.take (lead xs + 1))).toNat = xs.take (lead xs + 1)
  | [], _, h, _ => by simp at h
  | x :: r, hb, hl, h0 => by
    have hx := hb x (by simp)
    have hbd := val_bd (r.take (lead r + 1))
    by_cases h128 : 128 ≤ x
    · simp only [lead, if_pos h128] at hl h0 ⊢
      simp only [List.take_succ_cons, val] at *
      have hr := put_get r (fun y hy => hb y (by simp [hy])) (by simpa using hl) (fun hr => by simpa using h0 (by omega))
      obtain ⟨V, hV⟩ : ∃ V : Nat, val (r.take (lead r + 1)) = V := ⟨_, (Int.toNat_of_nonneg hbd.1).symm⟩
      rw [hV] at hr ⊢
      have hV0 : V ≠ 0 := by
        intro e
        subst e
        rw [Int.toNat_natCast, putL_small (by omega)] at hr
        have h1 := h0 (by omega)
        simp only [List.getElem?_cons_succ] at h1
        have h2 : (r.take (lead r + 1))[lead r]? = r[lead r]? := by rw [List.getElem?_take, if_pos (by omega)]
        by_cases hl0 : lead r = 0
        · rw [← h2, ← hr, hl0] at h1
          simp at h1
        · have h3 : (r.take (lead r + 1)).length = 1 := by rw [← hr]; rfl
          rw [List.length_take] at h3
          have : lead r < r.length := by simpa using hl
          omega
      have hbig : ¬ (x % 128 + 128 * (V : Int)).toNat < 128 := by omega
      rw [putL_big hbig]
      have e1 : (x % 128 + 128 * (V : Int)).toNat / 128 = V := by omega
      have e2 : ((((x % 128 + 128 * (V : Int)).toNat % 128 : Nat) : Int)) + 128 = x := by omega
      rw [e1, e2]
      rw [Int.toNat_natCast] at hr
      rw [hr]
    · simp only [lead, if_neg h128] at hl h0 ⊢
      have e : val [x] = x := by simp [val]; omega
      simp only [Nat.zero_add, List.take_succ_cons, List.take_zero, e]
      rw [putL_small (by omega)]
      simp
      omega
theorem put_got (xs : List Int) (hb : ∀ x ∈ xs, 0 ≤ x ∧ x ≤ 255) (h : getE xs = 0) : putL (getN xs).toNat = xs.take (getK xs).toNat ∧ 0 ≤ getN xs ∧ getN xs ≤ 4611686018427387903 ∧ 0 < getK xs ∧ getK xs ≤ xs.length ∧ getK xs ≤ 9 := by
  rcases szE_cases xs with h1 | h1 | ⟨h1, h9, hl, hN⟩
  · rw [get_sz (by omega)] at h; omega
  · rw [get_sz (by omega)] at h; omega
  · have hn : getN xs = val (xs.take (lead xs + 1)) := by unfold getN; rw [if_pos h]
    have hk : getK xs = lead xs + 1 := by unfold getK; rw [if_pos h]
    have hz : ¬ ((0 < lead xs ∧ xs[lead xs]?.getD 0 = 0) ∨ maxNum < val (xs.take (lead xs + 1))) := by
      intro hc
      unfold getE at h; rw [if_neg (by omega), if_pos hc] at h; omega
    have hbd := val_bd (xs.take (lead xs + 1))
    refine ⟨?_, by omega, by unfold maxNum at hz; omega, by omega, by omega, by omega⟩
    have e : (getK xs).toNat = lead xs + 1 := by omega
    rw [e, hn]
    exact put_get xs hb hl (fun h0 h1 => hz (.inl ⟨h0, h1⟩))
end Go.Proofs.Ytlkkmeeijjaeiaa
