/- Several texts in one. -/
import Derived.Test.YthbimjkcpmffcaaGreatNf
import Derived.Test.YthbimjkcpmffcaaGreatDd
/- Mathematics of layer 7's laws: a step never costs more; one mean more neither; lists put together, turned about, twice. -/
namespace Go.Proofs.YthbimjkcpmffcaaGreat
set_option linter.unusedVariables false
theorem far_nil (ys : List Int) : far [] ys = 0 := by unfold far farL; simp
theorem far_nil' (xs : List Int) : far xs [] = 0 := by unfold far farL; simp
theorem far_cons (x y : Int) (xs ys : List Int) : far (x :: xs) (y :: ys) = (x - y) * (x - y) + far xs ys := by unfold far farL; simp
theorem far_comm : ∀ (xs ys : List Int), far xs ys = far ys xs
  | [], ys => by rw [far_nil, far_nil']
  | x :: xs, [] => by rw [far_nil, far_nil']
  | x :: xs, y :: ys => by
    rw [far_cons, far_cons, far_comm xs ys]
    have : x - y = -(y - x) := by omega
    rw [this, Int.neg_mul_neg]
theorem far_nonneg : ∀ (xs ys : List Int), 0 ≤ far xs ys
  | [], ys => by rw [far_nil]; omega
  | x :: xs, [] => by rw [far_nil']; omega
  | x :: xs, y :: ys => by
    rw [far_cons]
    have := far_nonneg xs ys
    have h : 0 ≤ (x - y) * (x - y) := by
      rcases Int.le_total 0 (x - y) with h | h
      · exact Int.mul_nonneg h h
      · have := Int.mul_nonneg (show 0 ≤ -(x - y) by omega) (show 0 ≤ -(x - y) by omega); rwa [Int.neg_mul_neg] at this
    omega
theorem far_self : ∀ (xs : List Int), far xs xs = 0
  | [] => far_nil _
  | x :: xs => by rw [far_cons, far_self xs, Int.sub_self]; rfl
theorem sq_zero {x : Int} (h : x * x ≤ 0) (h' : 0 ≤ x * x) : x = 0 := by
  have : x * x = 0 := by omega
  rcases Int.mul_eq_zero.1 this with h | h <;> exact h
theorem far_zero : ∀ (xs ys : List Int), ys.length = xs.length → far xs ys = 0 → xs = ys
  | [], ys, hl, _ => (List.eq_nil_of_length_eq_zero hl).symm
  | x :: xs, [], hl, _ => by simp at hl
  | x :: xs, y :: ys, hl, h => by
    rw [far_cons] at h
    have h1 := far_nonneg xs ys
    have h2 : 0 ≤ (x - y) * (x - y) := by
      have := far_nonneg [x] [y]
      rw [far_cons, far_nil] at this
      omega
    have h3 := sq_zero (x := x - y) (by omega) h2
    have h4 := far_zero xs ys (by simpa using hl) (by omega)
    rw [h4, show x = y by omega]
theorem far_snoc : ∀ (xs ys : List Int) (p q : Int), ys.length = xs.length → far (xs ++ [p]) (ys ++ [q]) = far xs ys + (p - q) * (p - q)
  | [], ys, p, q, hl => by
    obtain rfl := List.eq_nil_of_length_eq_zero hl
    rw [List.nil_append, List.nil_append, far_cons, far_nil]; omega
  | x :: xs, [], p, q, hl => by simp at hl
  | x :: xs, y :: ys, p, q, hl => by
    rw [List.cons_append, List.cons_append, far_cons, far_cons, far_snoc xs ys p q (by simpa using hl)]; omega
/-- How far all vectors are from one, together. -/
def costV (vs : List (List Int)) (m : List Int) : Int := (vs.map fun v => far v m).sum
theorem costV_cons (v : List Int) (vs : List (List Int)) (m : List Int) : costV (v :: vs) m = far v m + costV vs m := by simp [costV]
def sumR (D : Nat) (f : Nat → Int) : Int := ((List.range D).map f).sum
theorem sumR_zero (f : Nat → Int) : sumR 0 f = 0 := rfl
theorem sumR_succ (D : Nat) (f : Nat → Int) : sumR (D + 1) f = sumR D f + f D := by unfold sumR; rw [List.range_succ, List.map_append, List.sum_append]; simp
theorem sumR_add (D : Nat) (f g : Nat → Int) : sumR D (fun p => f p + g p) = sumR D f + sumR D g := by
  induction D with
  | zero => simp [sumR_zero]
  | succ D ih => rw [sumR_succ, sumR_succ, sumR_succ, ih]; omega
theorem sumR_le (D : Nat) (f g : Nat → Int) (h : ∀ p, p < D → f p ≤ g p) : sumR D f ≤ sumR D g := by
  induction D with
  | zero => simp [sumR_zero]
  | succ D ih => rw [sumR_succ, sumR_succ]; have := ih (fun p hp => h p (by omega)); have := h D (by omega); omega
theorem sumR_congr (D : Nat) (f g : Nat → Int) (h : ∀ p, p < D → f p = g p) : sumR D f = sumR D g := by
  induction D with
  | zero => rfl
  | succ D ih => rw [sumR_succ, sumR_succ, ih (fun p hp => h p (by omega)), h D (by omega)]
theorem sumR_nought (D : Nat) : sumR D (fun _ => 0) = 0 := by
  induction D with
  | zero => rfl
  | succ D ih => rw [sumR_succ, ih]; rfl
/-- The square of what is between at a place. -/
def sqAt (v m : List Int) (p : Nat) : Int := (v[p]?.getD 0 - m[p]?.getD 0) * (v[p]?.getD 0 - m[p]?.getD 0)
theorem far_sumR : ∀ (D : Nat) (v m : List Int), v.length = D → m.length = D → far v m = sumR D (sqAt v m) := by
  intro D
  induction D with
  | zero => intro v m hv hm; rw [List.eq_nil_of_length_eq_zero hv, far_nil]; rfl
  | succ D ih =>
    intro v m hv hm
    have ev : v = v.take D ++ [v[D]?.getD 0] := by
      have := List.take_succ_eq_append_getElem (l := v) (i := D) (by omega)
      rw [List.take_of_length_le (by omega)] at this
      rw [List.getElem?_eq_getElem (by omega)]; exact this
    have em : m = m.take D ++ [m[D]?.getD 0] := by
      have := List.take_succ_eq_append_getElem (l := m) (i := D) (by omega)
      rw [List.take_of_length_le (by omega)] at this
      rw [List.getElem?_eq_getElem (by omega)]; exact this
    rw [sumR_succ]
    have h1 : far v m = far (v.take D) (m.take D) + (v[D]?.getD 0 - m[D]?.getD 0) * (v[D]?.getD 0 - m[D]?.getD 0) := by
      have := far_snoc (v.take D) (m.take D) (v[D]?.getD 0) (m[D]?.getD 0) (by simp; omega)
      rw [← ev, ← em] at this
      exact this
    rw [h1, ih _ _ (by simp; omega) (by simp; omega)]
    have h2 : sumR D (sqAt (v.take D) (m.take D)) = sumR D (sqAt v m) := sumR_congr _ _ _ (fun p hp => by unfold sqAt; rw [List.getElem?_take, if_pos hp, List.getElem?_take, if_pos hp])
    rw [h2]; rfl
/-- What all vectors cost at a place. -/
def placeC (vs : List (List Int)) (p : Nat) (x : Int) : Int := (vs.map fun v => (v[p]?.getD 0 - x) * (v[p]?.getD 0 - x)).sum
theorem costV_places (D : Nat) (m : List Int) (hm : m.length = D) : ∀ (vs : List (List Int)), (∀ v ∈ vs, v.length = D) → costV vs m = sumR D (fun p => placeC vs p (m[p]?.getD 0))
  | [], _ => by simp [costV, placeC, sumR_nought]
  | v :: vs, h => by
    rw [costV_cons, far_sumR D v m (h v (by simp)) hm, costV_places D m hm vs (fun u hu => h u (by simp [hu])), ← sumR_add]
    apply sumR_congr
    intro p hp
    simp [placeC, sqAt]
theorem placeC_expand (vs : List (List Int)) (p : Nat) : ∀ x : Int, ∃ Q : Int, ∀ x : Int, placeC vs p x = Q - 2 * (x * sumP vs p) + (vs.length : Int) * (x * x) := fun _ => by
  induction vs with
  | nil => exact ⟨0, fun x => by simp [placeC, sumP]⟩
  | cons v r ih =>
    obtain ⟨Q, hQ⟩ := ih
    refine ⟨Q + (v[p]?.getD 0) * (v[p]?.getD 0), fun x => ?_⟩
    have e1 : placeC (v :: r) p x = (v[p]?.getD 0 - x) * (v[p]?.getD 0 - x) + placeC r p x := by simp [placeC]
    have e2 : sumP (v :: r) p = v[p]?.getD 0 + sumP r p := by simp [sumP]
    rw [e1, e2, hQ x]
    generalize v[p]?.getD 0 = a
    generalize sumP r p = S
    simp only [List.length_cons, Int.natCast_add, Int.natCast_one]
    rw [Int.sub_mul, Int.mul_sub, Int.mul_sub, Int.mul_add, Int.add_mul, Int.one_mul, Int.mul_comm a x]
    omega
theorem quo_near {S c : Int} (hc : 1 ≤ c) : 2 * (c * quo S c) - c ≤ 2 * S ∧ 2 * S ≤ 2 * (c * quo S c) + c := by
  unfold quo
  split
  · have h1 := Int.mul_ediv_add_emod (2 * -S + c) (2 * c)
    have h2 := Int.emod_nonneg (2 * -S + c) (show 2 * c ≠ 0 by omega)
    have h3 := Int.emod_lt_of_pos (2 * -S + c) (show 0 < 2 * c by omega)
    generalize (2 * -S + c) / (2 * c) = q at *
    rw [Int.mul_assoc] at h1
    rw [Int.mul_neg]
    omega
  · have h1 := Int.mul_ediv_add_emod (2 * S + c) (2 * c)
    have h2 := Int.emod_nonneg (2 * S + c) (show 2 * c ≠ 0 by omega)
    have h3 := Int.emod_lt_of_pos (2 * S + c) (show 0 < 2 * c by omega)
    generalize (2 * S + c) / (2 * c) = q at *
    rw [Int.mul_assoc] at h1
    omega
theorem placeC_least (vs : List (List Int)) (p : Nat) (h : 1 ≤ vs.length) (o : Int) : placeC vs p (quo (sumP vs p) vs.length) ≤ placeC vs p o := by
  obtain ⟨Q, hQ⟩ := placeC_expand vs p 0
  rw [hQ, hQ]
  have hn := quo_near (S := sumP vs p) (c := (vs.length : Int)) (by omega)
  generalize quo (sumP vs p) vs.length = m at *
  generalize sumP vs p = S at *
  have hc : 1 ≤ (vs.length : Int) := by omega
  generalize (vs.length : Int) = c at *
  obtain ⟨k, rfl⟩ : ∃ k, o = m + k := ⟨o - m, by omega⟩
  have e : c * ((m + k) * (m + k)) = c * (m * m) + 2 * (k * (c * m)) + c * (k * k) := by
    rw [Int.add_mul, Int.mul_add, Int.mul_add, Int.mul_add, Int.mul_add, Int.mul_add]
    have h1 : c * (m * k) = k * (c * m) := by rw [Int.mul_comm m k, Int.mul_left_comm]
    have h2 : c * (k * m) = k * (c * m) := Int.mul_left_comm _ _ _
    rw [h1, h2]; omega
  rw [e, Int.add_mul]
  have key : 0 ≤ 2 * (k * (c * m)) + c * (k * k) - 2 * (k * S) := by
    have e2 : 2 * (k * (c * m)) + c * (k * k) - 2 * (k * S) = k * (2 * (c * m) - 2 * S + c * k) := by
      rw [Int.mul_add, Int.mul_sub, Int.mul_left_comm c k k, Int.mul_left_comm k 2 (c * m), Int.mul_left_comm k 2 S]
      omega
    rw [e2]
    rcases Int.lt_trichotomy k 0 with hk | hk | hk
    · have h3 : c * k ≤ -c := by
        have := Int.mul_le_mul_of_nonneg_left (show k ≤ -1 by omega) (show 0 ≤ c by omega)
        rw [Int.mul_neg, Int.mul_one] at this; exact this
      have h4 := Int.mul_nonneg (show 0 ≤ -k by omega) (show 0 ≤ -(2 * (c * m) - 2 * S + c * k) by omega)
      rwa [Int.neg_mul_neg] at h4
    · rw [hk, Int.zero_mul]; omega
    · have h3 : c ≤ c * k := by
        have := Int.mul_le_mul_of_nonneg_left (show 1 ≤ k by omega) (show 0 ≤ c by omega)
        rw [Int.mul_one] at this; exact this
      exact Int.mul_nonneg (by omega) (by omega)
  omega
theorem cost_least (vs : List (List Int)) (o : List Int) (h : mayB vs = true) (ho : o.length = dimOf vs) : costV vs (meanL vs) ≤ costV vs o := by
  have hm := mayB_yes h
  have hall : ∀ v ∈ vs, v.length = dimOf vs := fun v hv => by
    obtain ⟨i, hi, rfl⟩ := List.getElem_of_mem hv
    have := hm.2.2.2.2 i hi
    rwa [List.getElem?_eq_getElem hi] at this
  rw [costV_places (dimOf vs) (meanL vs) (meanL_len vs) vs hall, costV_places (dimOf vs) o ho vs hall]
  apply sumR_le
  intro p hp
  have e : (meanL vs)[p]?.getD 0 = quo (sumP vs p) vs.length := by unfold meanL; simp [hp]
  rw [e]
  exact placeC_least vs p hm.1 _
theorem sumR_only (K n : Nat) (a : Int) (h : n < K) : sumR K (fun k => if n = k then a else 0) = a := by
  induction K with
  | zero => omega
  | succ K ih =>
    rw [sumR_succ]
    by_cases e : n = K
    · subst e
      rw [if_pos rfl, sumR_congr n _ (fun _ => 0) (fun p hp => if_neg (by omega)), sumR_nought]; omega
    · rw [if_neg e, ih (by omega)]; omega
theorem group_cons (ms vs : List (List Int)) (v : List Int) (k : Nat) : groupL ms (v :: vs) k = if nearestI ms v = k then v :: groupL ms vs k else groupL ms vs k := by
  unfold groupL
  by_cases h : nearestI ms v = k <;> simp [h]
/-- A sum over the vectors, group by group. -/
theorem sum_groups (ms : List (List Int)) (K : Nat) (f : Nat → List Int → Int) : ∀ vs : List (List Int), (∀ v ∈ vs, nearestI ms v < K) → (vs.map fun v => f (nearestI ms v) v).sum = sumR K (fun k => ((groupL ms vs k).map (f k)).sum)
  | [], _ => by simp [groupL, sumR_nought]
  | v :: vs, h => by
    rw [List.map_cons, List.sum_cons, sum_groups ms K f vs (fun u hu => h u (List.mem_cons_of_mem _ hu)), ← sumR_only K (nearestI ms v) (f (nearestI ms v) v) (h v (by simp)), ← sumR_add]
    apply sumR_congr
    intro k _
    rw [group_cons]
    by_cases e : nearestI ms v = k
    · rw [if_pos e, if_pos e, e]; simp
    · rw [if_neg e, if_neg e]; omega
theorem sum_le (vs : List (List Int)) (f g : List Int → Int) (h : ∀ v ∈ vs, f v ≤ g v) : (vs.map f).sum ≤ (vs.map g).sum := by
  induction vs with
  | nil => simp
  | cons v r ih =>
    simp only [List.map_cons, List.sum_cons]
    have := ih (fun u hu => h u (List.mem_cons_of_mem _ hu))
    have := h v (by simp)
    omega
theorem near_le {ms : List (List Int)} (v : List Int) {k : Nat} (h : k < ms.length) : far (vAt ms (nearestI ms v)) v ≤ far (vAt ms k) v := (nearI_min ms v ms.length).1 k h
theorem stepL_at (ms vs : List (List Int)) {k : Nat} (h : k < ms.length) : vAt (stepL ms vs) k = nextM ms vs k := by
  unfold vAt stepL
  rw [List.getElem?_map, List.getElem?_range h]; rfl
/-- A step never makes the cost greater. -/
theorem step_cost {ms vs : List (List Int)} (h : mayM ms vs = true) : costL (stepL ms vs) vs ≤ costL ms vs := by
  have hm := mayM_yes h
  have h1 : 1 ≤ ms.length := (mayB_yes hm.2.1).1
  have hK : ∀ v ∈ vs, nearestI ms v < ms.length := fun v _ => nearestI_lt v h1
  have a : costL (stepL ms vs) vs ≤ (vs.map fun v => far (vAt (stepL ms vs) (nearestI ms v)) v).sum :=
    sum_le _ _ _ (fun v hv => near_le v (by rw [stepL_len]; exact hK v hv))
  refine Int.le_trans a ?_
  unfold costL
  rw [sum_groups ms ms.length (fun k v => far (vAt (stepL ms vs) k) v) vs hK, sum_groups ms ms.length (fun k v => far (vAt ms k) v) vs hK]
  apply sumR_le
  intro k hk
  have e1 : ((groupL ms vs k).map fun v => far (vAt (stepL ms vs) k) v).sum = costV (groupL ms vs k) (nextM ms vs k) := by
    unfold costV; rw [stepL_at ms vs hk]; congr 1; apply List.map_congr_left; intro v _; exact far_comm _ _
  have e2 : ((groupL ms vs k).map fun v => far (vAt ms k) v).sum = costV (groupL ms vs k) (vAt ms k) := by
    unfold costV; congr 1; apply List.map_congr_left; intro v _; exact far_comm _ _
  rw [e1, e2]
  unfold nextM
  split
  · exact Int.le_refl _
  · rename_i hg
    have hgm := group_may h hg
    exact cost_least _ _ hgm.1 (by rw [hgm.2]; exact mayB_len hm.2.1 _ (vAt_mem hk))
theorem costL_nonneg (ms vs : List (List Int)) : 0 ≤ costL ms vs := by
  unfold costL
  induction vs with
  | nil => simp
  | cons v r ih => simp only [List.map_cons, List.sum_cons]; have := far_nonneg (vAt ms (nearestI ms v)) v; omega
theorem costL_append (ms a b : List (List Int)) : costL ms (a ++ b) = costL ms a + costL ms b := by unfold costL; rw [List.map_append, List.sum_append]
/-- One mean more never costs more. -/
theorem costL_more {ms : List (List Int)} (m : List Int) (vs : List (List Int)) (h : 1 ≤ ms.length) : costL (ms ++ [m]) vs ≤ costL ms vs := by
  refine sum_le _ _ _ (fun v _ => ?_)
  have h1 := nearestI_lt v h
  have h2 := near_le (ms := ms ++ [m]) v (k := nearestI ms v) (by rw [List.length_append]; omega)
  have e : vAt (ms ++ [m]) (nearestI ms v) = vAt ms (nearestI ms v) := by unfold vAt; rw [List.getElem?_append_left h1]
  rw [e] at h2
  exact h2
theorem perm_sum {a b : List Int} (h : a.Perm b) : a.sum = b.sum := by
  induction h with
  | nil => rfl
  | cons x _ ih => simp only [List.sum_cons]; omega
  | swap x y l => simp only [List.sum_cons]; omega
  | trans _ _ ih1 ih2 => omega
theorem costL_perm {ms a b : List (List Int)} (h : a.Perm b) : costL ms a = costL ms b := perm_sum (h.map _)
theorem sumP_perm {a b : List (List Int)} (h : a.Perm b) (p : Nat) : sumP a p = sumP b p := perm_sum (h.map _)
theorem dim_all {vs : List (List Int)} {d : Nat} (h0 : vs ≠ []) (h : ∀ v ∈ vs, v.length = d) : dimOf vs = d := by
  cases vs with
  | nil => exact absurd rfl h0
  | cons v r => exact h v (by simp)
theorem meanL_perm {a b : List (List Int)} {d : Nat} (h : a.Perm b) (h0 : a ≠ []) (hd : ∀ v ∈ a, v.length = d) : meanL a = meanL b := by
  have hb0 : b ≠ [] := fun e => h0 (by subst e; exact List.perm_nil.1 h)
  unfold meanL
  rw [dim_all h0 hd, dim_all hb0 (fun v hv => hd v (h.mem_iff.2 hv)), h.length_eq]
  apply List.map_congr_left
  intro p _
  rw [sumP_perm h p]
theorem quo_twice (S c : Int) (hc : 1 ≤ c) : quo (2 * S) (2 * c) = quo S c := by
  have e : ∀ x : Int, (2 * (2 * x) + 2 * c) / (2 * (2 * c)) = (2 * x + c) / (2 * c) := fun x => by
    rw [show 2 * (2 * x) + 2 * c = 2 * (2 * x + c) by omega]
    exact Int.mul_ediv_mul_of_pos _ _ (by omega)
  unfold quo
  by_cases h : S < 0
  · rw [if_pos (show 2 * S < 0 by omega), if_pos h, show -(2 * S) = 2 * -S by omega, e]
  · rw [if_neg (show ¬ 2 * S < 0 by omega), if_neg h, e]
theorem sumP_append (a b : List (List Int)) (p : Nat) : sumP (a ++ b) p = sumP a p + sumP b p := by unfold sumP; rw [List.map_append, List.sum_append]
/-- Each as often again changes no mean. -/
theorem meanL_twice {a b : List (List Int)} {d : Nat} (h : a.Perm b) (h0 : a ≠ []) (hd : ∀ v ∈ a, v.length = d) : meanL (a ++ b) = meanL a := by
  have h1 : 1 ≤ a.length := by cases a with | nil => exact absurd rfl h0 | cons x r => simp
  unfold meanL
  rw [dim_all h0 hd, dim_all (d := d) (by simp [h0]) (fun v hv => by
    rcases List.mem_append.1 hv with h2 | h2
    · exact hd v h2
    · exact hd v (h.mem_iff.2 h2))]
  apply List.map_congr_left
  intro p _
  rw [sumP_append, ← sumP_perm h p, List.length_append, ← h.length_eq, show ((a.length + a.length : Nat) : Int) = 2 * (a.length : Int) by omega, show sumP a p + sumP a p = 2 * sumP a p by omega]
  exact quo_twice _ _ (by omega)
theorem groupL_append (ms a b : List (List Int)) (k : Nat) : groupL ms (a ++ b) k = groupL ms a k ++ groupL ms b k := by unfold groupL; rw [List.filter_append]
theorem groupL_perm {a b : List (List Int)} (ms : List (List Int)) (h : a.Perm b) (k : Nat) : (groupL ms a k).Perm (groupL ms b k) := h.filter _
/-- In whatever order the vectors stand. -/
theorem stepL_perm {ms a b : List (List Int)} {d : Nat} (h : a.Perm b) (hd : ∀ v ∈ a, v.length = d) : stepL ms b = stepL ms a := by
  unfold stepL
  apply List.map_congr_left
  intro k _
  have hp := groupL_perm ms h k
  unfold nextM
  by_cases e : groupL ms a k = []
  · rw [if_pos e, if_pos (by rw [e] at hp; exact List.nil_perm.1 hp)]
  · rw [if_neg e, if_neg (fun e2 => e (by rw [e2] at hp; exact List.perm_nil.1 hp))]
    exact (meanL_perm hp e (fun v hv => hd v (group_mem hv).1)).symm
theorem stepL_twice {ms a b : List (List Int)} {d : Nat} (h : a.Perm b) (hd : ∀ v ∈ a, v.length = d) : stepL ms (a ++ b) = stepL ms a := by
  unfold stepL
  apply List.map_congr_left
  intro k _
  have hp := groupL_perm ms h k
  unfold nextM
  rw [groupL_append]
  by_cases e : groupL ms a k = []
  · have e2 : groupL ms b k = [] := by rw [e] at hp; exact List.nil_perm.1 hp
    rw [e, e2]; simp
  · rw [if_neg e, if_neg (by simp [e])]
    exact meanL_twice hp e (fun v hv => hd v (group_mem hv).1)
/-- Vectors that are their own means cost nothing. -/
theorem costL_self (vs : List (List Int)) : costL vs vs = 0 := by
  have h : ∀ us : List (List Int), (∀ v ∈ us, v ∈ vs) → costL vs us = 0 := by
    intro us
    induction us with
    | nil => intro _; simp [costL]
    | cons v r ih =>
      intro hu
      obtain ⟨i, hi, e⟩ := mem_vAt (hu v (by simp))
      have h1 := near_le v hi
      rw [e, far_self] at h1
      have h2 := far_nonneg (vAt vs (nearestI vs v)) v
      have h3 := ih (fun u hu' => hu u (List.mem_cons_of_mem _ hu'))
      unfold costL at h3 ⊢
      rw [List.map_cons, List.sum_cons, h3]
      omega
  exact h vs (fun v hv => hv)
end Go.Proofs.YthbimjkcpmffcaaGreat
/- Mathematics of Train: the first means, so many steps. -/
namespace Go.Proofs.YthbimjkcpmffcaaGreat
set_option linter.unusedVariables false
/-- The vectors at the places that a draw tells. -/
def firstL (vs : List (List Int)) (s k : Nat) : List (List Int) := (pkL s vs.length k).map (vAt vs)
theorem firstL_len {vs : List (List Int)} {s k : Nat} (h : k ≤ vs.length) : (firstL vs s k).length = k := by unfold firstL; rw [List.length_map, pkL_len h]
theorem firstL_mem {vs : List (List Int)} {s k : Nat} {v : List Int} (h : v ∈ firstL vs s k) : v ∈ vs := by
  unfold firstL at h
  obtain ⟨i, hi, rfl⟩ := List.mem_map.1 h
  exact vAt_mem (pkL_lt hi)
theorem firstL_take {vs : List (List Int)} {s k i x : Nat} (hi : i < k) (hk : k ≤ vs.length) (hx : (pkL s vs.length k)[i]?.getD 0 = x) : (firstL vs s k).take (i + 1) = (firstL vs s k).take i ++ [vAt vs x] := by
  have hl : i < (pkL s vs.length k).length := by rw [pkL_len hk]; exact hi
  rw [List.getElem?_eq_getElem hl, Option.getD_some] at hx
  unfold firstL
  rw [List.take_add_one, List.getElem?_map, List.getElem?_eq_getElem hl, hx]
  rfl
theorem firstL_may {vs : List (List Int)} {s k : Nat} (h : mayB vs = true) (h1 : 1 ≤ k) (h2 : k ≤ 64) (h3 : k ≤ vs.length) : mayM (firstL vs s k) vs = true := by
  have hm := mayB_yes h
  have h4 := mayB_of (vs := firstL vs s k) (d := dimOf vs) (by rw [firstL_len h3]; exact h1) (by rw [firstL_len h3]; omega) hm.2.2.1 hm.2.2.2.1 (fun v hv => mayB_len h v (firstL_mem hv))
  exact decide_eq_true ⟨by rw [firstL_len h3]; exact h2, h4.1, hm.2.1, fun i hi => by rw [h4.2]; exact mayB_len h _ (vAt_mem hi)⟩
theorem stepsL_may {vs : List (List Int)} {ms : List (List Int)} (h : mayM ms vs = true) : ∀ k, mayM (stepsL vs k ms) vs = true
  | 0 => h
  | k + 1 => (stepL_may (stepsL_may h k)).1
theorem stepsL_b8 {vs ms : List (List Int)} (hm : B8 ms) (hv : B8 vs) : ∀ k, B8 (stepsL vs k ms)
  | 0 => hm
  | k + 1 => stepL_b8 (stepsL_b8 hm hv k) hv
/-- May so many means be drawn of these vectors, in so many rounds? -/
def mayT (vs : List (List Int)) (k r : Int) : Prop := mayB vs = true ∧ 1 ≤ k ∧ k ≤ 64 ∧ k ≤ vs.length ∧ 0 ≤ r ∧ r ≤ 100
theorem firstL_all (vs : List (List Int)) (s : Nat) : firstL vs s vs.length = vs := by
  unfold firstL
  rw [pkL_all]
  apply List.ext_getElem
  · simp
  · intro i h1 h2
    simp [vAt, h2]
/-- Rounds more never cost more. -/
theorem steps_cost {vs ms : List (List Int)} (h : mayM ms vs = true) (k : Nat) : costL (stepsL vs (k + 1) ms) vs ≤ costL (stepsL vs k ms) vs := step_cost (stepsL_may h k)
theorem steps_cost0 {vs ms : List (List Int)} (h : mayM ms vs = true) : ∀ k, costL (stepsL vs k ms) vs ≤ costL ms vs
  | 0 => Int.le_refl _
  | k + 1 => Int.le_trans (steps_cost h k) (steps_cost0 h k)
end Go.Proofs.YthbimjkcpmffcaaGreat
