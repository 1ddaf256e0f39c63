/- Mathematics of a set of numbers that stands in words of 64 bits: which numbers it has, in order; a word without its lowest bit; one more and one fewer. Of no program. -/
import Derived.Lib.TrailingZeros
namespace Go.Proofs.YtgcclijdkcomiaaDoor
set_option linter.unusedVariables false

/-- Is a number in the set? -/
def has (ws : List Nat) (n : Nat) : Bool := (ws[n / 64]?.getD 0).testBit (n % 64)
/-- The places of the ones of a word, rising. -/
def bitsOf (x : Nat) : List Nat := (List.range 64).filter x.testBit
/-- The numbers of words that begin with word i. -/
def onesFrom : Nat → List Nat → List Nat
  | _, [] => []
  | i, x :: r => (bitsOf x).map (i * 64 + ·) ++ onesFrom (i + 1) r
/-- All numbers of a set, rising. -/
def numbers (ws : List Nat) : List Nat := onesFrom 0 ws
/-- Those from n on. -/
def tailOf (ws : List Nat) (n : Nat) : List Nat := (numbers ws).filter (fun j => decide (n ≤ j))

theorem bitsOf_zero : bitsOf 0 = [] := by
  unfold bitsOf; simp
theorem range_split (k d : Nat) : List.range (k + 1 + d) = List.range k ++ k :: (List.range d).map (k + 1 + ·) := by
  rw [List.range_add, List.range_succ, List.append_assoc]; rfl
theorem filter_first (p q : Nat → Bool) (n k : Nat) (hk : k < n) (h1 : p k = true) (h0 : ∀ j, j < k → p j = false) (hq : ∀ j, q j = (p j && j != k)) :
    (List.range n).filter p = k :: (List.range n).filter q := by
  obtain ⟨d, rfl⟩ : ∃ d, n = k + 1 + d := ⟨n - k - 1, by omega⟩
  have e1 : (List.range k).filter p = [] := by
    rw [List.filter_eq_nil_iff]; intro a ha; rw [h0 a (List.mem_range.1 ha)]; simp
  have e2 : (List.range k).filter q = [] := by
    rw [List.filter_eq_nil_iff]; intro a ha; rw [hq, h0 a (List.mem_range.1 ha)]; simp
  have e3 : q k = false := by rw [hq]; simp
  have e4 : ((List.range d).map (k + 1 + ·)).filter p = ((List.range d).map (k + 1 + ·)).filter q := by
    apply List.filter_congr
    intro a ha
    simp only [List.mem_map, List.mem_range] at ha
    obtain ⟨b, _, rfl⟩ := ha
    rw [hq]
    have : (k + 1 + b != k) = true := by simp; omega
    rw [this]; simp
  rw [range_split, List.filter_append, List.filter_append, e1, e2, List.filter_cons_of_pos h1, List.filter_cons_of_neg (by rw [e3]; simp), e4]
  rfl
/-- A word that is not 0, and the word without its lowest one. -/
theorem low_bit (x : Nat) (h0 : x ≠ 0) (h : x < 18446744073709551616) :
    x.testBit (Lib.ctz 64 x) = true ∧ Lib.ctz 64 x < 64 ∧ (∀ j, j < Lib.ctz 64 x → x.testBit j = false) ∧ (∀ j, (x &&& (x - 1)).testBit j = (x.testBit j && j != Lib.ctz 64 x)) := by
  obtain ⟨m, hm, hk⟩ := Lib.ctzFrom_spec 64 x (by omega) h
  have e : Lib.ctz 64 x = Lib.ctzFrom 64 x := by simp [Lib.ctz, h0]
  rw [e]
  revert hm hk
  generalize Lib.ctzFrom 64 x = k
  intro hm hk
  have hp : 0 < 2 ^ k := Nat.two_pow_pos k
  have hx1 : x - 1 = 2 ^ k * (2 * m) + (2 ^ k - 1) := by
    rw [hm, Nat.mul_add, Nat.mul_one]; omega
  have tb : ∀ j, x.testBit j = if j < k then false else (2 * m + 1).testBit (j - k) := fun j => by
    have := Nat.testBit_two_pow_mul_add (2 * m + 1) (b := 0) (i := k) hp j
    rw [Nat.add_zero, ← hm] at this
    rw [this]; simp
  have tb1 : ∀ j, (x - 1).testBit j = if j < k then (2 ^ k - 1).testBit j else (2 * m).testBit (j - k) := fun j => by
    rw [hx1]; exact Nat.testBit_two_pow_mul_add (2 * m) (by omega) j
  refine ⟨?_, hk, fun j hj => by rw [tb, if_pos hj], fun j => ?_⟩
  · rw [tb, if_neg (by omega), Nat.sub_self]; simp [Nat.testBit_zero]
  · rw [Nat.testBit_and, tb, tb1]
    by_cases hj : j < k
    · simp [hj]
    · rw [if_neg hj, if_neg hj]
      by_cases he : j = k
      · subst he; simp [Nat.testBit_zero]
      · obtain ⟨i, rfl⟩ : ∃ i, j = k + (i + 1) := ⟨j - k - 1, by omega⟩
        have e3 : k + (i + 1) - k = i + 1 := by omega
        have d1 : (2 * m + 1) / 2 = m := by omega
        have d2 : (2 * m) / 2 = m := by omega
        rw [e3, Nat.testBit_succ, Nat.testBit_succ, d1, d2]
        have : (k + (i + 1) != k) = true := by simp
        rw [this]; simp
theorem bitsOf_step (x : Nat) (h0 : x ≠ 0) (h : x < 18446744073709551616) : bitsOf x = Lib.ctz 64 x :: bitsOf (x &&& (x - 1)) := by
  obtain ⟨h1, h2, h3, h4⟩ := low_bit x h0 h
  exact filter_first _ _ 64 _ h2 h1 h3 h4
theorem low_lt (x : Nat) (h0 : x ≠ 0) : x &&& (x - 1) < x := by
  have : x &&& (x - 1) ≤ x - 1 := Nat.and_le_right
  omega

theorem onesFrom_len0 (i : Nat) : onesFrom i [] = [] := rfl
theorem onesFrom_append (a b : List Nat) : ∀ i, onesFrom i (a ++ b) = onesFrom i a ++ onesFrom (i + a.length) b := by
  induction a with
  | nil => intro i; simp [onesFrom]
  | cons x r ih => intro i; rw [List.cons_append, onesFrom, onesFrom, ih, List.append_assoc, List.length_cons, show i + 1 + r.length = i + (r.length + 1) by omega]
theorem onesFrom_shift (ws : List Nat) : ∀ i k, onesFrom (k + i) ws = (onesFrom i ws).map (k * 64 + ·) := by
  induction ws with
  | nil => intro i k; rfl
  | cons x r ih =>
    intro i k
    rw [onesFrom, onesFrom, List.map_append, List.map_map, Nat.add_assoc k i 1, ih (i + 1) k]
    congr 1
    apply List.map_congr_left
    intro a _
    show (k + i) * 64 + a = k * 64 + (i * 64 + a)
    omega
theorem mem_onesFrom_range (ws : List Nat) : ∀ i n, n ∈ onesFrom i ws → i * 64 ≤ n ∧ n < (i + ws.length) * 64 := by
  induction ws with
  | nil => intro i n h; simp [onesFrom] at h
  | cons x r ih =>
    intro i n h
    rw [onesFrom, List.mem_append] at h
    rcases h with h | h
    · simp only [bitsOf, List.mem_map, List.mem_filter, List.mem_range] at h
      obtain ⟨a, ⟨ha, _⟩, rfl⟩ := h
      rw [List.length_cons]
      omega
    · have := ih (i + 1) n h
      rw [List.length_cons]
      omega
theorem mem_onesFrom (ws : List Nat) : ∀ i n, n ∈ onesFrom i ws ↔ i * 64 ≤ n ∧ has ws (n - i * 64) = true := by
  induction ws with
  | nil => intro i n; simp [onesFrom, has]
  | cons x r ih =>
    intro i n
    rw [onesFrom, List.mem_append, ih]
    simp only [bitsOf, List.mem_map, List.mem_filter, List.mem_range]
    constructor
    · rintro (⟨a, ⟨ha, hb⟩, rfl⟩ | ⟨h1, h2⟩)
      · refine ⟨by omega, ?_⟩
        have e1 : (i * 64 + a - i * 64) / 64 = 0 := by omega
        have e2 : (i * 64 + a - i * 64) % 64 = a := by omega
        simp only [has, e1, e2]
        simpa using hb
      · refine ⟨by omega, ?_⟩
        have e1 : (n - i * 64) / 64 = (n - (i + 1) * 64) / 64 + 1 := by omega
        have e2 : (n - i * 64) % 64 = (n - (i + 1) * 64) % 64 := by omega
        simp only [has, e1, e2, List.getElem?_cons_succ]
        exact h2
    · rintro ⟨h1, h2⟩
      by_cases hn : n - i * 64 < 64
      · left
        refine ⟨n - i * 64, ⟨hn, ?_⟩, by omega⟩
        have e1 : (n - i * 64) / 64 = 0 := by omega
        have e2 : (n - i * 64) % 64 = n - i * 64 := by omega
        simp only [has, e1, e2] at h2
        simpa using h2
      · right
        refine ⟨by omega, ?_⟩
        have e1 : (n - i * 64) / 64 = (n - (i + 1) * 64) / 64 + 1 := by omega
        have e2 : (n - i * 64) % 64 = (n - (i + 1) * 64) % 64 := by omega
        simp only [has, e1, e2, List.getElem?_cons_succ] at h2
        exact h2
theorem mem_numbers (ws : List Nat) (n : Nat) : n ∈ numbers ws ↔ has ws n = true := by
  unfold numbers
  rw [mem_onesFrom]
  simp
theorem sorted_bits (x : Nat) : (bitsOf x).Pairwise (· < ·) := List.Pairwise.filter _ List.pairwise_lt_range
theorem sorted_ones (ws : List Nat) : ∀ i, (onesFrom i ws).Pairwise (· < ·) := by
  induction ws with
  | nil => intro i; exact List.Pairwise.nil
  | cons x r ih =>
    intro i
    rw [onesFrom, List.pairwise_append]
    refine ⟨?_, ih _, fun a ha b hb => ?_⟩
    · rw [List.pairwise_map]
      exact (sorted_bits x).imp (fun h => by omega)
    · have := mem_onesFrom_range r (i + 1) b hb
      simp only [bitsOf, List.mem_map, List.mem_filter, List.mem_range] at ha
      obtain ⟨c, ⟨hc, _⟩, rfl⟩ := ha
      omega
theorem sorted_numbers (ws : List Nat) : (numbers ws).Pairwise (· < ·) := sorted_ones ws 0
/-- A rising list is what it has. -/
theorem sorted_ext {a b : List Nat} (ha : a.Pairwise (· < ·)) (hb : b.Pairwise (· < ·)) (h : ∀ n, n ∈ a ↔ n ∈ b) : a = b := by
  induction a generalizing b with
  | nil =>
    cases b with
    | nil => rfl
    | cons y s => exact absurd ((h y).2 (by simp)) (by simp)
  | cons x r ih =>
    cases b with
    | nil => exact absurd ((h x).1 (by simp)) (by simp)
    | cons y s =>
      rw [List.pairwise_cons] at ha hb
      have hxy : x = y := by
        have h1 : x ∈ y :: s := (h x).1 (by simp)
        have h2 : y ∈ x :: r := (h y).2 (by simp)
        rcases List.mem_cons.1 h1 with e | e
        · exact e
        · rcases List.mem_cons.1 h2 with e' | e'
          · exact e'.symm
          · have := hb.1 x e; have := ha.1 y e'; omega
      subst hxy
      rw [ih ha.2 hb.2 (fun n => ?_)]
      have := h n
      simp only [List.mem_cons] at this
      constructor
      · intro hn
        rcases this.1 (.inr hn) with e | e
        · have := ha.1 n hn; omega
        · exact e
      · intro hn
        rcases this.2 (.inr hn) with e | e
        · have := hb.1 n hn; omega
        · exact e
/-- The numbers are those below any bound beyond which there is none. -/
theorem numbers_filter (ws : List Nat) (b : Nat) (h : ∀ n, b ≤ n → has ws n = false) : numbers ws = (List.range b).filter (has ws) := by
  refine sorted_ext (sorted_numbers ws) (List.Pairwise.filter _ List.pairwise_lt_range) (fun n => ?_)
  rw [mem_numbers, List.mem_filter, List.mem_range]
  constructor
  · intro hn
    refine ⟨?_, hn⟩
    rcases Nat.lt_or_ge n b with h1 | h1
    · exact h1
    · rw [h n h1] at hn; cases hn
  · exact fun h => h.2
/-- The numbers from n on stand in the words from n's own on. -/
theorem tail_words (ws : List Nat) (n : Nat) : tailOf ws n = ((onesFrom 0 (ws.drop (min (n / 64) ws.length))).map (n / 64 * 64 + ·)).filter (fun j => decide (n ≤ j)) := by
  unfold tailOf numbers
  by_cases hq : n / 64 ≤ ws.length
  · rw [Nat.min_eq_left hq]
    conv => lhs; rw [← List.take_append_drop (n / 64) ws]
    rw [onesFrom_append, List.filter_append, Nat.zero_add, List.length_take, Nat.min_eq_left hq]
    have e1 : (onesFrom 0 (ws.take (n / 64))).filter (fun j => decide (n ≤ j)) = [] := by
      rw [List.filter_eq_nil_iff]
      intro a ha
      have := mem_onesFrom_range _ 0 a ha
      rw [List.length_take, Nat.min_eq_left hq] at this
      simp
      omega
    rw [e1, List.nil_append, ← onesFrom_shift, Nat.add_zero]
  · rw [Nat.min_eq_right (by omega), List.drop_length]
    simp only [onesFrom, List.map_nil, List.filter_nil]
    rw [List.filter_eq_nil_iff]
    intro a ha
    have := mem_onesFrom_range _ 0 a ha
    simp
    omega
theorem tail_zero (ws : List Nat) : tailOf ws 0 = numbers ws := by
  unfold tailOf; rw [List.filter_eq_self]; intro a _; simp

/-! One more, one fewer -/
theorem has_set (ws : List Nat) (k v n : Nat) (hk : k < ws.length) : has (ws.set k v) n = if n / 64 = k then v.testBit (n % 64) else has ws n := by
  unfold has
  rw [List.getElem?_set]
  by_cases h : n / 64 = k
  · simp [h, hk]
  · rw [if_neg h, if_neg (fun e => h e.symm)]
theorem testBit_pow (a j : Nat) : (2 ^ a).testBit j = decide (a = j) := Nat.testBit_two_pow
/-- Adding n. -/
theorem has_add (ws : List Nat) (n : Nat) (hn : n / 64 < ws.length) (m : Nat) :
    has (ws.set (n / 64) (ws[n / 64]?.getD 0 ||| 2 ^ (n % 64))) m = (has ws m || m == n) := by
  rw [has_set _ _ _ _ hn]
  by_cases h : m / 64 = n / 64
  · rw [if_pos h, Nat.testBit_or, testBit_pow]
    have e : has ws m = (ws[n / 64]?.getD 0).testBit (m % 64) := by unfold has; rw [h]
    rw [e]
    congr 1
    by_cases he : m = n
    · subst he; simp
    · have : ¬ n % 64 = m % 64 := by omega
      simp [this, he]
  · rw [if_neg h]
    have : (m == n) = false := by simp; intro e; exact h (by rw [e])
    rw [this, Bool.or_false]
/-- Dropping n. -/
theorem has_drop (ws : List Nat) (n v : Nat) (hn : n / 64 < ws.length) (hv : ∀ j, j < 64 → v.testBit j = ((ws[n / 64]?.getD 0).testBit j && j != n % 64)) (m : Nat) :
    has (ws.set (n / 64) v) m = (has ws m && m != n) := by
  rw [has_set _ _ _ _ hn]
  by_cases h : m / 64 = n / 64
  · rw [if_pos h, hv _ (by omega)]
    have e : has ws m = (ws[n / 64]?.getD 0).testBit (m % 64) := by unfold has; rw [h]
    rw [e]
    congr 1
    by_cases he : m = n
    · subst he; simp
    · have h2 : (m % 64 != n % 64) = true := by simp; omega
      have h3 : (m != n) = true := by simp; exact he
      rw [h2, h3]
  · rw [if_neg h]
    have : (m != n) = true := by simp; intro e; exact h (by rw [e])
    rw [this, Bool.and_true]
theorem has_none (k n : Nat) : has (List.replicate k 0) n = false := by
  unfold has
  rw [List.getElem?_replicate]
  split <;> simp
end Go.Proofs.YtgcclijdkcomiaaDoor
