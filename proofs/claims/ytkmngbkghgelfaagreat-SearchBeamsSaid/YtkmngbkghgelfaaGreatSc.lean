/- Several texts in one. -/
import Derived.Lib.TrailingZeros
import Derived.Test.YtkmngbkghgelfaaGreatProg
import Derived.Test.YtkmngbkghgelfaaGreatOw
import Derived.Shelf.Spec.TrailingZeros
import Derived.Deep.QuietTactic
import Derived.BigQuiet
import Derived.StillTailTactics
/- Mathematics of a set of numbers that stands in words of 64 bits: which numbers it has, in order; a word without its lowest bit; one more and one fewer. Of no program. -/
namespace Go.Proofs.YtkmngbkghgelfaaGreat
set_option linter.unusedVariables false

/-- Is a number in the set? -/
def has (ws : List Nat) (n : Nat) : Bool := (ws[n / 64]?.getD 0).testBit (n % 64)
/-- The places of the ones of a word, rising. -/
def bitsOf (x : Nat) : List Nat := (List.range 64).filter x.testBit
/-- The numbers of words that begin with word i. -/
def onesFrom : Nat → List Nat → List Nat
  | _, [] => []
  | i, x :: r => (bitsOf x).map (i * 64 + ·) ++ onesFrom (i + 1) r
/-- All numbers of a set, rising. -/
def numbers (ws : List Nat) : List Nat := onesFrom 0 ws
/-- Those from n on. -/
def tailOf (ws : List Nat) (n : Nat) : List Nat := (numbers ws).filter (fun j => decide (n ≤ j))

theorem bitsOf_zero : bitsOf 0 = [] := by
  unfold bitsOf; simp
theorem range_split (k d : Nat) : List.range (k + 1 + d) = List.range k ++ k :: (List.range d).map (k + 1 + ·) := by
  rw [List.range_add, List.range_succ, List.append_assoc]; rfl
theorem filter_first (p q : Nat → Bool) (n k : Nat) (hk : k < n) (h1 : p k = true) (h0 : ∀ j, j < k → p j = false) (hq : ∀ j, q j = (p j && j != k)) :
    (List.range n).filter p = k :: (List.range n).filter q := by
  obtain ⟨d, rfl⟩ : ∃ d, n = k + 1 + d := ⟨n - k - 1, by omega⟩
  have e1 : (List.range k).filter p = [] := by
    rw [List.filter_eq_nil_iff]; intro a ha; rw [h0 a (List.mem_range.1 ha)]; simp
  have e2 : (List.range k).filter q = [] := by
    rw [List.filter_eq_nil_iff]; intro a ha; rw [hq, h0 a (List.mem_range.1 ha)]; simp
  have e3 : q k = false := by rw [hq]; simp
  have e4 : ((List.range d).map (k + 1 + ·)).filter p = ((List.range d).map (k + 1 + ·)).filter q := by
    apply List.filter_congr
    intro a ha
    simp only [List.mem_map, List.mem_range] at ha
    obtain ⟨b, _, rfl⟩ := ha
    rw [hq]
    have : (k + 1 + b != k) = true := by simp; omega
    rw [this]; simp
  rw [range_split, List.filter_append, List.filter_append, e1, e2, List.filter_cons_of_pos h1, List.filter_cons_of_neg (by rw [e3]; simp), e4]
  rfl
/-- A word that is not 0, and the word without its lowest one. -/
theorem low_bit (x : Nat) (h0 : x ≠ 0) (h : x < 18446744073709551616) :
    x.testBit (Lib.ctz 64 x) = true ∧ Lib.ctz 64 x < 64 ∧ (∀ j, j < Lib.ctz 64 x → x.testBit j = false) ∧ (∀ j, (x &&& (x - 1)).testBit j = (x.testBit j && j != Lib.ctz 64 x)) := by
  obtain ⟨m, hm, hk⟩ := Lib.ctzFrom_spec 64 x (by omega) h
  have e : Lib.ctz 64 x = Lib.ctzFrom 64 x := by simp [Lib.ctz, h0]
  rw [e]
  revert hm hk
  generalize Lib.ctzFrom 64 x = k
  intro hm hk
  have hp : 0 < 2 ^ k := Nat.two_pow_pos k
  have hx1 : x - 1 = 2 ^ k * (2 * m) + (2 ^ k - 1) := by
    rw [hm, Nat.mul_add, Nat.mul_one]; omega
  have tb : ∀ j, x.testBit j = if j < k then false else (2 * m + 1).testBit (j - k) := fun j => by
    have := Nat.testBit_two_pow_mul_add (2 * m + 1) (b := 0) (i := k) hp j
    rw [Nat.add_zero, ← hm] at this
    rw [this]; simp
  have tb1 : ∀ j, (x - 1).testBit j = if j < k then (2 ^ k - 1).testBit j else (2 * m).testBit (j - k) := fun j => by
    rw [hx1]; exact Nat.testBit_two_pow_mul_add (2 * m) (by omega) j
  refine ⟨?_, hk, fun j hj => by rw [tb, if_pos hj], fun j => ?_⟩
  · rw [tb, if_neg (by omega), Nat.sub_self]; simp [Nat.testBit_zero]
  · rw [Nat.testBit_and, tb, tb1]
    by_cases hj : j < k
    · simp [hj]
    · rw [if_neg hj, if_neg hj]
      by_cases he : j = k
      · subst he; simp [Nat.testBit_zero]
      · obtain ⟨i, rfl⟩ : ∃ i, j = k + (i + 1) := ⟨j - k - 1, by omega⟩
        have e3 : k + (i + 1) - k = i + 1 := by omega
        have d1 : (2 * m + 1) / 2 = m := by omega
        have d2 : (2 * m) / 2 = m := by omega
        rw [e3, Nat.testBit_succ, Nat.testBit_succ, d1, d2]
        have : (k + (i + 1) != k) = true := by simp
        rw [this]; simp
theorem bitsOf_step (x : Nat) (h0 : x ≠ 0) (h : x < 18446744073709551616) : bitsOf x = Lib.ctz 64 x :: bitsOf (x &&& (x - 1)) := by
  obtain ⟨h1, h2, h3, h4⟩ := low_bit x h0 h
  exact filter_first _ _ 64 _ h2 h1 h3 h4
theorem low_lt (x : Nat) (h0 : x ≠ 0) : x &&& (x - 1) < x := by
  have : x &&& (x - 1) ≤ x - 1 := Nat.and_le_right
  omega

theorem onesFrom_len0 (i : Nat) : onesFrom i [] = [] := rfl
theorem onesFrom_append (a b : List Nat) : ∀ i, onesFrom i (a ++ b) = onesFrom i a ++ onesFrom (i + a.length) b := by
  induction a with
  | nil => intro i; simp [onesFrom]
  | cons x r ih => intro i; rw [List.cons_append, onesFrom, onesFrom, ih, List.append_assoc, List.length_cons, show i + 1 + r.length = i + (r.length + 1) by omega]
theorem onesFrom_shift (ws : List Nat) : ∀ i k, onesFrom (k + i) ws = (onesFrom i ws).map (k * 64 + ·) := by
  induction ws with
  | nil => intro i k; rfl
  | cons x r ih =>
    intro i k
    rw [onesFrom, onesFrom, List.map_append, List.map_map, Nat.add_assoc k i 1, ih (i + 1) k]
    congr 1
    apply List.map_congr_left
    intro a _
    show (k + i) * 64 + a = k * 64 + (i * 64 + a)
    omega
theorem mem_onesFrom_range (ws : List Nat) : ∀ i n, n ∈ onesFrom i ws → i * 64 ≤ n ∧ n < (i + ws.length) * 64 := by
  induction ws with
  | nil => intro i n h; simp [onesFrom] at h
  | cons x r ih =>
    intro i n h
    rw [onesFrom, List.mem_append] at h
    rcases h with h | h
    · simp only [bitsOf, List.mem_map, List.mem_filter, List.mem_range] at h
      obtain ⟨a, ⟨ha, _⟩, rfl⟩ := h
      rw [List.length_cons]
      omega
    · have := ih (i + 1) n h
      rw [List.length_cons]
      omega
theorem mem_onesFrom (ws : List Nat) : ∀ i n, n ∈ onesFrom i ws ↔ i * 64 ≤ n ∧ has ws (n - i * 64) = true := by
  induction ws with
  | nil => intro i n; simp [onesFrom, has]
  | cons x r ih =>
    intro i n
    rw [onesFrom, List.mem_append, ih]
    simp only [bitsOf, List.mem_map, List.mem_filter, List.mem_range]
    constructor
    · rintro (⟨a, ⟨ha, hb⟩, rfl⟩ | ⟨h1, h2⟩)
      · refine ⟨by omega, ?_⟩
        have e1 : (i * 64 + a - i * 64) / 64 = 0 := by omega
        have e2 : (i * 64 + a - i * 64) % 64 = a := by omega
        simp only [has, e1, e2]
        simpa using hb
      · refine ⟨by omega, ?_⟩
        have e1 : (n - i * 64) / 64 = (n - (i + 1) * 64) / 64 + 1 := by omega
        have e2 : (n - i * 64) % 64 = (n - (i + 1) * 64) % 64 := by omega
        simp only [has, e1, e2, List.getElem?_cons_succ]
        exact h2
    · rintro ⟨h1, h2⟩
      by_cases hn : n - i * 64 < 64
      · left
        refine ⟨n - i * 64, ⟨hn, ?_⟩, by omega⟩
        have e1 : (n - i * 64) / 64 = 0 := by omega
        have e2 : (n - i * 64) % 64 = n - i * 64 := by omega
        simp only [has, e1, e2] at h2
        simpa using h2
      · right
        refine ⟨by omega, ?_⟩
        have e1 : (n - i * 64) / 64 = (n - (i + 1) * 64) / 64 + 1 := by omega
        have e2 : (n - i * 64) % 64 = (n - (i + 1) * 64) % 64 := by omega
        simp only [has, e1, e2, List.getElem?_cons_succ] at h2
        exact h2
theorem mem_numbers (ws : List Nat) (n : Nat) : n ∈ numbers ws ↔ has ws n = true := by
  unfold numbers
  rw [mem_onesFrom]
  simp
theorem sorted_bits (x : Nat) : (bitsOf x).Pairwise (· < ·) := List.Pairwise.filter _ List.pairwise_lt_range
theorem sorted_ones (ws : List Nat) : ∀ i, (onesFrom i ws).Pairwise (· < ·) := by
  induction ws with
  | nil => intro i; exact List.Pairwise.nil
  | cons x r ih =>
    intro i
    rw [onesFrom, List.pairwise_append]
    refine ⟨?_, ih _, fun a ha b hb => ?_⟩
    · rw [List.pairwise_map]
      exact (sorted_bits x).imp (fun h => by omega)
    · have := mem_onesFrom_range r (i + 1) b hb
      simp only [bitsOf, List.mem_map, List.mem_filter, List.mem_range] at ha
      obtain ⟨c, ⟨hc, _⟩, rfl⟩ := ha
      omega
theorem sorted_numbers (ws : List Nat) : (numbers ws).Pairwise (· < ·) := sorted_ones ws 0
/-- A rising list is what it has. -/
theorem sorted_ext {a b : List Nat} (ha : a.Pairwise (· < ·)) (hb : b.Pairwise (· < ·)) (h : ∀ n, n ∈ a ↔ n ∈ b) : a = b := by
  induction a generalizing b with
  | nil =>
    cases b with
    | nil => rfl
    | cons y s => exact absurd ((h y).2 (by simp)) (by simp)
  | cons x r ih =>
    cases b with
    | nil => exact absurd ((h x).1 (by simp)) (by simp)
    | cons y s =>
      rw [List.pairwise_cons] at ha hb
      have hxy : x = y := by
        have h1 : x ∈ y :: s := (h x).1 (by simp)
        have h2 : y ∈ x :: r := (h y).2 (by simp)
        rcases List.mem_cons.1 h1 with e | e
        · exact e
        · rcases List.mem_cons.1 h2 with e' | e'
          · exact e'.symm
          · have := hb.1 x e; have := ha.1 y e'; omega
      subst hxy
      rw [ih ha.2 hb.2 (fun n => ?_)]
      have := h n
      simp only [List.mem_cons] at this
      constructor
      · intro hn
        rcases this.1 (.inr hn) with e | e
        · have := ha.1 n hn; omega
        · exact e
      · intro hn
        rcases this.2 (.inr hn) with e | e
        · have := hb.1 n hn; omega
        · exact e
/-- The numbers are those below any bound beyond which there is none. -/
theorem numbers_filter (ws : List Nat) (b : Nat) (h : ∀ n, b ≤ n → has ws n = false) : numbers ws = (List.range b).filter (has ws) := by
  refine sorted_ext (sorted_numbers ws) (List.Pairwise.filter _ List.pairwise_lt_range) (fun n => ?_)
  rw [mem_numbers, List.mem_filter, List.mem_range]
  constructor
  · intro hn
    refine ⟨?_, hn⟩
    rcases Nat.lt_or_ge n b with h1 | h1
    · exact h1
    · rw [h n h1] at hn; cases hn
  · exact fun h => h.2
/-- The numbers from n on stand in the words from n's own on. -/
theorem tail_words (ws : List Nat) (n : Nat) : tailOf ws n = ((onesFrom 0 (ws.drop (min (n / 64) ws.length))).map (n / 64 * 64 + ·)).filter (fun j => decide (n ≤ j)) := by
  unfold tailOf numbers
  by_cases hq : n / 64 ≤ ws.length
  · rw [Nat.min_eq_left hq]
    conv => lhs; rw [← List.take_append_drop (n / 64) ws]
    rw [onesFrom_append, List.filter_append, Nat.zero_add, List.length_take, Nat.min_eq_left hq]
    have e1 : (onesFrom 0 (ws.take (n / 64))).filter (fun j => decide (n ≤ j)) = [] := by
      rw [List.filter_eq_nil_iff]
      intro a ha
      have := mem_onesFrom_range _ 0 a ha
      rw [List.length_take, Nat.min_eq_left hq] at this
      simp
      omega
    rw [e1, List.nil_append, ← onesFrom_shift, Nat.add_zero]
  · rw [Nat.min_eq_right (by omega), List.drop_length]
    simp only [onesFrom, List.map_nil, List.filter_nil]
    rw [List.filter_eq_nil_iff]
    intro a ha
    have := mem_onesFrom_range _ 0 a ha
    simp
    omega
theorem tail_zero (ws : List Nat) : tailOf ws 0 = numbers ws := by
  unfold tailOf; rw [List.filter_eq_self]; intro a _; simp

/-! One more, one fewer -/
theorem has_set (ws : List Nat) (k v n : Nat) (hk : k < ws.length) : has (ws.set k v) n = if n / 64 = k then v.testBit (n % 64) else has ws n := by
  unfold has
  rw [List.getElem?_set]
  by_cases h : n / 64 = k
  · simp [h, hk]
  · rw [if_neg h, if_neg (fun e => h e.symm)]
theorem testBit_pow (a j : Nat) : (2 ^ a).testBit j = decide (a = j) := Nat.testBit_two_pow
/-- Adding n. -/
theorem has_add (ws : List Nat) (n : Nat) (hn : n / 64 < ws.length) (m : Nat) :
    has (ws.set (n / 64) (ws[n / 64]?.getD 0 ||| 2 ^ (n % 64))) m = (has ws m || m == n) := by
  rw [has_set _ _ _ _ hn]
  by_cases h : m / 64 = n / 64
  · rw [if_pos h, Nat.testBit_or, testBit_pow]
    have e : has ws m = (ws[n / 64]?.getD 0).testBit (m % 64) := by unfold has; rw [h]
    rw [e]
    congr 1
    by_cases he : m = n
    · subst he; simp
    · have : ¬ n % 64 = m % 64 := by omega
      simp [this, he]
  · rw [if_neg h]
    have : (m == n) = false := by simp; intro e; exact h (by rw [e])
    rw [this, Bool.or_false]
/-- Dropping n. -/
theorem has_drop (ws : List Nat) (n v : Nat) (hn : n / 64 < ws.length) (hv : ∀ j, j < 64 → v.testBit j = ((ws[n / 64]?.getD 0).testBit j && j != n % 64)) (m : Nat) :
    has (ws.set (n / 64) v) m = (has ws m && m != n) := by
  rw [has_set _ _ _ _ hn]
  by_cases h : m / 64 = n / 64
  · rw [if_pos h, hv _ (by omega)]
    have e : has ws m = (ws[n / 64]?.getD 0).testBit (m % 64) := by unfold has; rw [h]
    rw [e]
    congr 1
    by_cases he : m = n
    · subst he; simp
    · have h2 : (m % 64 != n % 64) = true := by simp; omega
      have h3 : (m != n) = true := by simp; exact he
      rw [h2, h3]
  · rw [if_neg h]
    have : (m != n) = true := by simp; intro e; exact h (by rw [e])
    rw [this, Bool.and_true]
theorem has_none (k n : Nat) : has (List.replicate k 0) n = false := by
  unfold has
  rw [List.getElem?_replicate]
  split <;> simp
end Go.Proofs.YtkmngbkghgelfaaGreat
/- Mathematics of the count of a word's ones, as math/bits.OnesCount64 reckons it: by pairs, by fours, by bytes, then all bytes together. Of no program. -/
namespace Go.Proofs.YtkmngbkghgelfaaGreat
set_option linter.unusedVariables false

/-- A number of its bytes, the lowest first. -/
def val : List Nat → Nat
  | [] => 0
  | b :: r => val r * 256 + b
/-- The bytes of a number. -/
def bytesOf : Nat → Nat → List Nat
  | 0, _ => []
  | n + 1, x => x % 256 :: bytesOf n (x / 256)
theorem val_bytes : ∀ n x, x < 256 ^ n → val (bytesOf n x) = x
  | 0, x, h => by simp at h; subst h; rfl
  | n + 1, x, h => by
    rw [bytesOf, val, val_bytes n (x / 256) (by rw [Nat.pow_succ] at h; omega)]
    omega
theorem bytes_lt : ∀ n x, ∀ b ∈ bytesOf n x, b < 256
  | 0, x, b, h => by simp [bytesOf] at h
  | n + 1, x, b, h => by
    rw [bytesOf, List.mem_cons] at h
    rcases h with rfl | h
    · omega
    · exact bytes_lt n _ b h
/-- The same byte, so often. -/
def rep (m : Nat) (l : List Nat) : Nat := val (l.map fun _ => m)

theorem and_split (a b c d : Nat) (hb : b < 256) (hd : d < 256) : (a * 256 + b) &&& (c * 256 + d) = (a &&& c) * 256 + (b &&& d) := by
  apply Nat.eq_of_testBit_eq
  intro j
  have hbd : b &&& d < 256 := by have : b &&& d ≤ b := Nat.and_le_left; omega
  rw [Nat.testBit_and, Nat.mul_comm a, Nat.mul_comm c, Nat.mul_comm (a &&& c), show (256 : Nat) = 2 ^ 8 by rfl,
    Nat.testBit_two_pow_mul_add a hb, Nat.testBit_two_pow_mul_add c hd, Nat.testBit_two_pow_mul_add (a &&& c) hbd]
  split
  · rw [Nat.testBit_and]
  · rw [Nat.testBit_and]

def pa (b : Nat) : Nat := (b / 2 &&& 85) + (b &&& 85)
def pb (b : Nat) : Nat := (b / 4 &&& 51) + (b &&& 51)
def pc (b : Nat) : Nat := (b / 16 + b) &&& 15
theorem pa_half : ∀ r, r < 2 → ∀ b, b < 256 → (r * 128 + b / 2) &&& 85 = b / 2 &&& 85 := by decide +kernel
theorem pb_half : ∀ r, r < 4 → ∀ b, b < 256 → (r * 64 + b / 4) &&& 51 = b / 4 &&& 51 := by decide +kernel
theorem pa_lt : ∀ b, b < 256 → pa b < 256 := by decide +kernel
theorem pb_lt : ∀ b, b < 256 → pb b < 256 := by decide +kernel
/-- By pairs. -/
theorem step_a : ∀ l : List Nat, (∀ b ∈ l, b < 256) → (val l / 2 &&& rep 85 l) + (val l &&& rep 85 l) = val (l.map pa)
  | [], _ => by decide
  | b :: r, h => by
    have ih := step_a r (fun c hc => h c (List.mem_cons_of_mem _ hc))
    have hb := h b (by simp)
    have e : (val r * 256 + b) / 2 = val r / 2 * 256 + (val r % 2 * 128 + b / 2) := by omega
    show ((val r * 256 + b) / 2 &&& (rep 85 r * 256 + 85)) + ((val r * 256 + b) &&& (rep 85 r * 256 + 85)) = val (r.map pa) * 256 + pa b
    rw [e, and_split _ _ _ _ (by omega) (by omega), and_split _ _ _ _ hb (by omega), pa_half _ (by omega) _ hb, ← ih]
    unfold pa
    omega
/-- By fours. -/
theorem step_b : ∀ l : List Nat, (∀ b ∈ l, b < 256) → (val l / 4 &&& rep 51 l) + (val l &&& rep 51 l) = val (l.map pb)
  | [], _ => by decide
  | b :: r, h => by
    have ih := step_b r (fun c hc => h c (List.mem_cons_of_mem _ hc))
    have hb := h b (by simp)
    have e : (val r * 256 + b) / 4 = val r / 4 * 256 + (val r % 4 * 64 + b / 4) := by omega
    show ((val r * 256 + b) / 4 &&& (rep 51 r * 256 + 51)) + ((val r * 256 + b) &&& (rep 51 r * 256 + 51)) = val (r.map pb) * 256 + pb b
    rw [e, and_split _ _ _ _ (by omega) (by omega), and_split _ _ _ _ hb (by omega), pb_half _ (by omega) _ hb, ← ih]
    unfold pb
    omega
theorem pc_half : ∀ r, r < 5 → ∀ b, b < 69 → (r * 16 + b / 16 + b) &&& 15 = pc b := by decide +kernel
/-- By bytes. -/
theorem step_c : ∀ l : List Nat, (∀ b ∈ l, b < 69 ∧ b % 16 < 5) → (val l / 16 + val l) &&& rep 15 l = val (l.map pc) ∧ val l % 16 < 5
  | [], _ => by decide
  | b :: r, h => by
    obtain ⟨ih, ih2⟩ := step_c r (fun c hc => h c (List.mem_cons_of_mem _ hc))
    obtain ⟨hb, hb2⟩ := h b (by simp)
    have e : (val r * 256 + b) / 16 + (val r * 256 + b) = (val r / 16 + val r) * 256 + (val r % 16 * 16 + b / 16 + b) := by omega
    refine ⟨?_, by show (val r * 256 + b) % 16 < 5; omega⟩
    show ((val r * 256 + b) / 16 + (val r * 256 + b)) &&& (rep 15 r * 256 + 15) = val (r.map pc) * 256 + pc b
    rw [e, and_split _ _ _ _ (by omega) (by omega), ih, pc_half _ (by omega) _ hb]
/-- The ones below place n. -/
def cnt (p : Nat → Bool) (n : Nat) : Nat := ((List.range n).filter p).length
theorem cnt_add (p : Nat → Bool) (a b : Nat) : cnt p (a + b) = cnt p a + cnt (fun j => p (a + j)) b := by
  unfold cnt
  rw [List.range_add, List.filter_append, List.length_append, List.filter_map, List.length_map]
  rfl
theorem byte_ok : ∀ b, b < 256 → pc (pb (pa b)) = cnt b.testBit 8 ∧ pb (pa b) < 69 ∧ pb (pa b) % 16 < 5 ∧ pa b < 256 := by decide +kernel
theorem cnt_val : ∀ l : List Nat, (∀ b ∈ l, b < 256) → cnt (val l).testBit (8 * l.length) = (l.map fun b => cnt b.testBit 8).sum
  | [], _ => by decide
  | b :: r, h => by
    have ih := cnt_val r (fun c hc => h c (List.mem_cons_of_mem _ hc))
    have hb := h b (by simp)
    rw [List.length_cons, show 8 * (r.length + 1) = 8 + 8 * r.length by omega, cnt_add, List.map_cons, List.sum_cons, ← ih]
    have tb : ∀ j, (val (b :: r)).testBit j = if j < 8 then b.testBit j else (val r).testBit (j - 8) := fun j => by
      show (val r * 256 + b).testBit j = _
      rw [Nat.mul_comm, show (256 : Nat) = 2 ^ 8 by rfl, Nat.testBit_two_pow_mul_add (val r) hb]
    congr 1
    · unfold cnt
      congr 1
      apply List.filter_congr
      intro j hj
      rw [tb, if_pos (List.mem_range.1 hj)]
    · unfold cnt
      congr 1
      apply List.filter_congr
      intro j _
      rw [tb, if_neg (by omega), show 8 + j - 8 = j by omega]
set_option maxRecDepth 100000 in
/-- All bytes together. -/
theorem step_d (a b c d e f g h : Nat) (ha : a ≤ 8) (hb : b ≤ 8) (hc : c ≤ 8) (hd : d ≤ 8) (he : e ≤ 8) (hf : f ≤ 8) (hg : g ≤ 8) (hh : h ≤ 8) (x y z : Nat)
    (hx : x = val [a, b, c, d, e, f, g, h] + val [a, b, c, d, e, f, g, h] / 256) (hy : y = x + x / 65536) (hz : z = y + y / 4294967296) :
    x < 18446744073709551616 ∧ y < 18446744073709551616 ∧ z < 9223372036854775808 ∧ z % 128 = a + b + c + d + e + f + g + h := by
  simp only [val] at hx
  have hx2 : x = h * 72057594037927936 + (g + h) * 281474976710656 + (f + g) * 1099511627776 + (e + f) * 4294967296 + (d + e) * 16777216 + (c + d) * 65536 + (b + c) * 256 + (a + b) := by omega
  clear hx
  have hy2 : y = h * 72057594037927936 + (g + h) * 281474976710656 + (f + g + h) * 1099511627776 + (e + f + g + h) * 4294967296 + (d + e + f + g) * 16777216 + (c + d + e + f) * 65536 + (b + c + d + e) * 256 + (a + b + c + d) := by omega
  have hx3 : x < 18446744073709551616 := by omega
  clear hy hx2
  have hz2 : z = h * 72057594037927936 + (g + h) * 281474976710656 + (f + g + h) * 1099511627776 + (e + f + g + h) * 4294967296 + (d + e + f + g + h) * 16777216 + (c + d + e + f + g + h) * 65536 + (b + c + d + e + f + g + h) * 256 + (a + b + c + d + e + f + g + h) := by omega
  refine ⟨hx3, by omega, by omega, by omega⟩
/-- How many ones a word has, as it is reckoned. -/
theorem ones_ok (x : Nat) (hx : x < 18446744073709551616) :
    ∃ x1 x2 x3 x4 x5 x6 : Nat, (x / 2 &&& 6148914691236517205) + (x &&& 6148914691236517205) = x1 ∧ (x1 / 4 &&& 3689348814741910323) + (x1 &&& 3689348814741910323) = x2 ∧
      (x2 / 16 + x2) &&& 1085102592571150095 = x3 ∧ x3 + x3 / 256 = x4 ∧ x4 + x4 / 65536 = x5 ∧ x5 + x5 / 4294967296 = x6 ∧ x6 % 128 = (bitsOf x).length ∧
      x1 < 18446744073709551616 ∧ x2 < 18446744073709551616 ∧ x2 / 16 + x2 < 18446744073709551616 ∧ x3 < 18446744073709551616 ∧ x4 < 18446744073709551616 ∧ x5 < 18446744073709551616 ∧ x6 < 9223372036854775808 := by
  have hv := val_bytes 8 x hx
  have hl := bytes_lt 8 x
  have hc := cnt_val (bytesOf 8 x) hl
  rw [hv, show 8 * (bytesOf 8 x).length = 64 by rfl] at hc
  obtain ⟨b0, b1, b2, b3, b4, b5, b6, b7, hB⟩ : ∃ b0 b1 b2 b3 b4 b5 b6 b7, bytesOf 8 x = [b0, b1, b2, b3, b4, b5, b6, b7] := ⟨_, _, _, _, _, _, _, _, rfl⟩
  rw [hB] at hv hl hc
  clear hB
  have o0 := byte_ok b0 (hl _ (by simp))
  have o1 := byte_ok b1 (hl _ (by simp))
  have o2 := byte_ok b2 (hl _ (by simp))
  have o3 := byte_ok b3 (hl _ (by simp))
  have o4 := byte_ok b4 (hl _ (by simp))
  have o5 := byte_ok b5 (hl _ (by simp))
  have o6 := byte_ok b6 (hl _ (by simp))
  have o7 := byte_ok b7 (hl _ (by simp))
  have sa := step_a _ hl
  have sb := step_b ([b0, b1, b2, b3, b4, b5, b6, b7].map pa) (by simp; omega)
  have sc := (step_c (([b0, b1, b2, b3, b4, b5, b6, b7].map pa).map pb) (by simp; omega)).1
  have r1 : rep 85 [b0, b1, b2, b3, b4, b5, b6, b7] = 6148914691236517205 := by simp [rep, val]
  have r2 : rep 51 ([b0, b1, b2, b3, b4, b5, b6, b7].map pa) = 3689348814741910323 := by simp [rep, val]
  have r3 : rep 15 (([b0, b1, b2, b3, b4, b5, b6, b7].map pa).map pb) = 1085102592571150095 := by simp [rep, val]
  rw [r1, hv] at sa
  rw [r2] at sb
  rw [r3] at sc
  simp only [List.map_cons, List.map_nil] at sa sb sc hc
  simp only [List.sum_cons, List.sum_nil] at hc
  have c8 : ∀ p : Nat → Bool, cnt p 8 ≤ 8 := fun p => by unfold cnt; exact Nat.le_trans (List.length_filter_le _ _) (by simp)
  rw [o0.1, o1.1, o2.1, o3.1, o4.1, o5.1, o6.1, o7.1] at sc
  have sd := step_d _ _ _ _ _ _ _ _ (c8 b0.testBit) (c8 b1.testBit) (c8 b2.testBit) (c8 b3.testBit) (c8 b4.testBit) (c8 b5.testBit) (c8 b6.testBit) (c8 b7.testBit) _ _ _ rfl rfl rfl
  have hv1 : val [pa b0, pa b1, pa b2, pa b3, pa b4, pa b5, pa b6, pa b7] < 18446744073709551616 := by simp only [val]; omega
  have hv2 : val [pb (pa b0), pb (pa b1), pb (pa b2), pb (pa b3), pb (pa b4), pb (pa b5), pb (pa b6), pb (pa b7)] < 18446744073709551616 / 2 := by simp only [val]; omega
  have hv3 := c8 b0.testBit
  refine ⟨_, _, _, _, _, _, sa, sb, sc, rfl, rfl, rfl, ?_, hv1, by omega, by omega, ?_, sd.1, sd.2.1, sd.2.2.1⟩
  · rw [sd.2.2.2]
    show _ = cnt x.testBit 64
    omega
  · have := sd.1; omega
end Go.Proofs.YtkmngbkghgelfaaGreat
/- The walks of math/bits.TrailingZeros64 and OnesCount64, and of the small functions of package sets: takes, bit, wordsFrom. -/
namespace Go.Proofs.YtkmngbkghgelfaaGreat
open Go.RowKit
set_option linter.unusedVariables false

/-- The table of math/bits stands in its variable. -/
def Tab (w : World) : Prop := ∀ j, j < 64 → w.cell? ⟨0, j, none⟩ = some (.int .u8 ((Lib.deBruijn64tab.getD j 0 : Nat) : Int))
theorem Tab.below {B : Nat} {w w' : World} (h : Tab w) (hb : Below B w w') (hB : 0 < B) : Tab w' := fun j hj => (hb.cell (p := ⟨0, j, none⟩) hB).trans (h j hj)
theorem Tab.turn {F : List Nat} {w w' : World} (h : Tab w) (hb : Turn F w w') (h0 : 0 < w.heap.size) (hF : 0 ∉ F) : Tab w' := fun j hj => (hb.cell (p := ⟨0, j, none⟩) h0 hF).trans (h j hj)
theorem Tab.pos {w : World} (h : Tab w) : 0 < w.heap.size := by
  have := h 0 (by omega)
  rcases Nat.eq_zero_or_pos w.heap.size with h0 | h0
  · simp [World.cell?, h0] at this
  · exact h0

theorem i64_and_127 (a : Nat) (ha : a < 9223372036854775808) : bits .and .i64 (a : Int) 127 = ((a % 128 : Nat) : Int) := by
  have h1 : (BitVec.ofInt 64 (a : Int)).toNat = a := by
    rw [BitVec.ofInt_natCast, BitVec.toNat_ofNat]; exact Nat.mod_eq_of_lt (by omega)
  have h2 : (BitVec.ofInt 64 (127 : Int)).toNat = 127 := by decide
  have h3 : a &&& 127 = a % 128 := Nat.and_two_pow_sub_one_eq_mod a 7
  show IntKind.i64.wrap ((BitVec.ofInt 64 (a : Int) &&& BitVec.ofInt 64 (127 : Int)).toNat : Int) = _
  rw [BitVec.toNat_and, h1, h2, h3]
  simp [IntKind.wrap, IntKind.bits, IntKind.signed]
  omega
theorem wrap_small (n : Nat) (h : n < 18446744073709551616) : IntKind.u64.wrap (n : Int) = (n : Int) := by rw [IntKind.wrap_u64]; omega
theorem wrap_div (a d c : Nat) (h : a + a / d = c) (hc : c < 18446744073709551616) : IntKind.u64.wrap ((a : Int) + (a : Int) / (d : Int)) = (c : Int) := by
  rw [← Int.natCast_ediv, ← Int.natCast_add, h]
  exact wrap_small c hc
theorem wrap_ands (a d m c : Nat) (ha : a < 18446744073709551616) (hm : m < 18446744073709551616) (h : (a / d &&& m) + (a &&& m) = c) (hc : c < 18446744073709551616) :
    IntKind.u64.wrap (bits BinOp.and IntKind.u64 ((a : Int) / (d : Int)) (m : Int) + bits BinOp.and IntKind.u64 (a : Int) (m : Int)) = (c : Int) := by
  have hd : a / d < 18446744073709551616 := Nat.lt_of_le_of_lt (Nat.div_le_self _ _) ha
  rw [← Int.natCast_ediv, bits_and_u64_nat _ _ hd hm, bits_and_u64_nat _ _ ha hm, ← Int.natCast_add, h]
  exact wrap_small c hc
theorem and_sum (a d m c : Nat) (hm : m < 18446744073709551616) (h : (a / d + a) &&& m = c) (ha : a / d + a < 18446744073709551616) :
    bits BinOp.and IntKind.u64 ((a : Int) / (d : Int) + (a : Int)) (m : Int) = (c : Int) := by
  rw [← Int.natCast_ediv, ← Int.natCast_add, bits_and_u64_nat _ _ ha hm, h]
theorem wrap64_small (n : Nat) (h : n < 9223372036854775808) : wrap64 (n : Int) = (n : Int) := by simp [wrap64]; omega
set_option maxHeartbeats 1000000 in
/-- How many ones a word has. -/
theorem ones_any (x : Nat) (hx : x < 18446744073709551616) (w : World) :
    Calls Tryz.prog 171 #[.int .u64 x] w fun e w' => e = .returned (.int .i64 ((bitsOf x).length : Nat)) ∧ w = w' := by
  obtain ⟨x1, x2, x3, x4, x5, x6, h1, h2, h3, h4, h5, h6, h7, g1, g2, g3, g4, g5, g6, g7⟩ := ones_ok x hx
  have E1 : IntKind.u64.wrap (bits BinOp.and IntKind.u64 ((x : Int) / 2) 6148914691236517205 + bits BinOp.and IntKind.u64 (x : Int) 6148914691236517205) = (x1 : Int) := wrap_ands x 2 6148914691236517205 x1 hx (by decide) h1 g1
  have E2 : IntKind.u64.wrap (bits BinOp.and IntKind.u64 ((x1 : Int) / 4) 3689348814741910323 + bits BinOp.and IntKind.u64 (x1 : Int) 3689348814741910323) = (x2 : Int) := wrap_ands x1 4 3689348814741910323 x2 g1 (by decide) h2 g2
  have E3 : bits BinOp.and IntKind.u64 ((x2 : Int) / 16 + (x2 : Int)) 1085102592571150095 = (x3 : Int) := and_sum x2 16 1085102592571150095 x3 (by decide) h3 g3
  have E4 : IntKind.u64.wrap ((x3 : Int) + (x3 : Int) / 256) = (x4 : Int) := wrap_div x3 256 x4 h4 g5
  have E5 : IntKind.u64.wrap ((x4 : Int) + (x4 : Int) / 65536) = (x5 : Int) := wrap_div x4 65536 x5 h5 g6
  have E6 : IntKind.u64.wrap ((x5 : Int) + (x5 : Int) / 4294967296) = (x6 : Int) := wrap_div x5 4294967296 x6 h6 (Nat.lt_trans g7 (by decide))
  have E7 := wrap64_small x6 g7
  have E8 := i64_and_127 x6 g7
  rw [h7] at E8
  clear h1 h2 h3 h4 h5 h6 h7
  have G1 : (x1 : Int) ≤ 18446744073709551615 := by omega
  have G2 : (x2 : Int) / 16 + (x2 : Int) ≤ 18446744073709551615 := by omega
  clear g1 g2 g3 g4 g5 g6 g7
  go_enter Tryz.func171, Tryz.ntmps171
  go_wp2
  go_ret
  refine ⟨?_, rfl⟩
  simp only [E7]
  rfl
end Go.Proofs.YtkmngbkghgelfaaGreat
/- A set in memory, as it is read; the walks of takes, bit, Has and wordsFrom. -/
namespace Go.Proofs.YtkmngbkghgelfaaGreat
open Go.RowKit
set_option linter.unusedVariables false

/-- What is asked of a set's words. -/
structure Words (bound : Nat) (ws : List Nat) : Prop where
  len : ws.length = (bound + 63) / 64
  le : bound ≤ 2048
  lt : ∀ x ∈ ws, x < 18446744073709551616
  top : ∀ n, bound ≤ n → has ws n = false
/-- A set in block b, as it is read: the slice of words at A, the bound. -/
structure SetR (w : World) (b : Nat) (A : Option Addr) (bound : Nat) (ws : List Nat) : Prop where
  c0 : w.cell? ⟨b, 0, none⟩ = some (.slice A ws.length ws.length)
  c1 : w.cell? ⟨b, 1, none⟩ = some (.int .i64 bound)
  rd : Rd .u64 w w.heap.size A (ws.map Int.ofNat)
  ok : Words bound ws
theorem cell_lt {w : World} {b o : Nat} {v : Value} (h : w.cell? ⟨b, o, none⟩ = some v) : b < w.heap.size := by
  rcases Nat.lt_or_ge b w.heap.size with h1 | h1
  · exact h1
  · simp [World.cell?, Array.getElem?_eq_none h1] at h
theorem SetR.below {w w' : World} {b : Nat} {A : Option Addr} {bound : Nat} {ws : List Nat} (h : SetR w b A bound ws) (k : Below w.heap.size w w') : SetR w' b A bound ws :=
  ⟨(k.cell (p := ⟨b, 0, none⟩) (cell_lt h.c0)).trans h.c0, (k.cell (p := ⟨b, 1, none⟩) (cell_lt h.c0)).trans h.c1, (h.rd.below k).more k.size, h.ok⟩
theorem word_at {ws : List Nat} {k : Nat} (hk : k < ws.length) : (ws.map Int.ofNat)[k]?.getD 0 = ((ws[k]?.getD 0 : Nat) : Int) := by
  rw [List.getElem?_map, List.getElem?_eq_getElem hk]; rfl
theorem word_lt {bound : Nat} {ws : List Nat} (h : Words bound ws) {k : Nat} (hk : k < ws.length) : ws[k]?.getD 0 < 18446744073709551616 := by
  rw [List.getElem?_eq_getElem hk]; exact h.lt _ (List.getElem_mem hk)
/-- May n be in the set? -/
def inB (bound : Nat) (n : Int) : Bool := decide (0 ≤ n) && decide (n < (bound : Int))
set_option maxHeartbeats 400000 in
theorem takes_any (b : Nat) (bound : Nat) (n : Int) (w : World) (hc : w.cell? ⟨b, 1, none⟩ = some (.int .i64 bound)) :
    Calls Tryz.prog 120 #[.pointer (some ⟨b, 0, none⟩), .int .i64 n] w fun e w' => e = .returned (.bool (inB bound n)) ∧ w = w' := by
  by_cases h0 : 0 ≤ n
  · by_cases h1 : n < (bound : Int)
    · have e : inB bound n = true := by simp [inB, h0, h1]
      rw [e]
      clear e
      go_enter Tryz.func120, Tryz.ntmps120
      go_wp2
      go_ret
      exact ⟨rfl, rfl⟩
    · have e : inB bound n = false := by simp [inB]; omega
      rw [e]
      clear e
      have h1' : decide (n < (bound : Int)) = false := by simpa using h1
      go_enter Tryz.func120, Tryz.ntmps120
      go_wp2
      go_ret
      exact ⟨rfl, rfl⟩
  · have e : inB bound n = false := by simp [inB]; omega
    rw [e]
    clear e
    have h0' : decide (0 ≤ n) = false := by simpa using h0
    go_enter Tryz.func120, Tryz.ntmps120
    go_wp2
    go_ret
    exact ⟨rfl, rfl⟩
theorem takes_none (n : Int) (w : World) :
    Calls Tryz.prog 120 #[.pointer none, .int .i64 n] w fun e w' => e = .returned (.bool false) ∧ w = w' := by
  go_enter Tryz.func120, Tryz.ntmps120
  go_wp2
  go_ret
  exact ⟨rfl, rfl⟩
theorem bit_any (n : Nat) (hn : n ≤ 9223372036854775807) (w : World) :
    Calls Tryz.prog 122 #[.int .i64 n] w fun e w' => e = .returned (.int .u64 ((2 ^ (n % 64) : Nat) : Int)) ∧ w = w' := by
  go_enter Tryz.func122, Tryz.ntmps122
  go_wp2
  go_ret
  refine ⟨?_, rfl⟩
  have hp : 2 ^ (n % 64) < 18446744073709551616 := Nat.pow_lt_pow_right (n := 64) (by decide) (by omega)
  have := wrap_small (2 ^ (n % 64)) hp
  simp only [Int.natCast_pow] at this ⊢
  exact congrArg (fun z => Ending.returned (Value.int IntKind.u64 z)) this
theorem and_pow (a k : Nat) : a &&& 2 ^ k = if a.testBit k then 2 ^ k else 0 := by
  apply Nat.eq_of_testBit_eq
  intro j
  rw [Nat.testBit_and, Nat.testBit_two_pow]
  by_cases h : k = j
  · subst h
    cases hb : a.testBit k <;> simp
  · cases hb : a.testBit k <;> simp [h]
theorem quiet_any {P : Program} {f : FuncId} {args : Array Value} {w : World} {v : Value} (H : ∀ m, Calls P f args (w.drewN m) fun e w' => e = .returned v ∧ w.drewN m = w') (n : Nat) :
    Calls P f args (w.drewN n) fun e w'' => e = .returned v ∧ ∃ m, w'' = w.drewN m := (H n).mono fun _ _ ⟨he, hm⟩ => ⟨he, n, hm.symm⟩
/-- Is n one of the numbers of the set? -/
def hasI (bound : Nat) (ws : List Nat) (n : Int) : Bool := inB bound n && has ws n.toNat
set_option maxHeartbeats 1000000 in
theorem has_no (b : Nat) (bound : Nat) (n : Int) (w : World) (hc : w.cell? ⟨b, 1, none⟩ = some (.int .i64 bound)) (hn : inB bound n = false) :
    Calls Tryz.prog 121 #[.pointer (some ⟨b, 0, none⟩), .int .i64 n] w fun e w' => e = .returned (.bool false) ∧ ∃ k, w' = w.drewN k := by
  have H := Lib.hid (quiet_any (fun m => by have := takes_any b bound n (w.drewN m) (by simpa using hc); rw [hn] at this; exact this))
  clear hn
  go_enter Tryz.func121, Tryz.ntmps121
  go_wp2
  go_quiet ((go_at_call 120; exact H.out _))
  go_wp2
  go_ret
  exact ⟨rfl, _, rfl⟩
set_option maxHeartbeats 1000000 in
theorem hasNone (n : Int) (w : World) :
    Calls Tryz.prog 121 #[.pointer none, .int .i64 n] w fun e w' => e = .returned (.bool false) ∧ ∃ k, w' = w.drewN k := by
  have H := Lib.hid (quiet_any (fun m => takes_none n (w.drewN m)))
  go_enter Tryz.func121, Tryz.ntmps121
  go_wp2
  go_quiet ((go_at_call 120; exact H.out _))
  go_wp2
  go_ret
  exact ⟨rfl, _, rfl⟩
set_option maxHeartbeats 1000000 in
theorem has_yes (b : Nat) (A : Option Addr) (bound : Nat) (ws : List Nat) (n : Nat) (w : World) (h : SetR w b A bound ws) (hn : n < bound) :
    Calls Tryz.prog 121 #[.pointer (some ⟨b, 0, none⟩), .int .i64 n] w fun e w' => e = .returned (.bool (has ws n)) ∧ ∃ k, w' = w.drewN k := by
  have hk : n / 64 < ws.length := by rw [h.ok.len]; omega
  have hle := h.ok.le
  obtain ⟨g, off, v, rfl, hg, hv, hvv⟩ := h.rd.at_ (i := n / 64) (by simpa using hk)
  have hvv := hvv.out
  rw [word_at hk] at hvv
  have hl := word_lt h.ok hk
  have hb : has ws n = (ws[n / 64]?.getD 0).testBit (n % 64) := rfl
  revert hv hvv hl hb
  generalize ws[n / 64]?.getD 0 = x
  intro hv hvv hl hb
  subst hvv
  have H1 := Lib.hid (quiet_any (fun m => by have := takes_any b bound n (w.drewN m) (by simpa using h.c1); rw [show inB bound n = true by simp [inB]; omega] at this; exact this))
  have H2 := Lib.hid (quiet_any (fun m => bit_any n (by omega) (w.drewN m)))
  have hq : (n : Int) / 64 = ((n / 64 : Nat) : Int) := by omega
  have E := bits_and_u64_nat x (2 ^ (n % 64)) hl (Nat.pow_lt_pow_right (n := 64) (by decide) (by omega))
  have R : (((x &&& 2 ^ (n % 64) : Nat) : Int) != 0) = has ws n := by
    rw [hb, and_pow]
    cases hx : x.testBit (n % 64)
    · simp
    · have : 2 ^ (n % 64) ≠ 0 := Nat.ne_of_gt (Nat.two_pow_pos _)
      simp only [if_true, bne_iff_ne]
      omega
  clear hb hl
  revert E R H2
  generalize x &&& 2 ^ (n % 64) = y
  generalize 2 ^ (n % 64) = p
  generalize has ws n = r
  intro H2 E R
  have c0 := h.c0
  have hkk : n / 64 < ws.length := hk
  clear h
  revert hkk c0 hq hv
  generalize ws.length = L
  generalize n / 64 = q
  intro hv hq c0 hkk
  go_enter Tryz.func121, Tryz.ntmps121
  go_wp2
  go_quiet ((first | (go_at_call 120; exact H1.out _) | (go_at_call 122; exact H2.out _)))
  go_wp2
  go_ret
  exact ⟨rfl, _, rfl⟩
/-- Has, of any number. -/
theorem sHas_any (b : Nat) (A : Option Addr) (bound : Nat) (ws : List Nat) (n : Int) (w : World) (h : SetR w b A bound ws) :
    Calls Tryz.prog 121 #[.pointer (some ⟨b, 0, none⟩), .int .i64 n] w fun e w' => e = .returned (.bool (hasI bound ws n)) ∧ ∃ k, w' = w.drewN k := by
  by_cases hb : inB bound n = true
  · have h2 : 0 ≤ n ∧ n < bound := by simpa [inB] using hb
    obtain ⟨m, rfl⟩ : ∃ m : Nat, n = m := ⟨n.toNat, by omega⟩
    have := has_yes b A bound ws m w h (by omega)
    have e : hasI bound ws (m : Int) = has ws m := by simp [hasI, hb]
    rw [e]; exact this
  · have hb' : inB bound n = false := by simpa using hb
    have e : hasI bound ws n = false := by simp [hasI, hb']
    rw [e]; exact has_no b bound n w h.c1 hb'
set_option maxHeartbeats 1000000 in
/-- wordsFrom of a set that is not there. -/
theorem wordsFrom_none (n : Int) (w : World) : Calls Tryz.prog 170 #[.pointer none, .int .i64 n] w fun e w' => e = .returned (.slice none 0 0) ∧ ∃ k, w' = w.drewN k := by
  go_enter Tryz.func170, Tryz.ntmps170
  go_wp2
  go_ret
  exact ⟨rfl, 0, rfl⟩
/-- What wordsFrom answers: the words from word q on. -/
def WFrom (w : World) (A : Option Addr) (ws : List Nat) (q : Nat) (A' : Option Addr) : Prop := Rd .u64 w w.heap.size A' ((ws.drop (min q ws.length)).map Int.ofNat) ∧ (q < ws.length → A' = A.map (·.add q))
set_option maxHeartbeats 1000000 in
theorem wordsFrom_any (b : Nat) (A : Option Addr) (bound : Nat) (ws : List Nat) (n : Nat) (w : World) (h : SetR w b A bound ws) (hn : n ≤ 9223372036854775807) :
    Calls Tryz.prog 170 #[.pointer (some ⟨b, 0, none⟩), .int .i64 n] w fun e w' => (∃ A', e = .returned (.slice A' (ws.drop (min (n / 64) ws.length)).length (ws.drop (min (n / 64) ws.length)).length) ∧ WFrom w A ws (n / 64) A') ∧ ∃ k, w' = w.drewN k := by
  have hL : ws.length ≤ 32 := by rw [h.ok.len]; have := h.ok.le; omega
  have hd : (ws.drop (min (n / 64) ws.length)).length = ws.length - min (n / 64) ws.length := List.length_drop
  rw [hd]
  clear hd
  have hq : ((n : Int) / 64) = ((n / 64 : Nat) : Int) := by omega
  have c0 := h.c0
  by_cases hql : n / 64 < ws.length
  · have hrd := h.rd.drop (n := n / 64) (cap := ws.length) (by simp)
    obtain ⟨g, off, v, hA, hg, hv, hvv⟩ := h.rd.at_ (i := n / 64) (by simpa using hql)
    subst hA
    clear h hvv hv hg
    have HL := Lib.hid (show min (n / 64) ws.length = n / 64 by omega)
    have ea : (⟨g, off, none⟩ : Addr).add (n / 64) = ⟨g, off + n / 64, none⟩ := by unfold Addr.add; split <;> simp_all
    rw [if_neg (by omega)] at hrd
    have hrd' := Lib.hid (show WFrom w (some ⟨g, off, none⟩) ws (n / 64) (some ⟨g, off + n / 64, none⟩) from
      ⟨by rw [HL.out, List.map_drop]; rw [Option.map_some, ea] at hrd; exact hrd, fun _ => by rw [Option.map_some, ea]⟩)
    rw [HL.out]
    clear hrd HL ea
    revert hrd' hq hql
    generalize n / 64 = q
    intro hq hql hrd
    revert c0 hL hql hrd
    generalize hLL : ws.length = L
    clear hLL
    intro hL c0 hql hrd
    have h1 : q ≤ L := by omega
    go_enter Tryz.func170, Tryz.ntmps170
    go_wp2
    go_quiet (fail)
    go_wp2
    go_ret
    exact ⟨⟨_, rfl, hrd.out⟩, _, rfl⟩
  · have HL := Lib.hid (show min (n / 64) ws.length = ws.length by omega)
    have hrd := Lib.hid (show WFrom w A ws (n / 64) A from ⟨by rw [HL.out, List.drop_length]; exact fun h => by simp at h, fun h => absurd h hql⟩)
    rw [HL.out]
    clear HL h
    have h1 : ws.length ≤ n / 64 := by omega
    clear hql
    revert h1 hq hrd
    generalize n / 64 = q
    intro hq hrd h1
    revert c0 hL hrd h1
    generalize hLL : ws.length = L
    clear hLL
    intro hL c0 hrd h1
    rw [Nat.sub_self]
    go_enter Tryz.func170, Tryz.ntmps170
    go_wp2
    all_goals
      go_quiet (fail)
      go_wp2
      go_ret
      exact ⟨⟨_, rfl, hrd.out⟩, _, rfl⟩
end Go.Proofs.YtkmngbkghgelfaaGreat
/- A set in memory, as it is written; the walks of New, Add, Drop and Len. -/
namespace Go.Proofs.YtkmngbkghgelfaaGreat
open Go.RowKit
set_option linter.unusedVariables false

def rowU (ws : List Nat) : Array Value := (ws.map fun x => Value.int .u64 (x : Nat)).toArray
/-- A set in block b, with its words in block g, both its own. -/
structure SetAt (w : World) (b g bound : Nat) (ws : List Nat) : Prop where
  blk : Whole w b 179 #[.slice (some ⟨g, 0, none⟩) ws.length ws.length, .int .i64 bound]
  row : Whole w g 76 (rowU ws)
  ne : b ≠ g
  ok : Words bound ws
theorem row_cell {w : World} {g : Nat} {ws : List Nat} (h : Whole w g 76 (rowU ws)) {i : Nat} (hi : i < ws.length) : w.cell? ⟨g, i, none⟩ = some (.int .u64 ((ws[i]?.getD 0 : Nat) : Int)) := by
  rw [h.cell]
  simp [rowU, List.getElem?_eq_getElem hi]
theorem SetAt.rd {w : World} {b g bound : Nat} {ws : List Nat} (h : SetAt w b g bound ws) : SetR w b (some ⟨g, 0, none⟩) bound ws :=
  ⟨h.blk.cell 0, h.blk.cell 1, fun hl => ⟨g, 0, rfl, h.row.lt, fun i hi => by
    rw [List.length_map] at hi
    rw [Nat.zero_add, row_cell h.row hi, word_at hi]⟩, h.ok⟩
theorem SetAt.turn {F : List Nat} {w w' : World} {b g bound : Nat} {ws : List Nat} (h : SetAt w b g bound ws) (k : Turn F w w') (hb : b ∉ F) (hg : g ∉ F) : SetAt w' b g bound ws :=
  ⟨h.blk.turn k hb, h.row.turn k hg, h.ne, h.ok⟩
theorem SetAt.set {w : World} {b g bound : Nat} {ws : List Nat} (h : SetAt w b g bound ws) (i v : Nat) (ok : Words bound (ws.set i v)) : SetAt (w.setCell ⟨g, i, none⟩ (.int .u64 (v : Nat))) b g bound (ws.set i v) := by
  refine ⟨?_, ?_, h.ne, ok⟩
  · rw [List.length_set]; exact h.blk.far (a := ⟨g, i, none⟩) h.ne _
  · have := h.row.set i (.int .u64 (v : Nat))
    have e : (rowU ws).setIfInBounds i (.int .u64 (v : Nat)) = rowU (ws.set i v) := by
      unfold rowU
      rw [List.setIfInBounds_toArray, List.map_set]
    rw [e] at this
    exact this
/-- The words behind an addition. -/
theorem Words.add {bound : Nat} {ws : List Nat} (h : Words bound ws) {n : Nat} (hn : n < bound) : Words bound (ws.set (n / 64) (ws[n / 64]?.getD 0 ||| 2 ^ (n % 64))) := by
  have hk : n / 64 < ws.length := by rw [h.len]; omega
  refine ⟨by rw [List.length_set]; exact h.len, h.le, fun x hx => ?_, fun m hm => ?_⟩
  · rcases List.mem_or_eq_of_mem_set hx with h1 | h1
    · exact h.lt x h1
    · subst h1
      exact Nat.or_lt_two_pow (n := 64) (word_lt h hk) (Nat.pow_lt_pow_right (by decide) (by omega))
  · rw [has_add ws n hk, h.top m hm]
    simp; omega
theorem Words.drop {bound : Nat} {ws : List Nat} (h : Words bound ws) {n : Nat} (hn : n < bound) :
    Words bound (ws.set (n / 64) (ws[n / 64]?.getD 0 &&& (18446744073709551615 - 2 ^ (n % 64)))) ∧ ∀ m, has (ws.set (n / 64) (ws[n / 64]?.getD 0 &&& (18446744073709551615 - 2 ^ (n % 64)))) m = (has ws m && m != n) := by
  have hk : n / 64 < ws.length := by rw [h.len]; omega
  have hp : 2 ^ (n % 64) < 2 ^ 64 := Nat.pow_lt_pow_right (by decide) (by omega)
  have H := has_drop ws n (ws[n / 64]?.getD 0 &&& (18446744073709551615 - 2 ^ (n % 64))) hk (fun j hj => by
    rw [Nat.testBit_and]
    congr 1
    have := Nat.testBit_two_pow_sub_succ hp j
    rw [show 2 ^ 64 - (2 ^ (n % 64) + 1) = 18446744073709551615 - 2 ^ (n % 64) by omega] at this
    rw [this, Nat.testBit_two_pow]
    by_cases he : j = n % 64
    · subst he; simp
    · have h3 : (j != n % 64) = true := by simp; exact he
      have h4 : decide (n % 64 = j) = false := by simp; omega
      rw [h3, h4]; simp; exact hj)
  refine ⟨⟨by rw [List.length_set]; exact h.len, h.le, fun x hx => ?_, fun m hm => ?_⟩, H⟩
  · rcases List.mem_or_eq_of_mem_set hx with h1 | h1
    · exact h.lt x h1
    · subst h1
      exact Nat.lt_of_le_of_lt Nat.and_le_left (word_lt h hk)
  · rw [H, h.top m hm]; rfl
theorem words_new (n : Nat) (h : n ≤ 2048) : Words n (List.replicate ((n + 63) / 64) 0) :=
  ⟨by simp, h, fun x hx => by rw [List.eq_of_mem_replicate hx]; decide, fun m _ => has_none _ _⟩
set_option maxHeartbeats 1000000 in
theorem new_no (n : Int) (h : n < 0 ∨ 2048 < n) (w : World) : Calls Tryz.prog 78 #[.int .i64 n] w fun e w' => e = .returned (.tuple #[.pointer none, .int .i64 1]) ∧ w = w' := by
  rcases h with h | h
  · go_enter Tryz.func78, Tryz.ntmps78
    go_wp2
    go_ret2
    exact ⟨rfl, rfl⟩
  · have h' : decide (n < 0) = false := by simp; omega
    go_enter Tryz.func78, Tryz.ntmps78
    go_wp2
    go_ret2
    exact ⟨rfl, rfl⟩
def SNew (n : Nat) (w : World) (e : Ending) (w' : World) : Prop :=
  ∃ b g ws, e = .returned (.tuple #[.pointer (some ⟨b, 0, none⟩), .int .i64 0]) ∧ SetAt w' b g n ws ∧ (∀ m, has ws m = false) ∧ w.heap.size ≤ b ∧ w.heap.size ≤ g ∧ Turn [] w w'
theorem Tryz.info76u : (Tryz.prog.info? 76).map (fun i => (i.zero, i.size, i.bytes)) = some (some (.int .u64 0), 1, 8) := by kernel_rfl
theorem made_words (q : Nat) (hq : q ≤ 32) (w : World) :
    (Instr.makeSlice 123 (.int .i64 (q : Int)) (.int .i64 (q : Int))).run Tryz.prog w = .ok (.slice (some ⟨w.heap.size, 0, none⟩) q q) (w.alloc (.cells (rowU (List.replicate q 0)) 76)) := by
  obtain ⟨i0, hi, hz0, hz1, hz2⟩ := info_parts Tryz.info76u
  have := run_make (P := Tryz.prog) w 123 76 i0 (.int .u64 0) Tryz.underlying123 hi hz0 .i64 .i64 (q : Int) (q : Int) (by omega) (Int.le_refl _) (by rw [hz2]; omega) (by omega)
  rw [this, hz1, Nat.mul_one, Int.toNat_natCast]
  have e : madeCells (Value.int IntKind.u64 0).cells q = rowU (List.replicate q 0) := by
    apply Array.toList_inj.1
    rw [show (Value.int IntKind.u64 0).cells = #[Value.int IntKind.u64 0] by rfl, made_one]
    simp [rowU]
  rw [e]
set_option maxRecDepth 100000 in
set_option maxHeartbeats 1000000 in
theorem new_yes (n : Nat) (h : n ≤ 2048) (w : World) : Calls Tryz.prog 78 #[.int .i64 n] w (SNew n w) := by
  obtain ⟨q, hq, hqq⟩ : ∃ q : Nat, ((n : Int) + 64 - 1) / 64 = (q : Int) ∧ Hid (q = (n + 63) / 64) := by
    refine ⟨(n + 63) / 64, ?_, rfl⟩
    omega
  have hq0 : q ≤ 32 := by have := hqq.out; omega
  have h1 : decide ((n : Int) < 0) = false := by simp
  have h2 : decide (2048 < (n : Int)) = false := by simp; omega
  have hn := Lib.hid h
  have h3 : (n : Int) ≤ 2048 := by omega
  have h4 : (0 : Int) ≤ n := by omega
  have hmk := made_words q hq0
  clear h
  go_enter Tryz.func78, Tryz.ntmps78
  go_wp2
  go_ret2
  have hqq := hqq.out
  subst hqq
  have hl : (List.replicate ((n + 63) / 64) 0).length = (n + 63) / 64 := List.length_replicate
  refine ⟨w.heap.size + 1, w.heap.size, List.replicate ((n + 63) / 64) 0, ?_, ⟨?_, ?_, by omega, words_new n hn.out⟩, fun m => has_none _ m, by omega, by omega, ?_⟩
  · simp
  · rw [hl]; have := Whole.new (w.alloc (.cells (rowU (List.replicate ((n + 63) / 64) 0)) 76)) 179 #[.slice (some ⟨w.heap.size, 0, none⟩) ((n + 63) / 64) ((n + 63) / 64), .int .i64 n]
    rw [World.size_alloc] at this; exact this
  · exact (Whole.new w 76 (rowU (List.replicate ((n + 63) / 64) 0))).alloc _
  · exact ((Turn.refl _ _).alloc _).alloc _
/-- A set in memory, by which numbers it has. -/
def SetIs (w : World) (b g bound : Nat) (f : Nat → Bool) : Prop := ∃ ws, SetAt w b g bound ws ∧ ∀ m, has ws m = f m
theorem SetIs.turn {F : List Nat} {w w' : World} {b g bound : Nat} {f : Nat → Bool} (h : SetIs w b g bound f) (k : Turn F w w') (hb : b ∉ F) (hg : g ∉ F) : SetIs w' b g bound f := by
  obtain ⟨ws, h1, h2⟩ := h
  exact ⟨ws, h1.turn k hb hg, h2⟩
/-- What Add and Drop answer, and leave. -/
def Turned (g b bound : Nat) (w : World) (r : Bool) (f : Nat → Bool) (e : Ending) (w' : World) : Prop := e = .returned (.bool r) ∧ SetIs w' b g bound f ∧ Turn [g] w w'
set_option maxRecDepth 100000 in
set_option maxHeartbeats 1000000 in
theorem add_out (b g bound : Nat) (ws : List Nat) (n : Int) (w : World) (h : SetAt w b g bound ws) (hn : inB bound n = false) :
    Calls Tryz.prog 79 #[.pointer (some ⟨b, 0, none⟩), .int .i64 n] w fun e w' => e = .returned (.bool false) ∧ w = w' := by
  have H := takes_any b bound n w h.rd.c1
  rw [hn] at H
  have H := Lib.hid H
  clear hn h
  go_enter Tryz.func79, Tryz.ntmps79
  go_wp2_with fail
  refine H.out.mono ?_
  rintro e w1 ⟨rfl, rfl⟩
  go_wp2
  go_ret
  exact ⟨rfl, rfl⟩
set_option maxRecDepth 100000 in
set_option maxHeartbeats 1000000 in
theorem add_there (b g bound : Nat) (ws : List Nat) (n : Nat) (w : World) (h : SetAt w b g bound ws) (hn : n < bound) (hh : has ws n = true) :
    Calls Tryz.prog 79 #[.pointer (some ⟨b, 0, none⟩), .int .i64 n] w fun e w' => e = .returned (.bool false) ∧ ∃ k, w' = w.drewN k := by
  have H := takes_any b bound n w h.rd.c1
  rw [show inB bound n = true by simp [inB]; omega] at H
  have H2 := has_yes b _ bound ws n w h.rd hn
  rw [hh] at H2
  have H := Lib.hid H
  have H2 := Lib.hid H2
  clear hn h hh
  go_enter Tryz.func79, Tryz.ntmps79
  go_wp2_with fail
  refine H.out.mono ?_
  rintro e w1 ⟨rfl, rfl⟩
  go_wp2_with fail
  refine H2.out.mono ?_
  rintro e w1 ⟨rfl, k, rfl⟩
  go_wp2
  go_ret
  exact ⟨rfl, _, rfl⟩
set_option maxRecDepth 100000 in
set_option maxHeartbeats 1000000 in
theorem add_new (b g bound : Nat) (ws : List Nat) (n : Nat) (w : World) (h : SetAt w b g bound ws) (hn : n < bound) (hh : has ws n = false) :
    Calls Tryz.prog 79 #[.pointer (some ⟨b, 0, none⟩), .int .i64 n] w (Turned g b bound w true (fun m => has ws m || m == n)) := by
  have H := takes_any b bound n w h.rd.c1
  rw [show inB bound n = true by simp [inB]; omega] at H
  have H2 := has_yes b _ bound ws n w h.rd hn
  rw [hh] at H2
  have H := Lib.hid H
  have H2 := Lib.hid H2
  have hL := Lib.hid (show ws.length = (bound + 63) / 64 ∧ bound ≤ 2048 from ⟨h.ok.len, h.ok.le⟩)
  have HA := Lib.hid (h.ok.add hn)
  have hlt := Lib.hid (word_lt h.ok (k := n / 64) (by rw [h.ok.len]; omega))
  have HH := Lib.hid h
  have hn' := Lib.hid hn
  clear hn h hh
  go_enter Tryz.func79, Tryz.ntmps79
  go_wp2_with fail
  refine H.out.mono ?_
  rintro e w1 ⟨rfl, rfl⟩
  go_wp2_with fail
  refine H2.out.mono ?_
  rintro e w1 ⟨rfl, k, rfl⟩
  have hs : SetAt (w.drewN k) b g bound ws := HH.out.turn (F := []) ((Turn.refl _ _).drewN _) (by simp) (by simp)
  have ht : Turn [] w (w.drewN k) := (Turn.refl _ _).drewN _
  have HT := Lib.hid (⟨hs, ht⟩ : _ ∧ _)
  clear hs ht
  generalize w.drewN k = w1 at HT ⊢
  go_wp2
  refine wp_region_still_tail 12 (by kernel_rfl) (by kernel_rfl) ?_
  simp only [List.take_succ_cons, List.take_zero, List.drop_succ_cons, List.drop_zero]
  change wpStill _ _ w1.drew (fun a' => wpList _ _ _ _ a' w1.drew) _ _
  have hs : SetAt w1.drew b g bound ws := HT.out.1.turn (F := []) ((Turn.refl _ _).drew) (by simp) (by simp)
  have ht : Turn [] w w1.drew := HT.out.2.drew
  have HT := Lib.hid (⟨hs, ht⟩ : _ ∧ _)
  clear ht
  generalize w1.drew = w2 at hs HT ⊢
  have c0 := hs.rd.c0
  have c1 := row_cell hs.row (i := n / 64) (by rw [hL.out.1]; have := hn'.out; omega)
  have f1 := hs.row.frozen (n / 64)
  have hk : n / 64 < ws.length := by rw [hL.out.1]; have := hn'.out; omega
  have hk0 : ws.length ≤ 32 := by rw [hL.out.1]; have := hL.out.2; omega
  have E := bits_or_u64_nat (ws[n / 64]?.getD 0) (2 ^ (n % 64)) hlt.out (Nat.pow_lt_pow_right (n := 64) (by decide) (by omega))
  have HB := bit_any n (by have := hn'.out; have := hL.out.2; omega) w2
  have hq : (n : Int) / 64 = ((n / 64 : Nat) : Int) := by omega
  have hn2 : (n : Int) ≤ 2048 := by have := hn'.out; have := hL.out.2; omega
  clear hs H H2
  have HA2 := Lib.hid (show SetIs (w2.setCell ⟨g, n / 64, none⟩ (.int .u64 ((ws[n / 64]?.getD 0 ||| 2 ^ (n % 64) : Nat) : Int))) b g bound (fun m => has ws m || m == n) from
    ⟨_, HT.out.1.set (n / 64) (ws[n / 64]?.getD 0 ||| 2 ^ (n % 64)) HA.out, fun m => has_add ws n hk m⟩)
  clear hlt HA
  revert HA2 E HB c1 f1 hk hq
  generalize ws[n / 64]?.getD 0 ||| 2 ^ (n % 64) = y
  generalize ws[n / 64]?.getD 0 = x
  generalize 2 ^ (n % 64) = p
  generalize n / 64 = q
  intro c1 f1 hk E HB hq HA
  have hw : IntKind.i64.wrap (q : Int) = (q : Int) := by rw [IntKind.wrap_i64]; omega
  have HB := Lib.hid (HB.mono (R' := fun e w' => e = .returned (.int .u64 p) ∧ w' = w2) (fun e w' h => ⟨h.1, h.2.symm⟩))
  still_step
  still_step
  still_step
  still_step
  still_step
  still_step
  still_step
  still_step
  still_step
  still_call HB.out
  still_step
  still_step
  refine wpStill_nil ?_
  go_wp2
  go_ret
  exact ⟨rfl, HA.out, (HT.out.2.more (B := [g]) (by simp)).setCell (.inl (by simp)) _⟩
set_option maxRecDepth 100000 in
theorem add_none (n : Int) (w : World) :
    Calls Tryz.prog 79 #[.pointer none, .int .i64 n] w fun e w' => e = .returned (.bool false) ∧ w = w' := by
  have H2 := Lib.hid (takes_none n w)
  go_enter Tryz.func79, Tryz.ntmps79
  go_wp2_with fail
  refine H2.out.mono ?_
  rintro e w1 ⟨rfl, rfl⟩
  go_wp2
  go_ret
  exact ⟨rfl, rfl⟩
/-- Is n one of the numbers of the set? -/
def inI (bound : Nat) (f : Nat → Bool) (n : Int) : Bool := inB bound n && f n.toNat
/-- The numbers behind an addition, and behind a drop. -/
def plus (bound : Nat) (f : Nat → Bool) (n : Int) (m : Nat) : Bool := f m || (inB bound n && decide ((m : Int) = n))
def minus (f : Nat → Bool) (n : Int) (m : Nat) : Bool := f m && !decide ((m : Int) = n)
theorem SetIs.congr {w : World} {b g bound : Nat} {f k : Nat → Bool} (h : SetIs w b g bound f) (e : ∀ m, f m = k m) : SetIs w b g bound k := by
  obtain ⟨ws, h1, h2⟩ := h
  exact ⟨ws, h1, fun m => (h2 m).trans (e m)⟩
theorem SetIs.le {w : World} {b g bound : Nat} {f : Nat → Bool} (h : SetIs w b g bound f) : bound ≤ 2048 ∧ (∀ m, bound ≤ m → f m = false) ∧ b < w.heap.size ∧ g < w.heap.size ∧ b ≠ g := by
  obtain ⟨ws, h1, h2⟩ := h
  exact ⟨h1.ok.le, fun m hm => (h2 m).symm.trans (h1.ok.top m hm), h1.blk.lt, h1.row.lt, h1.ne⟩
/-- Add, of any number. -/
theorem add_any (b g bound : Nat) (f : Nat → Bool) (n : Int) (w : World) (h : SetIs w b g bound f) :
    Calls Tryz.prog 79 #[.pointer (some ⟨b, 0, none⟩), .int .i64 n] w (Turned g b bound w (inB bound n && !f n.toNat) (plus bound f n)) := by
  obtain ⟨ws, h1, h2⟩ := h
  by_cases hb : inB bound n = true
  · have h3 : 0 ≤ n ∧ n < bound := by simpa [inB] using hb
    obtain ⟨m, rfl⟩ : ∃ m : Nat, n = m := ⟨n.toNat, by omega⟩
    have h4 : m < bound := by omega
    rw [hb, Int.toNat_natCast, Bool.true_and]
    have hp : ∀ j, plus bound f (m : Int) j = (f j || j == m) := fun j => by
      unfold plus; rw [hb, Bool.true_and]
      congr 1
      by_cases e : j = m
      · subst e; simp
      · have : ¬ ((j : Int) = (m : Int)) := by omega
        simp [e, this]
    cases hf : f m
    · refine (add_new b g bound ws m w h1 h4 ((h2 m).trans hf)).mono fun e w' ⟨e1, e2, e3⟩ => ⟨e1, e2.congr fun j => ?_, e3⟩
      rw [hp, h2]
    · refine (add_there b g bound ws m w h1 h4 ((h2 m).trans hf)).mono fun e w' ⟨e1, k, e2⟩ => ⟨e1, ⟨ws, ?_, fun j => ?_⟩, ?_⟩
      · rw [e2]; exact h1.turn (F := []) ((Turn.refl _ _).drewN _) (by simp) (by simp)
      · rw [hp, h2]
        by_cases e : j = m
        · subst e; simp [hf]
        · simp [e]
      · rw [e2]; exact (Turn.refl _ _).drewN _
  · have hb' : inB bound n = false := by simpa using hb
    rw [hb', Bool.false_and]
    refine (add_out b g bound ws n w h1 hb').mono fun e w' ⟨e1, e2⟩ => ⟨e1, ⟨ws, ?_, fun j => ?_⟩, ?_⟩
    · rw [← e2]; exact h1
    · unfold plus; rw [hb', h2]; simp
    · rw [← e2]; exact Turn.refl _ _
/-- Has, of any number. -/
theorem hasF_any (b g bound : Nat) (f : Nat → Bool) (n : Int) (w : World) (h : SetIs w b g bound f) :
    Calls Tryz.prog 121 #[.pointer (some ⟨b, 0, none⟩), .int .i64 n] w fun e w' => e = .returned (.bool (inI bound f n)) ∧ ∃ k, w' = w.drewN k := by
  obtain ⟨ws, h1, h2⟩ := h
  have := sHas_any b _ bound ws n w h1.rd
  unfold hasI at this
  rw [h2] at this
  exact this
end Go.Proofs.YtkmngbkghgelfaaGreat
