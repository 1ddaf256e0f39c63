/- Plain mathematics of layer 2 (sums): up to four bytes side by side, changed, change the sum. Nothing of the program's translation is used here. -/
import Derived.Test.YtfjigfmjhfoecaaM
namespace Go.Proofs.Ytfjigfmjhfoecaa
set_option linter.unusedVariables false
/-- What is taken against n bytes: q 0, .., q (i - 1) from place k on. -/
def dif (n k i : Nat) (q : Nat → Nat) : List Nat := (List.range n).map fun j => if k ≤ j ∧ j < k + i then q (j - k) else 0
theorem dif_len (n k i : Nat) (q : Nat → Nat) : (dif n k i q).length = n := by unfold dif; simp
theorem dif_get {n k i j : Nat} {q : Nat → Nat} (hj : j < n) : (dif n k i q)[j]? = some (if k ≤ j ∧ j < k + i then q (j - k) else 0) := by
  unfold dif; simp [hj]
theorem xors_get {l m : List Nat} {j a b : Nat} (h : l[j]? = some a) (h' : m[j]? = some b) : (xors l m)[j]? = some (a ^^^ b) := by
  unfold xors; rw [List.getElem?_zipWith, h, h']
theorem xors_len {l m : List Nat} (h : l.length = m.length) : (xors l m).length = l.length := by unfold xors; simp; omega
theorem dif_zero (n k : Nat) (q : Nat → Nat) : dif n k 0 q = List.replicate n 0 := by
  apply List.ext_getElem?
  intro j
  by_cases hj : j < n
  · rw [dif_get hj, List.getElem?_replicate, if_pos hj, if_neg (by omega)]
  · rw [List.getElem?_eq_none (by rw [dif_len]; omega), List.getElem?_eq_none (by simp; omega)]
theorem xors_zero (l : List Nat) : xors l (List.replicate l.length 0) = l := by
  apply List.ext_getElem?
  intro j
  by_cases hj : j < l.length
  · rw [xors_get (List.getElem?_eq_getElem hj) (by rw [List.getElem?_replicate, if_pos hj]), Nat.xor_zero, List.getElem?_eq_getElem hj]
  · rw [List.getElem?_eq_none (by rw [xors_len (by simp)]; omega), List.getElem?_eq_none (by omega)]
theorem xors_at {l : List Nat} {k i : Nat} (q : Nat → Nat) {a : Nat} (h : k + i < l.length) (ha : l[k + i]? = some a) : (xors l (dif l.length k i q))[k + i]? = some a := by
  rw [xors_get ha (dif_get h), if_neg (by omega), Nat.xor_zero]
theorem xors_set {l : List Nat} {k i : Nat} (q : Nat → Nat) {a : Nat} (h : k + i < l.length) (ha : l[k + i]? = some a) :
    (xors l (dif l.length k i q)).set (k + i) (a ^^^ q i) = xors l (dif l.length k (i + 1) q) := by
  apply List.ext_getElem?
  intro j
  rw [List.getElem?_set]
  by_cases hj : j < l.length
  · rw [xors_get (List.getElem?_eq_getElem hj) (dif_get (i := i + 1) hj)]
    by_cases e : k + i = j
    · subst e
      rw [if_pos rfl, if_pos (by rw [xors_len (by rw [dif_len])]; exact hj), if_pos (by omega)]
      rw [List.getElem?_eq_getElem hj] at ha
      rw [Option.some.inj ha, Nat.add_sub_cancel_left]
    · rw [if_neg e, xors_get (List.getElem?_eq_getElem hj) (dif_get hj)]
      by_cases hh : k ≤ j ∧ j < k + i
      · rw [if_pos hh, if_pos (by omega)]
      · rw [if_neg hh, if_neg (by omega)]
  · rw [if_neg (by omega), List.getElem?_eq_none (by rw [xors_len (by rw [dif_len])]; omega), List.getElem?_eq_none (by rw [xors_len (by rw [dif_len])]; omega)]
theorem dif_app {n k m : Nat} (q : Nat → Nat) (h : k + m ≤ n) : dif n k m q = List.replicate k 0 ++ ((List.range m).map q ++ List.replicate (n - k - m) 0) := by
  apply List.ext_getElem?
  intro j
  by_cases hj : j < n
  · rw [dif_get hj]
    by_cases h1 : j < k
    · rw [if_neg (by omega), List.getElem?_append_left (by simpa using h1), List.getElem?_replicate, if_pos h1]
    · rw [List.getElem?_append_right (by simp; omega), List.length_replicate]
      by_cases h2 : j < k + m
      · rw [if_pos ⟨by omega, h2⟩, List.getElem?_append_left (by simp; omega), List.getElem?_map, List.getElem?_range (by omega)]; rfl
      · rw [if_neg (by omega), List.getElem?_append_right (by simp; omega), List.getElem?_replicate, if_pos (by simp; omega)]
  · rw [List.getElem?_eq_none (by rw [dif_len]; omega), List.getElem?_eq_none (by simp; omega)]
theorem fld_zeros_iff {x : Nat} (hx : x < 4294967296) (n : Nat) : fld x (List.replicate n 0) = 0 ↔ x = 0 := by
  constructor
  · intro h
    refine fld_inj (List.replicate n 0) x 0 hx (by omega) (fun c hc => by have := List.eq_of_mem_replicate hc; omega) ?_
    rw [h, fld_zeros]
  · rintro rfl; exact fld_zeros n
theorem four_zero {a b c d : Nat} (ha : a < 256) (hb : b < 256) (hc : c < 256) (hd : d < 256) : fld 0 [a, b, c, d] = 0 ↔ a = 0 ∧ b = 0 ∧ c = 0 ∧ d = 0 := by
  rw [fld_four, Nat.zero_xor, four_sum ha hb hc]
  constructor
  · intro h
    have := shs_inj0 32 (by omega) h
    omega
  · rintro ⟨rfl, rfl, rfl, rfl⟩; exact shs_zero 32
theorem some_zero {m : Nat} (hm : m ≤ 4) {q : Nat → Nat} (hq : ∀ j, q j < 256) : fld 0 ((List.range m).map q) = 0 ↔ ∀ j, j < m → q j = 0 := by
  have h0 := hq 0
  have h1 := hq 1
  have h2 := hq 2
  have h3 := hq 3
  have hb : ∀ c ∈ (List.range m).map q, c < 256 := fun c hc => by obtain ⟨j, _, rfl⟩ := List.mem_map.1 hc; exact hq j
  rw [← fld_zeros_iff (fld_lt _ 0 (by omega) hb) (4 - m), ← fld_append]
  have hm' : m = 0 ∨ m = 1 ∨ m = 2 ∨ m = 3 ∨ m = 4 := by omega
  rcases hm' with rfl | rfl | rfl | rfl | rfl
  · have e : ((List.range 0).map q ++ List.replicate (4 - 0) 0) = [0, 0, 0, 0] := rfl
    rw [e, four_zero (by omega) (by omega) (by omega) (by omega)]
    exact ⟨fun _ j hj => by omega, fun _ => ⟨rfl, rfl, rfl, rfl⟩⟩
  · have e : ((List.range 1).map q ++ List.replicate (4 - 1) 0) = [q 0, 0, 0, 0] := rfl
    rw [e, four_zero h0 (by omega) (by omega) (by omega)]
    exact ⟨fun h j hj => by obtain rfl : j = 0 := by omega
                            exact h.1, fun h => ⟨h 0 (by omega), rfl, rfl, rfl⟩⟩
  · have e : ((List.range 2).map q ++ List.replicate (4 - 2) 0) = [q 0, q 1, 0, 0] := rfl
    rw [e, four_zero h0 h1 (by omega) (by omega)]
    refine ⟨fun h j hj => ?_, fun h => ⟨h 0 (by omega), h 1 (by omega), rfl, rfl⟩⟩
    have hj' : j = 0 ∨ j = 1 := by omega
    rcases hj' with rfl | rfl
    · exact h.1
    · exact h.2.1
  · have e : ((List.range 3).map q ++ List.replicate (4 - 3) 0) = [q 0, q 1, q 2, 0] := rfl
    rw [e, four_zero h0 h1 h2 (by omega)]
    refine ⟨fun h j hj => ?_, fun h => ⟨h 0 (by omega), h 1 (by omega), h 2 (by omega), rfl⟩⟩
    have hj' : j = 0 ∨ j = 1 ∨ j = 2 := by omega
    rcases hj' with rfl | rfl | rfl
    · exact h.1
    · exact h.2.1
    · exact h.2.2.1
  · have e : ((List.range 4).map q ++ List.replicate (4 - 4) 0) = [q 0, q 1, q 2, q 3] := rfl
    rw [e, four_zero h0 h1 h2 h3]
    refine ⟨fun h j hj => ?_, fun h => ⟨h 0 (by omega), h 1 (by omega), h 2 (by omega), h 3 (by omega)⟩⟩
    have hj' : j = 0 ∨ j = 1 ∨ j = 2 ∨ j = 3 := by omega
    rcases hj' with rfl | rfl | rfl | rfl
    · exact h.1
    · exact h.2.1
    · exact h.2.2.1
    · exact h.2.2.2
/-- What SumsSpoils says. -/
theorem spoils {l : List Nat} {k m : Nat} {q : Nat → Nat} (hb : ∀ c ∈ l, c < 256) (hq : ∀ j, q j < 256) (hm : m ≤ 4) (hk : k + m ≤ l.length) :
    more 0 l = more 0 (xors l (dif l.length k m q)) ↔ ∀ j, j < m → q j = 0 := by
  rw [← some_zero hm hq]
  unfold more
  have h1 : fld (0 ^^^ 4294967295) (xors l (dif l.length k m q)) = fld (0 ^^^ 4294967295) l ^^^ fld 0 (dif l.length k m q) := by
    have := fld_xor l (dif l.length k m q) (0 ^^^ 4294967295) 0 (by rw [dif_len])
    rwa [Nat.xor_zero] at this
  have h2 : fld 0 (dif l.length k m q) = fld (fld 0 ((List.range m).map q)) (List.replicate (l.length - k - m) 0) := by
    rw [dif_app q hk, fld_append, fld_zeros, fld_append]
  have hlt : fld 0 ((List.range m).map q) < 4294967296 := fld_lt _ 0 (by omega) fun c hc => by obtain ⟨j, _, rfl⟩ := List.mem_map.1 hc; exact hq j
  rw [← fld_zeros_iff hlt (l.length - k - m), ← h2, h1]
  constructor
  · intro h
    have h3 := xor_cancel _ h
    have h4 : fld (0 ^^^ 4294967295) l ^^^ fld (0 ^^^ 4294967295) l = fld (0 ^^^ 4294967295) l ^^^ (fld (0 ^^^ 4294967295) l ^^^ fld 0 (dif l.length k m q)) := by rw [← h3]
    rw [Nat.xor_self, ← Nat.xor_assoc, Nat.xor_self, Nat.zero_xor] at h4
    exact h4.symm
  · intro h; rw [h, Nat.xor_zero]
/-- Numbers as the integers of a walk. -/
def ints (l : List Nat) : List Int := l.map fun (x : Nat) => (x : Int)
theorem ints_len (l : List Nat) : (ints l).length = l.length := by unfold ints; simp
theorem ints_get {l : List Nat} {j a : Nat} (h : l[j]? = some a) : (ints l)[j]? = some (a : Int) := by unfold ints; simp [h]
theorem ints_set (l : List Nat) (j a : Nat) : (ints l).set j (a : Int) = ints (l.set j a) := by unfold ints; rw [List.map_set]
theorem ints_of {xs : List Int} (h : ∀ x ∈ xs, 0 ≤ x ∧ x ≤ 255) : ∃ l : List Nat, xs = ints l ∧ ∀ c ∈ l, c < 256 := by
  refine ⟨xs.map Int.toNat, ?_, fun c hc => by obtain ⟨x, hx, rfl⟩ := List.mem_map.1 hc; have := h x hx; omega⟩
  unfold ints
  rw [List.map_map]
  apply List.ext_getElem?
  intro j
  rw [List.getElem?_map]
  cases hj : xs[j]? with
  | none => rfl
  | some x =>
    have := h x (List.mem_of_getElem? hj)
    simp; omega
theorem ints_bytes {l : List Nat} (h : ∀ c ∈ l, c < 256) : ∀ x ∈ ints l, 0 ≤ x ∧ x ≤ 255 := fun x hx => by
  unfold ints at hx
  obtain ⟨c, hc, rfl⟩ := List.mem_map.1 hx
  have := h c hc
  omega
theorem xors_bytes {l m : List Nat} (h : ∀ c ∈ l, c < 256) (h' : ∀ c ∈ m, c < 256) : ∀ c ∈ xors l m, c < 256 := fun c hc => by
  unfold xors at hc
  obtain ⟨i, hi, rfl⟩ := List.mem_iff_getElem.1 hc
  rw [List.getElem_zipWith]
  exact Nat.xor_lt_two_pow (n := 8) (h _ (List.getElem_mem _)) (h' _ (List.getElem_mem _))
theorem dif_bytes {n k i : Nat} {q : Nat → Nat} (hq : ∀ j, q j < 256) : ∀ c ∈ dif n k i q, c < 256 := fun c hc => by
  unfold dif at hc
  obtain ⟨j, _, rfl⟩ := List.mem_map.1 hc
  split
  · exact hq _
  · omega
/-- Are the first i of them 0? -/
def allz (q : Nat → Nat) : Nat → Bool
  | 0 => true
  | i + 1 => allz q i && (q i == 0)
theorem allz_iff (q : Nat → Nat) (i : Nat) : allz q i = true ↔ ∀ j, j < i → q j = 0 := by
  induction i with
  | zero => simp [allz]
  | succ i ih =>
    unfold allz
    rw [Bool.and_eq_true, ih, beq_iff_eq]
    constructor
    · rintro ⟨h1, h2⟩ j hj
      by_cases e : j = i
      · subst e; exact h2
      · exact h1 j (by omega)
    · intro h; exact ⟨fun j hj => h j (by omega), h i (by omega)⟩
end Go.Proofs.Ytfjigfmjhfoecaa
