/- Mathematics of the count of a word's ones, as math/bits.OnesCount64 reckons it: by pairs, by fours, by bytes, then all bytes together. Of no program. -/
import Derived.Test.YtgcclijdkcomiaaDoorSm
namespace Go.Proofs.YtgcclijdkcomiaaDoor
set_option linter.unusedVariables false

/-- A number of its bytes, the lowest first. -/
def val : List Nat → Nat
  | [] => 0
  | b :: r => val r * 256 + b
/-- The bytes of a number. -/
def bytesOf : Nat → Nat → List Nat
  | 0, _ => []
  | n + 1, x => x % 256 :: bytesOf n (x / 256)
theorem val_bytes : ∀ n x, x < 256 ^ n → val (bytesOf n x) = x
  | 0, x, h => by simp at h; subst h; rfl
  | n + 1, x, h => by
    rw [bytesOf, val, val_bytes n (x / 256) (by rw [Nat.pow_succ] at h; omega)]
    omega
theorem bytes_lt : ∀ n x, ∀ b ∈ bytesOf n x, b < 256
  | 0, x, b, h => by simp [bytesOf] at h
  | n + 1, x, b, h => by
    rw [bytesOf, List.mem_cons] at h
    rcases h with rfl | h
    · omega
    · exact bytes_lt n _ b h
/-- The same byte, so often. -/
def rep (m : Nat) (l : List Nat) : Nat := val (l.map fun _ => m)

theorem and_split (a b c d : Nat) (hb : b < 256) (hd : d < 256) : (a * 256 + b) &&& (c * 256 + d) = (a &&& c) * 256 + (b &&& d) := by
  apply Nat.eq_of_testBit_eq
  intro j
  have hbd : b &&& d < 256 := by have : b &&& d ≤ b := Nat.and_le_left; omega
  rw [Nat.testBit_and, Nat.mul_comm a, Nat.mul_comm c, Nat.mul_comm (a &&& c), show (256 : Nat) = 2 ^ 8 by rfl,
    Nat.testBit_two_pow_mul_add a hb, Nat.testBit_two_pow_mul_add c hd, Nat.testBit_two_pow_mul_add (a &&& c) hbd]
  split
  · rw [Nat.testBit_and]
  · rw [Nat.testBit_and]

def pa (b : Nat) : Nat := (b / 2 &&& 85) + (b &&& 85)
def pb (b : Nat) : Nat := (b / 4 &&& 51) + (b &&& 51)
def pc (b : Nat) : Nat := (b / 16 + b) &&& 15
theorem pa_half : ∀ r, r < 2 → ∀ b, b < 256 → (r * 128 + b / 2) &&& 85 = b / 2 &&& 85 := by decide +kernel
theorem pb_half : ∀ r, r < 4 → ∀ b, b < 256 → (r * 64 + b / 4) &&& 51 = b / 4 &&& 51 := by decide +kernel
theorem pa_lt : ∀ b, b < 256 → pa b < 256 := by decide +kernel
theorem pb_lt : ∀ b, b < 256 → pb b < 256 := by decide +kernel
/-- By pairs. -/
theorem step_a : ∀ l : List Nat, (∀ b ∈ l, b < 256) → (val l / 2 &&& rep 85 l) + (val l &&& rep 85 l) = val (l.map pa)
  | [], _ => by decide
  | b :: r, h => by
    have ih := step_a r (fun c hc => h c (List.mem_cons_of_mem _ hc))
    have hb := h b (by simp)
    have e : (val r * 256 + b) / 2 = val r / 2 * 256 + (val r % 2 * 128 + b / 2) := by omega
    show ((val r * 256 + b) / 2 &&& (rep 85 r * 256 + 85)) + ((val r * 256 + b) &&& (rep 85 r * 256 + 85)) = val (r.map pa) * 256 + pa b
    rw [e, and_split _ _ _ _ (by omega) (by omega), and_split _ _ _ _ hb (by omega), pa_half _ (by omega) _ hb, ← ih]
    unfold pa
    omega
/-- By fours. -/
theorem step_b : ∀ l : List Nat, (∀ b ∈ l, b < 256) → (val l / 4 &&& rep 51 l) + (val l &&& rep 51 l) = val (l.map pb)
  | [], _ => by decide
  | b :: r, h => by
    have ih := step_b r (fun c hc => h c (List.mem_cons_of_mem _ hc))
    have hb := h b (by simp)
    have e : (val r * 256 + b) / 4 = val r / 4 * 256 + (val r % 4 * 64 + b / 4) := by omega
    show ((val r * 256 + b) / 4 &&& (rep 51 r * 256 + 51)) + ((val r * 256 + b) &&& (rep 51 r * 256 + 51)) = val (r.map pb) * 256 + pb b
    rw [e, and_split _ _ _ _ (by omega) (by omega), and_split _ _ _ _ hb (by omega), pb_half _ (by omega) _ hb, ← ih]
    unfold pb
    omega
theorem pc_half : ∀ r, r < 5 → ∀ b, b < 69 → (r * 16 + b / 16 + b) &&& 15 = pc b := by decide +kernel
/-- By bytes. -/
theorem step_c : ∀ l : List Nat, (∀ b ∈ l, b < 69 ∧ b % 16 < 5) → (val l / 16 + val l) &&& rep 15 l = val (l.map pc) ∧ val l % 16 < 5
  | [], _ => by decide
  | b :: r, h => by
    obtain ⟨ih, ih2⟩ := step_c r (fun c hc => h c (List.mem_cons_of_mem _ hc))
    obtain ⟨hb, hb2⟩ := h b (by simp)
    have e : (val r * 256 + b) / 16 + (val r * 256 + b) = (val r / 16 + val r) * 256 + (val r % 16 * 16 + b / 16 + b) := by omega
    refine ⟨?_, by show (val r * 256 + b) % 16 < 5; omega⟩
    show ((val r * 256 + b) / 16 + (val r * 256 + b)) &&& (rep 15 r * 256 + 15) = val (r.map pc) * 256 + pc b
    rw [e, and_split _ _ _ _ (by omega) (by omega), ih, pc_half _ (by omega) _ hb]
/-- The ones below place n. -/
def cnt (p : Nat → Bool) (n : Nat) : Nat := ((List.range n).filter p).length
theorem cnt_add (p : Nat → Bool) (a b : Nat) : cnt p (a + b) = cnt p a + cnt (fun j => p (a + j)) b := by
  unfold cnt
  rw [List.range_add, List.filter_append, List.length_append, List.filter_map, List.length_map]
  rfl
theorem byte_ok : ∀ b, b < 256 → pc (pb (pa b)) = cnt b.testBit 8 ∧ pb (pa b) < 69 ∧ pb (pa b) % 16 < 5 ∧ pa b < 256 := by decide +kernel
theorem cnt_val : ∀ l : List Nat, (∀ b ∈ l, b < 256) → cnt (val l).testBit (8 * l.length) = (l.map fun b => cnt b.testBit 8).sum
  | [], _ => by decide
  | b :: r, h => by
    have ih := cnt_val r (fun c hc => h c (List.mem_cons_of_mem _ hc))
    have hb := h b (by simp)
    rw [List.length_cons, show 8 * (r.length + 1) = 8 + 8 * r.length by omega, cnt_add, List.map_cons, List.sum_cons, ← ih]
    have tb : ∀ j, (val (b :: r)).testBit j = if j < 8 then b.testBit j else (val r).testBit (j - 8) := fun j => by
      show (val r * 256 + b).testBit j = _
      rw [Nat.mul_comm, show (256 : Nat) = 2 ^ 8 by rfl, Nat.testBit_two_pow_mul_add (val r) hb]
    congr 1
    · unfold cnt
      congr 1
      apply List.filter_congr
      intro j hj
      rw [tb, if_pos (List.mem_range.1 hj)]
    · unfold cnt
      congr 1
      apply List.filter_congr
      intro j _
      rw [tb, if_neg (by omega), show 8 + j - 8 = j by omega]
set_option maxRecDepth 100000 in
/-- All bytes together. -/
theorem step_d (a b c d e f g h : Nat) (ha : a ≤ 8) (hb : b ≤ 8) (hc : c ≤ 8) (hd : d ≤ 8) (he : e ≤ 8) (hf : f ≤ 8) (hg : g ≤ 8) (hh : h ≤ 8) (x y z : Nat)
    (hx : x = val [a, b, c, d, e, f, g, h] + val [a, b, c, d, e, f, g, h] / 256) (hy : y = x + x / 65536) (hz : z = y + y / 4294967296) :
    x < 18446744073709551616 ∧ y < 18446744073709551616 ∧ z < 9223372036854775808 ∧ z % 128 = a + b + c + d + e + f + g + h := by
  simp only [val] at hx
  have hx2 : x = h * 72057594037927936 + (g + h) * 281474976710656 + (f + g) * 1099511627776 + (e + f) * 4294967296 + (d + e) * 16777216 + (c + d) * 65536 + (b + c) * 256 + (a + b) := by omega
  clear hx
  have hy2 : y = h * 72057594037927936 + (g + h) * 281474976710656 + (f + g + h) * 1099511627776 + (e + f + g + h) * 4294967296 + (d + e + f + g) * 16777216 + (c + d + e + f) * 65536 + (b + c + d + e) * 256 + (a + b + c + d) := by omega
  have hx3 : x < 18446744073709551616 := by omega
  clear hy hx2
  have hz2 : z = h * 72057594037927936 + (g + h) * 281474976710656 + (f + g + h) * 1099511627776 + (e + f + g + h) * 4294967296 + (d + e + f + g + h) * 16777216 + (c + d + e + f + g + h) * 65536 + (b + c + d + e + f + g + h) * 256 + (a + b + c + d + e + f + g + h) := by omega
  refine ⟨hx3, by omega, by omega, by omega⟩
/-- How many ones a word has, as it is reckoned. -/
theorem ones_ok (x : Nat) (hx : x < 18446744073709551616) :
    ∃ x1 x2 x3 x4 x5 x6 : Nat, (x / 2 &&& 6148914691236517205) + (x &&& 6148914691236517205) = x1 ∧ (x1 / 4 &&& 3689348814741910323) + (x1 &&& 3689348814741910323) = x2 ∧
      (x2 / 16 + x2) &&& 1085102592571150095 = x3 ∧ x3 + x3 / 256 = x4 ∧ x4 + x4 / 65536 = x5 ∧ x5 + x5 / 4294967296 = x6 ∧ x6 % 128 = (bitsOf x).length ∧
      x1 < 18446744073709551616 ∧ x2 < 18446744073709551616 ∧ x2 / 16 + x2 < 18446744073709551616 ∧ x3 < 18446744073709551616 ∧ x4 < 18446744073709551616 ∧ x5 < 18446744073709551616 ∧ x6 < 9223372036854775808 := by
  have hv := val_bytes 8 x hx
  have hl := bytes_lt 8 x
  have hc := cnt_val (bytesOf 8 x) hl
  rw [hv, show 8 * (bytesOf 8 x).length = 64 by rfl] at hc
  obtain ⟨b0, b1, b2, b3, b4, b5, b6, b7, hB⟩ : ∃ b0 b1 b2 b3 b4 b5 b6 b7, bytesOf 8 x = [b0, b1, b2, b3, b4, b5, b6, b7] := ⟨_, _, _, _, _, _, _, _, rfl⟩
  rw [hB] at hv hl hc
  clear hB
  have o0 := byte_ok b0 (hl _ (by simp))
  have o1 := byte_ok b1 (hl _ (by simp))
  have o2 := byte_ok b2 (hl _ (by simp))
  have o3 := byte_ok b3 (hl _ (by simp))
  have o4 := byte_ok b4 (hl _ (by simp))
  have o5 := byte_ok b5 (hl _ (by simp))
  have o6 := byte_ok b6 (hl _ (by simp))
  have o7 := byte_ok b7 (hl _ (by simp))
  have sa := step_a _ hl
  have sb := step_b ([b0, b1, b2, b3, b4, b5, b6, b7].map pa) (by simp; omega)
  have sc := (step_c (([b0, b1, b2, b3, b4, b5, b6, b7].map pa).map pb) (by simp; omega)).1
  have r1 : rep 85 [b0, b1, b2, b3, b4, b5, b6, b7] = 6148914691236517205 := by simp [rep, val]
  have r2 : rep 51 ([b0, b1, b2, b3, b4, b5, b6, b7].map pa) = 3689348814741910323 := by simp [rep, val]
  have r3 : rep 15 (([b0, b1, b2, b3, b4, b5, b6, b7].map pa).map pb) = 1085102592571150095 := by simp [rep, val]
  rw [r1, hv] at sa
  rw [r2] at sb
  rw [r3] at sc
  simp only [List.map_cons, List.map_nil] at sa sb sc hc
  simp only [List.sum_cons, List.sum_nil] at hc
  have c8 : ∀ p : Nat → Bool, cnt p 8 ≤ 8 := fun p => by unfold cnt; exact Nat.le_trans (List.length_filter_le _ _) (by simp)
  rw [o0.1, o1.1, o2.1, o3.1, o4.1, o5.1, o6.1, o7.1] at sc
  have sd := step_d _ _ _ _ _ _ _ _ (c8 b0.testBit) (c8 b1.testBit) (c8 b2.testBit) (c8 b3.testBit) (c8 b4.testBit) (c8 b5.testBit) (c8 b6.testBit) (c8 b7.testBit) _ _ _ rfl rfl rfl
  have hv1 : val [pa b0, pa b1, pa b2, pa b3, pa b4, pa b5, pa b6, pa b7] < 18446744073709551616 := by simp only [val]; omega
  have hv2 : val [pb (pa b0), pb (pa b1), pb (pa b2), pb (pa b3), pb (pa b4), pb (pa b5), pb (pa b6), pb (pa b7)] < 18446744073709551616 / 2 := by simp only [val]; omega
  have hv3 := c8 b0.testBit
  refine ⟨_, _, _, _, _, _, sa, sb, sc, rfl, rfl, rfl, ?_, hv1, by omega, by omega, ?_, sd.1, sd.2.1, sd.2.2.1⟩
  · rw [sd.2.2.2]
    show _ = cnt x.testBit 64
    omega
  · have := sd.1; omega
end Go.Proofs.YtgcclijdkcomiaaDoor
