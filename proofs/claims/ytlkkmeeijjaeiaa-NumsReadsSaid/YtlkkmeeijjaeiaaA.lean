/- Plain mathematics of layer 1 (nums): numbers in bytes of 7 bits, and the words by which the walks speak of slices. Nothing of the program's translation is used here. -/
import Derived.WalkKit
import Derived.Below
import Derived.Lib.Hide
import Derived.Laws.BitsAllLaws
namespace Go.Proofs.Ytlkkmeeijjaeiaa
open Go.RowKit
set_option linter.unusedVariables false

/-- A slice value at A reads, in w, as the integers xs of kind k; where it has an element it lies below block B. -/
def Rd (k : IntKind) (w : World) (B : Nat) (A : Option Addr) (xs : List Int) : Prop :=
  0 < xs.length → ∃ b off, A = some ⟨b, off, none⟩ ∧ b < B ∧ ∀ i, i < xs.length → w.cell? ⟨b, off + i, none⟩ = some (.int k (xs[i]?.getD 0))
theorem Rd.at_ {k : IntKind} {w : World} {B : Nat} {A : Option Addr} {xs : List Int} (h : Rd k w B A xs) {i : Nat} (hi : i < xs.length) :
    ∃ b off v, A = some ⟨b, off, none⟩ ∧ b < B ∧ w.cell? ⟨b, off + i, none⟩ = some (.int k v) ∧ Hid (xs[i]?.getD 0 = v) := by
  obtain ⟨b, off, hA, hB, hc⟩ := h (by omega)
  exact ⟨b, off, _, hA, hB, hc i hi, rfl⟩
theorem Rd.below {k : IntKind} {w w' : World} {B : Nat} {A : Option Addr} {xs : List Int} (h : Rd k w B A xs) (hb : Below B w w') : Rd k w' B A xs := fun hl => by
  obtain ⟨b, off, hA, hB, hc⟩ := h hl
  exact ⟨b, off, hA, hB, fun i hi => (hb.cell (p := ⟨b, off + i, none⟩) hB).trans (hc i hi)⟩
theorem Rd.more {k : IntKind} {w : World} {B B' : Nat} {A : Option Addr} {xs : List Int} (h : Rd k w B A xs) (hB : B ≤ B') : Rd k w B' A xs := fun hl => by
  obtain ⟨b, off, hA, hb, hc⟩ := h hl
  exact ⟨b, off, hA, by omega, hc⟩
theorem Rd.take {k : IntKind} {w : World} {B : Nat} {A : Option Addr} {xs : List Int} (h : Rd k w B A xs) (n : Nat) : Rd k w B A (xs.take n) := fun hl => by
  rw [List.length_take] at hl
  obtain ⟨b, off, hA, hb, hc⟩ := h (by omega)
  refine ⟨b, off, hA, hb, fun i hi => ?_⟩
  rw [List.length_take] at hi
  rw [hc i (by omega), List.getElem?_take, if_pos (by omega)]
/-- 's[k:]' of a slice that reads as xs. -/
theorem Rd.drop {k : IntKind} {w : World} {B : Nat} {A : Option Addr} {xs : List Int} (h : Rd k w B A xs) {n cap : Nat} (hcap : xs.length ≤ cap) :
    Rd k w B (if cap = n then A else A.map (·.add n)) (xs.drop n) := fun hl => by
  rw [List.length_drop] at hl
  obtain ⟨b, off, rfl, hb, hc⟩ := h (by omega)
  rw [if_neg (by omega)]
  refine ⟨b, off + n, ?_, hb, fun i hi => ?_⟩
  · simp only [Option.map_some, Addr.add]; split <;> simp_all
  · rw [List.length_drop] at hi
    rw [Nat.add_assoc, hc (n + i) (by omega), List.getElem?_drop]

/-! ### How many bytes lead -/
def lead : List Int → Nat
  | [] => 0
  | x :: r => if 128 ≤ x then lead r + 1 else 0
theorem lead_le : ∀ xs : List Int, lead xs ≤ xs.length
  | [] => Nat.le_refl _
  | x :: r => by have := lead_le r; simp only [lead, List.length_cons]; split <;> omega
theorem lead_step : ∀ (xs : List Int) (k : Nat), k ≤ lead xs → k < xs.length → 128 ≤ xs[k]?.getD 0 → k + 1 ≤ lead xs
  | [], k, _, h, _ => by simp at h
  | x :: r, 0, _, _, h => by simp at h; simp [lead, h]
  | x :: r, k + 1, h1, h2, h3 => by
    simp only [lead] at h1 ⊢
    split at h1
    · rename_i hx
      rw [if_pos hx]
      have := lead_step r k (by omega) (by simpa using h2) (by simpa using h3)
      omega
    · omega
theorem lead_stop : ∀ (xs : List Int) (k : Nat), k ≤ lead xs → k < xs.length → xs[k]?.getD 0 < 128 → lead xs = k
  | [], k, _, h, _ => by simp at h
  | x :: r, 0, _, _, h => by simp at h; simp [lead]; omega
  | x :: r, k + 1, h1, h2, h3 => by
    simp only [lead] at h1 ⊢
    split at h1
    · rename_i hx
      rw [if_pos hx]
      have := lead_stop r k (by omega) (by simpa using h2) (by simpa using h3)
      omega
    · omega
theorem lead_at : ∀ (xs : List Int), lead xs < xs.length → xs[lead xs]?.getD 0 < 128
  | [], h => by simp at h
  | x :: r, h => by
    by_cases hx : 128 ≤ x
    · simp only [lead, if_pos hx] at h ⊢
      simpa using lead_at r (by simpa using h)
    · simp only [lead, if_neg hx]; simp; omega
theorem lead_all : ∀ (xs : List Int) (i : Nat), i < lead xs → 128 ≤ xs[i]?.getD 0
  | [], i, h => by simp [lead] at h
  | x :: r, 0, h => by
    by_cases hx : 128 ≤ x
    · simpa using hx
    · simp [lead, if_neg hx] at h
  | x :: r, i + 1, h => by
    by_cases hx : 128 ≤ x
    · simp only [lead, if_pos hx] at h
      simpa using lead_all r i (by omega)
    · simp [lead, if_neg hx] at h
def szN (xs : List Int) : Int := if 9 ≤ lead xs ∨ xs.length ≤ lead xs then 0 else lead xs + 1
def szE (xs : List Int) : Int := if 9 ≤ lead xs then 5 else if xs.length ≤ lead xs then 4 else 0
theorem sz_stop (xs : List Int) (k : Nat) (h : lead xs = k) (h9 : k < 9) (hl : k < xs.length) : szN xs = k + 1 ∧ szE xs = 0 := by
  unfold szN szE; rw [h]; constructor
  · rw [if_neg (by omega)]
  · rw [if_neg (by omega), if_neg (by omega)]
theorem sz_short (xs : List Int) (h9 : xs.length < 9) (hl : xs.length ≤ lead xs) : szN xs = 0 ∧ szE xs = 4 := by
  have := lead_le xs
  unfold szN szE; constructor
  · rw [if_pos (by omega)]
  · rw [if_neg (by omega), if_pos (by omega)]
theorem sz_long (xs : List Int) (hl : 9 ≤ lead xs) : szN xs = 0 ∧ szE xs = 5 := by
  unfold szN szE; constructor
  · rw [if_pos (by omega)]
  · rw [if_pos (by omega)]
theorem ret2 {k l : IntKind} {a b c d : Int} (h : a = b) (g : c = d) : Ending.returned (.tuple #[.int k a, .int l c]) = .returned (.tuple #[.int k b, .int l d]) := by rw [h, g]
theorem ret3 {k l m : IntKind} {a b c d e f : Int} (h : a = b) (g : c = d) (i : e = f) : Ending.returned (.tuple #[.int k a, .int l c, .int m e]) = .returned (.tuple #[.int k b, .int l d, .int m f]) := by rw [h, g, i]
theorem ret1 {k : IntKind} {a b : Int} (h : a = b) : Ending.returned (.int k a) = .returned (.int k b) := by rw [h]

/-! ### What bytes of 7 bits tell -/
def val : List Int → Int
  | [] => 0
  | x :: r => x % 128 + 128 * val r
theorem val_bd : ∀ xs : List Int, 0 ≤ val xs ∧ val xs < 128 ^ xs.length
  | [] => by simp [val]
  | x :: r => by
    have := val_bd r
    simp only [val, List.length_cons, Int.pow_succ]
    omega
theorem val_snoc : ∀ (xs : List Int) (x : Int), val (xs ++ [x]) = val xs + x % 128 * 128 ^ xs.length
  | [], x => by simp [val]
  | y :: r, x => by
    simp only [List.cons_append, val, val_snoc r x, List.length_cons, Int.pow_succ]
    rw [Int.mul_add, Int.add_assoc, Int.mul_comm 128 (x % 128 * 128 ^ r.length), Int.mul_assoc]
theorem val_take (xs : List Int) (k : Nat) (v : Int) (hk : k < xs.length) (hv : xs[k]?.getD 0 = v) : val (xs.take (k + 1)) = val (xs.take k) + v % 128 * 128 ^ k := by
  have h : xs.take (k + 1) = xs.take k ++ [v] := by
    rw [List.take_succ_eq_append_getElem hk, ← hv, List.getElem?_eq_getElem hk]; rfl
  rw [h, val_snoc, List.length_take, Nat.min_eq_left (by omega)]
theorem pow_7 (k : Nat) : (2 : Int) ^ (7 * k) = 128 ^ k := by rw [Int.pow_mul]; rfl
theorem or_step (n v : Int) (k : Nat) (hk : k ≤ 8) (h0 : 0 ≤ n) (h1 : n < 128 ^ k) (hv : 0 ≤ v) :
    bits .or .u64 n (IntKind.u64.wrap (v % 128 * 2 ^ (7 * k))) = n + v % 128 * 128 ^ k := by
  have hp : (2 : Int) ^ (7 * k) = 128 ^ k := pow_7 k
  have hpN : (2 : Nat) ^ (7 * k) = 128 ^ k := by rw [Nat.pow_mul]
  have hle : (128 : Nat) ^ k ≤ 128 ^ 8 := Nat.pow_le_pow_right (by omega) hk
  obtain ⟨N, rfl⟩ := Int.eq_ofNat_of_zero_le h0
  obtain ⟨V, hV⟩ := Int.eq_ofNat_of_zero_le (show 0 ≤ v % 128 by omega)
  have hV2 : V < 128 := by omega
  have hN : N < 128 ^ k := by exact_mod_cast h1
  have hm : V * 128 ^ k ≤ 127 * 128 ^ 8 := Nat.mul_le_mul (by omega) hle
  rw [hV, hp]
  have e1 : ((V : Int) * 128 ^ k) = ((V * 128 ^ k : Nat) : Int) := by push_cast; rfl
  rw [e1]
  have e2 : IntKind.u64.wrap ((V * 128 ^ k : Nat) : Int) = ((V * 128 ^ k : Nat) : Int) := by
    rw [IntKind.wrap_u64]; omega
  rw [e2, u64_or_nat N (V * 128 ^ k) (by omega) (by omega)]
  have e3 : N ||| V * 128 ^ k = N + V * 128 ^ k := by
    rw [← hpN, Nat.or_comm, Nat.mul_comm V, ← Nat.two_pow_add_eq_or_of_lt (by rw [hpN]; exact hN)]
    omega
  rw [e3]
  push_cast
  rfl

/-! ### Get -/
def maxNum : Int := 4611686018427387903
def getE (xs : List Int) : Int :=
  if szE xs ≠ 0 then szE xs else if (0 < lead xs ∧ xs[lead xs]?.getD 0 = 0) ∨ maxNum < val (xs.take (lead xs + 1)) then 5 else 0
def getN (xs : List Int) : Int := if getE xs = 0 then val (xs.take (lead xs + 1)) else 0
def getK (xs : List Int) : Int := if getE xs = 0 then lead xs + 1 else 0
theorem get_bad {xs : List Int} (h : getE xs ≠ 0) : getN xs = 0 ∧ getK xs = 0 := ⟨by unfold getN; rw [if_neg h], by unfold getK; rw [if_neg h]⟩
theorem szE_cases (xs : List Int) : szE xs = 5 ∨ szE xs = 4 ∨ (szE xs = 0 ∧ lead xs < 9 ∧ lead xs < xs.length ∧ szN xs = lead xs + 1) := by
  unfold szE szN
  by_cases h9 : 9 ≤ lead xs
  · exact .inl (by rw [if_pos h9])
  · by_cases hl : xs.length ≤ lead xs
    · exact .inr (.inl (by rw [if_neg h9, if_pos hl]))
    · exact .inr (.inr ⟨by rw [if_neg h9, if_neg hl], by omega, by omega, by rw [if_neg (by omega)]⟩)
theorem get_sz {xs : List Int} (h : szE xs ≠ 0) : getE xs = szE xs := by unfold getE; rw [if_pos h]
theorem get_zero {xs : List Int} (h : szE xs = 0) (h1 : 0 < lead xs) (h2 : xs[lead xs]?.getD 0 = 0) : getE xs = 5 := by
  unfold getE; rw [if_neg (by omega), if_pos (.inl ⟨h1, h2⟩)]
theorem get_great {xs : List Int} (h : szE xs = 0) (h2 : maxNum < val (xs.take (lead xs + 1))) : getE xs = 5 := by
  unfold getE; rw [if_neg (by omega), if_pos (.inr h2)]
theorem get_ok {xs : List Int} (h : szE xs = 0) (h1 : lead xs = 0 ∨ xs[lead xs]?.getD 0 ≠ 0) (h2 : val (xs.take (lead xs + 1)) ≤ maxNum) :
    getE xs = 0 ∧ getN xs = val (xs.take (lead xs + 1)) ∧ getK xs = lead xs + 1 := by
  have e : getE xs = 0 := by
    unfold getE; rw [if_neg (by omega), if_neg (by omega)]
  exact ⟨e, by unfold getN; rw [if_pos e], by unfold getK; rw [if_pos e]⟩
end Go.Proofs.Ytlkkmeeijjaeiaa
