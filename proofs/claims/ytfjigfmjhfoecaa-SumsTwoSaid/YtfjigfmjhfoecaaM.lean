/- Plain mathematics of layer 2 (sums): a sum further by a byte, that it is linear, that it loses nothing. Nothing of the program's translation is used here. -/
import Derived.Test.YtfjigfmjhfoecaaA
namespace Go.Proofs.Ytfjigfmjhfoecaa
set_option linter.unusedVariables false

/-- One bit further. -/
def sh (x : Nat) : Nat := if x % 2 = 1 then (x / 2) ^^^ 2197175160 else x / 2
/-- k bits further. -/
def shs : Nat → Nat → Nat
  | 0, x => x
  | k + 1, x => sh (shs k x)
theorem shs_succ (k x : Nat) : shs (k + 1) x = sh (shs k x) := rfl
theorem shs_nil (x : Nat) : shs 0 x = x := rfl
theorem shs_add (a b x : Nat) : shs (a + b) x = shs a (shs b x) := by
  induction a with
  | zero => rw [Nat.zero_add]; rfl
  | succ a ih => rw [Nat.succ_add]; show sh (shs (a + b) x) = sh (shs a (shs b x)); rw [ih]
theorem xor_mod2 (a b : Nat) : (a ^^^ b) % 2 = (a % 2 + b % 2) % 2 := by
  have h := Nat.xor_mod_two_pow (a := a) (b := b) (n := 1)
  rw [Nat.pow_one] at h
  rw [h]
  rcases Nat.mod_two_eq_zero_or_one a with h1 | h1 <;> rcases Nat.mod_two_eq_zero_or_one b with h2 | h2 <;> rw [h1, h2] <;> rfl
theorem xor_div2 (a b : Nat) : (a ^^^ b) / 2 = (a / 2) ^^^ (b / 2) := by
  have h := Nat.xor_div_two_pow (a := a) (b := b) (n := 1)
  simpa using h
theorem sh_xor (a b : Nat) : sh (a ^^^ b) = sh a ^^^ sh b := by
  unfold sh
  rw [xor_mod2, xor_div2]
  rcases Nat.mod_two_eq_zero_or_one a with h1 | h1 <;> rcases Nat.mod_two_eq_zero_or_one b with h2 | h2 <;> rw [h1, h2] <;> simp
  · rw [Nat.xor_assoc]
  · rw [Nat.xor_assoc, Nat.xor_assoc, Nat.xor_comm 2197175160]
  · rw [Nat.xor_comm (b / 2), ← Nat.xor_assoc (a / 2 ^^^ _), Nat.xor_assoc (a / 2), Nat.xor_self, Nat.xor_zero]
theorem shs_xor (k a b : Nat) : shs k (a ^^^ b) = shs k a ^^^ shs k b := by
  induction k with
  | zero => rfl
  | succ k ih => show sh (shs k (a ^^^ b)) = sh (shs k a) ^^^ sh (shs k b); rw [ih, sh_xor]
theorem sh_zero : sh 0 = 0 := rfl
theorem shs_zero (k : Nat) : shs k 0 = 0 := by
  induction k with
  | zero => rfl
  | succ k ih => show sh (shs k 0) = 0; rw [ih]; rfl
theorem sh_two (x : Nat) : sh (2 * x) = x := by unfold sh; rw [if_neg (by omega)]; omega
theorem shs_pow (k x : Nat) : shs k (2 ^ k * x) = x := by
  induction k generalizing x with
  | zero => simp [shs]
  | succ k ih =>
    show sh (shs k (2 ^ (k + 1) * x)) = x
    rw [Nat.pow_succ, Nat.mul_assoc, ih, sh_two]
theorem sh_lt {x : Nat} (h : x < 4294967296) : sh x < 4294967296 := by
  unfold sh
  split
  · exact Nat.xor_lt_two_pow (n := 32) (by omega) (by omega)
  · omega
theorem shs_lt {x : Nat} (k : Nat) (h : x < 4294967296) : shs k x < 4294967296 := by
  induction k with
  | zero => exact h
  | succ k ih => exact sh_lt ih
theorem xor_cancel {a b : Nat} (c : Nat) (h : a ^^^ c = b ^^^ c) : a = b := by
  have h3 : (a ^^^ c) ^^^ c = (b ^^^ c) ^^^ c := by rw [h]
  rwa [Nat.xor_assoc, Nat.xor_self, Nat.xor_zero, Nat.xor_assoc, Nat.xor_self, Nat.xor_zero] at h3
theorem xor_zero {a b : Nat} (h : a ^^^ b = 0) : a = b := xor_cancel b (by rw [h, Nat.xor_self])
theorem sh_inj0 {x : Nat} (h : x < 4294967296) (h0 : sh x = 0) : x = 0 := by
  unfold sh at h0
  split at h0
  · have := xor_zero h0
    omega
  · omega
theorem shs_inj0 {x : Nat} (k : Nat) (h : x < 4294967296) (h0 : shs k x = 0) : x = 0 := by
  induction k with
  | zero => exact h0
  | succ k ih => exact ih (sh_inj0 (shs_lt k h) h0)
theorem xor_lt {a b : Nat} (ha : a < 4294967296) (hb : b < 4294967296) : a ^^^ b < 4294967296 := Nat.xor_lt_two_pow (n := 32) ha hb
theorem shs_inj {a b : Nat} (k : Nat) (ha : a < 4294967296) (hb : b < 4294967296) (h : shs k a = shs k b) : a = b :=
  xor_zero (shs_inj0 k (xor_lt ha hb) (by rw [shs_xor, h, Nat.xor_self]))

/-! ### A sum further by a byte, and by bytes -/
def stp (x c : Nat) : Nat := shs 8 (x ^^^ c)
def fld (x : Nat) (l : List Nat) : Nat := l.foldl stp x
def more (s : Nat) (l : List Nat) : Nat := fld (s ^^^ 4294967295) l ^^^ 4294967295
theorem fld_nil (x : Nat) : fld x [] = x := rfl
theorem fld_cons (x c : Nat) (l : List Nat) : fld x (c :: l) = fld (stp x c) l := by unfold fld; rw [List.foldl_cons]
theorem fld_append (x : Nat) (l m : List Nat) : fld x (l ++ m) = fld (fld x l) m := by unfold fld; rw [List.foldl_append]
theorem stp_lt {x c : Nat} (hx : x < 4294967296) (hc : c < 256) : stp x c < 4294967296 := shs_lt 8 (xor_lt hx (by omega))
theorem fld_lt : ∀ (l : List Nat) (x : Nat), x < 4294967296 → (∀ c ∈ l, c < 256) → fld x l < 4294967296
  | [], x, hx, _ => hx
  | c :: l, x, hx, h => fld_lt l _ (stp_lt hx (h c (by simp))) (fun d hd => h d (by simp [hd]))
theorem more_lt {s : Nat} {l : List Nat} (hs : s < 4294967296) (h : ∀ c ∈ l, c < 256) : more s l < 4294967296 := xor_lt (fld_lt l _ (xor_lt hs (by omega)) h) (by omega)
/-- The way by a table: the lowest byte alone decides. -/
theorem stp_table {x c : Nat} (hc : c < 256) : stp x c = shs 8 ((x % 256) ^^^ c) ^^^ (x / 256) := by
  have e : x = (x % 256) ^^^ (2 ^ 8 * (x / 256)) := by
    have h1 := Nat.two_pow_add_eq_or_of_lt (i := 8) (b := x % 256) (by omega) (x / 256)
    have h2 : (x % 256) ^^^ (2 ^ 8 * (x / 256)) = 2 ^ 8 * (x / 256) ||| x % 256 := by
      apply Nat.eq_of_testBit_eq
      intro i
      rw [Nat.testBit_xor, Nat.testBit_or]
      by_cases hi : i < 8
      · have : (2 ^ 8 * (x / 256)).testBit i = false := by rw [Nat.testBit_two_pow_mul]; simp; omega
        rw [this]; simp
      · have : (x % 256).testBit i = false := Nat.testBit_lt_two_pow (Nat.lt_of_lt_of_le (show x % 256 < 2 ^ 8 by omega) (Nat.pow_le_pow_right (by omega) (by omega)))
        rw [this]; simp
    rw [h2, ← h1]
    omega
  have hx : x ^^^ c = ((x % 256) ^^^ c) ^^^ (2 ^ 8 * (x / 256)) := by
    conv => lhs; rw [e]
    rw [Nat.xor_assoc, Nat.xor_comm _ c, ← Nat.xor_assoc]
  unfold stp
  rw [hx, shs_xor, shs_pow]
theorem more_more {s : Nat} {l m : List Nat} : more (more s l) m = more s (l ++ m) := by
  unfold more
  rw [Nat.xor_assoc (fld _ l), Nat.xor_self, Nat.xor_zero, fld_append]
theorem stp_xor (x y c d : Nat) : stp (x ^^^ y) (c ^^^ d) = stp x c ^^^ stp y d := by
  unfold stp
  rw [← shs_xor]
  congr 1
  rw [Nat.xor_assoc, Nat.xor_assoc, ← Nat.xor_assoc y, Nat.xor_comm y c, Nat.xor_assoc c]
def xors : List Nat → List Nat → List Nat := List.zipWith (· ^^^ ·)
theorem fld_xor : ∀ (l m : List Nat) (x y : Nat), l.length = m.length → fld (x ^^^ y) (xors l m) = fld x l ^^^ fld y m
  | [], [], x, y, _ => rfl
  | [], _ :: _, x, y, h => by simp at h
  | _ :: _, [], x, y, h => by simp at h
  | c :: l, d :: m, x, y, h => by
    show fld (stp (x ^^^ y) (c ^^^ d)) (xors l m) = _
    rw [stp_xor, fld_xor l m _ _ (by simpa using h)]
    rfl
theorem fld_inj : ∀ (l : List Nat) (x y : Nat), x < 4294967296 → y < 4294967296 → (∀ c ∈ l, c < 256) → fld x l = fld y l → x = y
  | [], x, y, _, _, _, h => h
  | c :: l, x, y, hx, hy, hc, h => by
    have h0 := hc c (by simp)
    have h1 := fld_inj l _ _ (stp_lt hx h0) (stp_lt hy h0) (fun d hd => hc d (by simp [hd])) h
    have h2 := shs_inj 8 (xor_lt hx (by omega)) (xor_lt hy (by omega)) h1
    have h3 : (x ^^^ c) ^^^ c = (y ^^^ c) ^^^ c := by rw [h2]
    rwa [Nat.xor_assoc, Nat.xor_self, Nat.xor_zero, Nat.xor_assoc, Nat.xor_self, Nat.xor_zero] at h3
theorem more_inj {l : List Nat} {x y : Nat} (hx : x < 4294967296) (hy : y < 4294967296) (hc : ∀ c ∈ l, c < 256) : more x l = more y l ↔ x = y :=
  ⟨fun h => xor_cancel _ (fld_inj l _ _ (xor_lt hx (by omega)) (xor_lt hy (by omega)) hc (xor_cancel _ h)), fun h => by rw [h]⟩

theorem fld_zeros (n : Nat) : fld 0 (List.replicate n 0) = 0 := by
  induction n with
  | zero => rfl
  | succ n ih => rw [List.replicate_succ, fld_cons]; show fld (shs 8 0) _ = 0; rw [shs_zero]; exact ih
/-- Four bytes as one number, the lowest first. -/
def four (a b c d : Nat) : Nat := a ^^^ (2 ^ 8 * b) ^^^ (2 ^ 16 * c) ^^^ (2 ^ 24 * d)
theorem fld_four (x a b c d : Nat) : fld x [a, b, c, d] = shs 32 (x ^^^ four a b c d) := by
  show stp (stp (stp (stp x a) b) c) d = _
  unfold stp four
  have e1 : ∀ y, shs 8 y ^^^ b = shs 8 (y ^^^ 2 ^ 8 * b) := fun y => by rw [shs_xor, shs_pow]
  have e2 : ∀ y, shs 8 (shs 8 y) ^^^ c = shs 8 (shs 8 (y ^^^ 2 ^ 16 * c)) := fun y => by
    rw [← shs_add, ← shs_add, shs_xor, shs_pow]
  have e3 : ∀ y, shs 8 (shs 8 (shs 8 y)) ^^^ d = shs 8 (shs 8 (shs 8 (y ^^^ 2 ^ 24 * d))) := fun y => by
    rw [← shs_add, ← shs_add, ← shs_add, ← shs_add, shs_xor, shs_pow]
  rw [e1, e2, e3, ← shs_add, ← shs_add, ← shs_add]
  simp only [Nat.xor_assoc]
theorem bits_apart {i y b : Nat} (hb : b < 2 ^ i) : b ^^^ (2 ^ i * y) = b + 2 ^ i * y := by
  have h2 : b ^^^ (2 ^ i * y) = 2 ^ i * y ||| b := by
    apply Nat.eq_of_testBit_eq
    intro k
    rw [Nat.testBit_xor, Nat.testBit_or]
    by_cases hi : k < i
    · have : (2 ^ i * y).testBit k = false := by rw [Nat.testBit_two_pow_mul]; simp; omega
      rw [this]; simp
    · have : b.testBit k = false := Nat.testBit_lt_two_pow (Nat.lt_of_lt_of_le hb (Nat.pow_le_pow_right (by omega) (by omega)))
      rw [this]; simp
  rw [h2, ← Nat.two_pow_add_eq_or_of_lt hb]
  omega
theorem four_sum {a b c d : Nat} (ha : a < 256) (hb : b < 256) (hc : c < 256) : four a b c d = a + 256 * b + 65536 * c + 16777216 * d := by
  unfold four
  rw [bits_apart (i := 8) (by omega), bits_apart (i := 16) (by omega), bits_apart (i := 24) (by omega)]
theorem four_bytes {x : Nat} (hx : x < 4294967296) : four (x % 256) (x / 256 % 256) (x / 65536 % 256) (x / 16777216 % 256) = x := by
  rw [four_sum (by omega) (by omega) (by omega)]
  omega
/-- What SumsOwn says. -/
theorem own_sum {x : Nat} (hx : x < 4294967296) : more x [x % 256, x / 256 % 256, x / 65536 % 256, x / 16777216 % 256] = 1214729159 := by
  unfold more
  rw [fld_four, four_bytes hx, Nat.xor_comm x, Nat.xor_assoc, Nat.xor_self, Nat.xor_zero]
  decide +kernel
theorem own_other {x y : Nat} (hx : x < 4294967296) (hy : y < 4294967296) : more x [y % 256, y / 256 % 256, y / 65536 % 256, y / 16777216 % 256] = 1214729159 ↔ y = x := by
  constructor
  · intro h
    rw [← own_sum hx] at h
    have h1 := xor_cancel _ h
    rw [fld_four, fld_four, four_bytes hx, four_bytes hy] at h1
    have h2 := shs_inj 32 (xor_lt (xor_lt hx (by omega)) hy) (xor_lt (xor_lt hx (by omega)) hx) h1
    rw [Nat.xor_comm _ y, Nat.xor_comm _ x] at h2
    exact xor_cancel _ (by rw [Nat.xor_comm x] at h2; exact h2)
  · rintro rfl; exact own_sum hx
end Go.Proofs.Ytfjigfmjhfoecaa
