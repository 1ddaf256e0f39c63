/- Plain mathematics of layer 6 (draws): the number of a seed, that no other seed has it, the draws of a shuffle, what it leaves. Nothing of the program's translation is used here. -/
import Derived.Test.YthbimjkcpmffcaaA
namespace Go.Proofs.Ythbimjkcpmffcaa
set_option linter.unusedVariables false

def behindOf (s : Nat) : Nat := (s + 11400714819323198485) % 18446744073709551616
def mixA (z : Nat) : Nat := (z ^^^ z / 1073741824) * 13787848793156543929 % 18446744073709551616
def mixB (z : Nat) : Nat := (z ^^^ z / 134217728) * 10723151780598845931 % 18446744073709551616
def mixC (z : Nat) : Nat := z ^^^ z / 2147483648
/-- The number of a seed. -/
def numOf (s : Nat) : Nat := mixC (mixB (mixA s))
theorem behindOf_lt (s : Nat) : behindOf s < 18446744073709551616 := Nat.mod_lt _ (by decide)
theorem mixA_lt (s : Nat) : mixA s < 18446744073709551616 := Nat.mod_lt _ (by decide)
theorem mixB_lt (s : Nat) : mixB s < 18446744073709551616 := Nat.mod_lt _ (by decide)
theorem xs_lt {z : Nat} (k : Nat) (h : z < 18446744073709551616) : z ^^^ z / k < 18446744073709551616 :=
  Nat.xor_lt_two_pow (n := 64) (by omega) (Nat.lt_of_le_of_lt (Nat.div_le_self _ _) (by omega))
theorem numOf_lt (s : Nat) : numOf s < 18446744073709551616 := xs_lt _ (mixB_lt _)
theorem xs_inj {x y : Nat} (k : Nat) (hk : 1 ≤ k) (hx : x < 18446744073709551616) (hy : y < 18446744073709551616) (h : x ^^^ x / 2 ^ k = y ^^^ y / 2 ^ k) : x = y := by
  have key : ∀ d i, 64 ≤ i + d → x.testBit i = y.testBit i := by
    intro d
    induction d with
    | zero =>
      intro i hi
      have hp : 18446744073709551616 ≤ 2 ^ i := by
        have : 2 ^ 64 ≤ 2 ^ i := Nat.pow_le_pow_right (by decide) (by omega)
        simpa using this
      rw [Nat.testBit_lt_two_pow (by omega), Nat.testBit_lt_two_pow (by omega)]
    | succ d ih =>
      intro i hi
      have h1 := congrArg (fun z => z.testBit i) h
      simp only [Nat.testBit_xor, Nat.testBit_div_two_pow] at h1
      rw [ih (i + k) (by omega)] at h1
      revert h1
      cases x.testBit i <;> cases y.testBit i <;> cases y.testBit (i + k) <;> decide
  exact Nat.eq_of_testBit_eq fun i => key 64 i (by omega)
theorem mul_inj {a b : Nat} (m v : Nat) (hm : m * v % 18446744073709551616 = 1) (ha : a < 18446744073709551616) (hb : b < 18446744073709551616) (h : a * m % 18446744073709551616 = b * m % 18446744073709551616) : a = b := by
  have key : ∀ c, c < 18446744073709551616 → c * m % 18446744073709551616 * v % 18446744073709551616 = c := by
    intro c hc
    rw [Nat.mod_mul_mod, Nat.mul_assoc, Nat.mul_mod, hm, Nat.mul_one, Nat.mod_mod, Nat.mod_eq_of_lt hc]
  rw [← key a ha, ← key b hb, h]
theorem numOf_inj {a b : Nat} (ha : a < 18446744073709551616) (hb : b < 18446744073709551616) (h : numOf a = numOf b) : a = b := by
  have h1 : mixB (mixA a) = mixB (mixA b) := xs_inj 31 (by omega) (mixB_lt _) (mixB_lt _) h
  have h2 := mul_inj 10723151780598845931 3573116690164977347 (by decide) (xs_lt _ (mixA_lt a)) (xs_lt _ (mixA_lt b)) h1
  have h3 : mixA a = mixA b := xs_inj 27 (by omega) (mixA_lt _) (mixA_lt _) h2
  have h4 := mul_inj 13787848793156543929 10871156337175269513 (by decide) (xs_lt _ ha) (xs_lt _ hb) h3
  exact xs_inj 30 (by omega) ha hb h4
theorem behindOf_inj {a b : Nat} (ha : a < 18446744073709551616) (hb : b < 18446744073709551616) (h : behindOf a = behindOf b) : a = b := by
  unfold behindOf at h; omega

/-- What stands at two places changes places. -/
def swapL (l : List Nat) (i j : Nat) : List Nat := (l.set i (l[j]?.getD 0)).set j (l[i]?.getD 0)
theorem swapL_len (l : List Nat) (i j : Nat) : (swapL l i j).length = l.length := by simp [swapL]
theorem swapL_perm (l : List Nat) {i j : Nat} (hi : i < l.length) (hj : j < l.length) : (swapL l i j).Perm l := by
  have h := (Array.swap_perm (xs := l.toArray) (i := i) (j := j) (by simpa using hi) (by simpa using hj)).toList
  simp only [Array.toList_swap, List.getElem_toArray] at h
  unfold swapL
  rw [List.getElem?_eq_getElem hi, List.getElem?_eq_getElem hj]
  simpa using h
/-- The draws from the place i on down: the place that is drawn, and the seed behind it. -/
def drs : Nat → Nat → List (Nat × Nat)
  | 0, _ => []
  | i + 1, s => (numOf (behindOf s) % (i + 2), behindOf s) :: drs i (behindOf s)
/-- What draws leave of a list, from the place p on down. -/
def app : List Nat → Nat → List (Nat × Nat) → List Nat
  | l, _, [] => l
  | l, p, x :: r => app (swapL l p x.1) (p - 1) r
def lastOf : Nat → List (Nat × Nat) → Nat
  | s, [] => s
  | _, x :: r => lastOf x.2 r
theorem drs_succ (i s : Nat) : drs (i + 1) s = (numOf (behindOf s) % (i + 2), behindOf s) :: drs i (behindOf s) := rfl
theorem app_cons (l : List Nat) (p : Nat) (x : Nat × Nat) (r : List (Nat × Nat)) : app l p (x :: r) = app (swapL l p x.1) (p - 1) r := rfl
theorem lastOf_cons (s : Nat) (x : Nat × Nat) (r : List (Nat × Nat)) : lastOf s (x :: r) = lastOf x.2 r := rfl
theorem drs_len (i s : Nat) : (drs i s).length = i := by
  induction i generalizing s with
  | zero => rfl
  | succ i ih => rw [drs_succ, List.length_cons, ih]
theorem drs_bound (i s : Nat) : ∀ x ∈ drs i s, x.1 ≤ i ∧ x.2 < 18446744073709551616 := by
  induction i generalizing s with
  | zero => intro x hx; simp [drs] at hx
  | succ i ih =>
    intro x hx
    rw [drs_succ, List.mem_cons] at hx
    rcases hx with rfl | hx
    · exact ⟨by have := Nat.mod_lt (numOf (behindOf s)) (show 0 < i + 2 by omega); dsimp only; omega, behindOf_lt _⟩
    · have := ih _ x hx; omega
theorem app_snoc (l : List Nat) (p : Nat) (pre : List (Nat × Nat)) (x : Nat × Nat) : app l p (pre ++ [x]) = swapL (app l p pre) (p - pre.length) x.1 := by
  induction pre generalizing l p with
  | nil => rfl
  | cons y r ih =>
    show app (swapL l p y.1) (p - 1) (r ++ [x]) = swapL (app (swapL l p y.1) (p - 1) r) _ _
    rw [ih, List.length_cons]
    congr 1
    omega
theorem lastOf_snoc (s : Nat) (pre : List (Nat × Nat)) (x : Nat × Nat) : lastOf s (pre ++ [x]) = x.2 := by
  induction pre generalizing s with
  | nil => rfl
  | cons y r ih => exact ih _
theorem app_len (l : List Nat) (p : Nat) (r : List (Nat × Nat)) : (app l p r).length = l.length := by
  induction r generalizing l p with
  | nil => rfl
  | cons y r ih => show (app (swapL l p y.1) (p - 1) r).length = _; rw [ih, swapL_len]
theorem app_perm (i s : Nat) (l : List Nat) (h : i < l.length ∨ i = 0) : (app l i (drs i s)).Perm l := by
  induction i generalizing s l with
  | zero => exact List.Perm.refl _
  | succ i ih =>
    rw [drs_succ, app_cons]
    have hm := Nat.mod_lt (numOf (behindOf s)) (show 0 < i + 2 by omega)
    exact (ih _ _ (by rw [swapL_len]; omega)).trans (swapL_perm l (by omega) (by omega))
theorem lastOf_lt (i s : Nat) (hs : s < 18446744073709551616) : lastOf s (drs i s) < 18446744073709551616 := by
  induction i generalizing s with
  | zero => exact hs
  | succ i ih => rw [drs_succ, lastOf_cons]; exact ih _ (behindOf_lt _)
/-- The shuffle of the numbers below n, and the seed behind it. -/
def shufL (s n : Nat) : List Nat := app (List.range n) (n - 1) (drs (n - 1) s)
def shufS (s n : Nat) : Nat := lastOf s (drs (n - 1) s)
theorem shufL_len (s n : Nat) : (shufL s n).length = n := by unfold shufL; rw [app_len, List.length_range]
theorem shufL_perm (s n : Nat) : (shufL s n).Perm (List.range n) := app_perm _ _ _ (by rw [List.length_range]; omega)
theorem shufL_nodup (s n : Nat) : (shufL s n).Nodup := (shufL_perm s n).nodup_iff.2 List.nodup_range
theorem shufL_mem (s n x : Nat) : x ∈ shufL s n ↔ x < n := by rw [(shufL_perm s n).mem_iff, List.mem_range]
theorem shufS_lt (s n : Nat) (hs : s < 18446744073709551616) : shufS s n < 18446744073709551616 := lastOf_lt _ _ hs
theorem shufL_lt {s n i : Nat} (hi : i < n) : (shufL s n)[i]?.getD 0 < n := by
  have hl : i < (shufL s n).length := by rw [shufL_len]; exact hi
  rw [List.getElem?_eq_getElem hl, Option.getD_some]
  exact (shufL_mem s n _).1 (List.getElem_mem hl)

/-- The numbers of a list, rising. -/
def pickL (n : Nat) (l : List Nat) : List Nat := (List.range n).filter fun i => decide (i ∈ l)
theorem pickL_pairwise (n : Nat) (l : List Nat) : (pickL n l).Pairwise (· < ·) := List.Pairwise.filter _ List.pairwise_lt_range
theorem pickL_nodup (n : Nat) (l : List Nat) : (pickL n l).Nodup := List.nodup_range.sublist List.filter_sublist
theorem pickL_mem {n : Nat} {l : List Nat} (h : ∀ x ∈ l, x < n) (x : Nat) : x ∈ pickL n l ↔ x ∈ l := by
  unfold pickL
  rw [List.mem_filter, List.mem_range, decide_eq_true_eq]
  exact ⟨fun h1 => h1.2, fun h1 => ⟨h x h1, h1⟩⟩
theorem pickL_perm {n : Nat} {l : List Nat} (h : ∀ x ∈ l, x < n) (hn : l.Nodup) : (pickL n l).Perm l :=
  (List.perm_ext_iff_of_nodup (pickL_nodup n l) hn).2 fun x => pickL_mem h x
theorem pickL_len {n : Nat} {l : List Nat} (h : ∀ x ∈ l, x < n) (hn : l.Nodup) : (pickL n l).length = l.length := (pickL_perm h hn).length_eq
def ints (l : List Nat) : List Int := l.map fun x : Nat => (x : Int)
theorem ints_len (l : List Nat) : (ints l).length = l.length := by simp [ints]
theorem ints_at (l : List Nat) (i : Nat) : (ints l)[i]?.getD 0 = ((l[i]?.getD 0 : Nat) : Int) := by
  unfold ints
  rw [List.getElem?_map]
  cases l[i]? <;> rfl
theorem ints_take (l : List Nat) (k : Nat) : (ints l).take k = ints (l.take k) := by simp [ints, List.map_take]
/-- The library's order leaves just these. -/
theorem sort_pick {n : Nat} {l : List Nat} (h : ∀ x ∈ l, x < n) (hn : l.Nodup) : ((ints l).mergeSort fun x y => decide (x ≤ y)) = ints (pickL n l) := by
  have hp : ((ints l).mergeSort fun x y => decide (x ≤ y)).Perm (ints (pickL n l)) := (List.mergeSort_perm _ _).trans ((pickL_perm h hn).symm.map _)
  refine hp.eq_of_pairwise (le := fun a b : Int => a ≤ b) (fun a b _ _ h1 h2 => by omega) ?_ ?_
  · have := List.pairwise_mergeSort (le := fun x y : Int => decide (x ≤ y)) (fun a b c h1 h2 => by simp at *; omega) (fun a b => by simp; omega) (ints l)
    exact this.imp (fun h => by simpa using h)
  · exact (List.pairwise_map).2 ((pickL_pairwise n l).imp (fun h => by omega))
theorem take_ok (s n k : Nat) : (∀ x ∈ (shufL s n).take k, x < n) ∧ ((shufL s n).take k).Nodup :=
  ⟨fun x hx => (shufL_mem s n x).1 (List.mem_of_mem_take hx), (shufL_nodup s n).sublist (List.take_sublist _ _)⟩
/-- What Pick answers. -/
def pkL (s n k : Nat) : List Nat := pickL n ((shufL s n).take k)
theorem pkL_len {s n k : Nat} (h : k ≤ n) : (pkL s n k).length = k := by
  unfold pkL
  rw [pickL_len (take_ok s n k).1 (take_ok s n k).2, List.length_take, shufL_len]; omega
theorem pkL_lt {s n k x : Nat} (h : x ∈ pkL s n k) : x < n := by
  unfold pkL pickL at h
  exact List.mem_range.1 (List.mem_filter.1 h).1
theorem pkL_mem (s n k x : Nat) : x ∈ pkL s n k ↔ x ∈ (shufL s n).take k := pickL_mem (take_ok s n k).1 x
theorem pkL_all (s n : Nat) : pkL s n n = List.range n := by
  unfold pkL pickL
  rw [List.filter_eq_self]
  intro x hx
  rw [List.take_of_length_le (by rw [shufL_len]; omega), decide_eq_true_eq, shufL_mem]
  exact List.mem_range.1 hx
end Go.Proofs.Ythbimjkcpmffcaa
