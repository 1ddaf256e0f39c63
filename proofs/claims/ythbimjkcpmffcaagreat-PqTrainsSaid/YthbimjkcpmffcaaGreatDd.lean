/- Several texts in one. -/
import Derived.Test.YthbimjkcpmffcaaGreatOw
import Derived.Test.YthbimjkcpmffcaaGreatChecked
import Derived.OwnWalk
import Derived.Deep.QuietTactic
import Derived.BigQuiet
import Derived.RangeFuncBox
import Derived.Deep.RegionLaw
import Derived.Deep.RegionHeld3
import Derived.Laws.Rows
/- Plain mathematics of layer 6 (draws): the number of a seed, that no other seed has it, the draws of a shuffle, what it leaves. Nothing of the program's translation is used here. -/
namespace Go.Proofs.YthbimjkcpmffcaaGreat
set_option linter.unusedVariables false

def behindOf (s : Nat) : Nat := (s + 11400714819323198485) % 18446744073709551616
def mixA (z : Nat) : Nat := (z ^^^ z / 1073741824) * 13787848793156543929 % 18446744073709551616
def mixB (z : Nat) : Nat := (z ^^^ z / 134217728) * 10723151780598845931 % 18446744073709551616
def mixC (z : Nat) : Nat := z ^^^ z / 2147483648
/-- The number of a seed. -/
def numOf (s : Nat) : Nat := mixC (mixB (mixA s))
theorem behindOf_lt (s : Nat) : behindOf s < 18446744073709551616 := Nat.mod_lt _ (by decide)
theorem mixA_lt (s : Nat) : mixA s < 18446744073709551616 := Nat.mod_lt _ (by decide)
theorem mixB_lt (s : Nat) : mixB s < 18446744073709551616 := Nat.mod_lt _ (by decide)
theorem xs_lt {z : Nat} (k : Nat) (h : z < 18446744073709551616) : z ^^^ z / k < 18446744073709551616 :=
  Nat.xor_lt_two_pow (n := 64) (by omega) (Nat.lt_of_le_of_lt (Nat.div_le_self _ _) (by omega))
theorem numOf_lt (s : Nat) : numOf s < 18446744073709551616 := xs_lt _ (mixB_lt _)
theorem xs_inj {x y : Nat} (k : Nat) (hk : 1 ≤ k) (hx : x < 18446744073709551616) (hy : y < 18446744073709551616) (h : x ^^^ x / 2 ^ k = y ^^^ y / 2 ^ k) : x = y := by
  have key : ∀ d i, 64 ≤ i + d → x.testBit i = y.testBit i := by
    intro d
    induction d with
    | zero =>
      intro i hi
      have hp : 18446744073709551616 ≤ 2 ^ i := by
        have : 2 ^ 64 ≤ 2 ^ i := Nat.pow_le_pow_right (by decide) (by omega)
        simpa using this
      rw [Nat.testBit_lt_two_pow (by omega), Nat.testBit_lt_two_pow (by omega)]
    | succ d ih =>
      intro i hi
      have h1 := congrArg (fun z => z.testBit i) h
      simp only [Nat.testBit_xor, Nat.testBit_div_two_pow] at h1
      rw [ih (i + k) (by omega)] at h1
      revert h1
      cases x.testBit i <;> cases y.testBit i <;> cases y.testBit (i + k) <;> decide
  exact Nat.eq_of_testBit_eq fun i => key 64 i (by omega)
theorem mul_inj {a b : Nat} (m v : Nat) (hm : m * v % 18446744073709551616 = 1) (ha : a < 18446744073709551616) (hb : b < 18446744073709551616) (h : a * m % 18446744073709551616 = b * m % 18446744073709551616) : a = b := by
  have key : ∀ c, c < 18446744073709551616 → c * m % 18446744073709551616 * v % 18446744073709551616 = c := by
    intro c hc
    rw [Nat.mod_mul_mod, Nat.mul_assoc, Nat.mul_mod, hm, Nat.mul_one, Nat.mod_mod, Nat.mod_eq_of_lt hc]
  rw [← key a ha, ← key b hb, h]
theorem numOf_inj {a b : Nat} (ha : a < 18446744073709551616) (hb : b < 18446744073709551616) (h : numOf a = numOf b) : a = b := by
  have h1 : mixB (mixA a) = mixB (mixA b) := xs_inj 31 (by omega) (mixB_lt _) (mixB_lt _) h
  have h2 := mul_inj 10723151780598845931 3573116690164977347 (by decide) (xs_lt _ (mixA_lt a)) (xs_lt _ (mixA_lt b)) h1
  have h3 : mixA a = mixA b := xs_inj 27 (by omega) (mixA_lt _) (mixA_lt _) h2
  have h4 := mul_inj 13787848793156543929 10871156337175269513 (by decide) (xs_lt _ ha) (xs_lt _ hb) h3
  exact xs_inj 30 (by omega) ha hb h4
theorem behindOf_inj {a b : Nat} (ha : a < 18446744073709551616) (hb : b < 18446744073709551616) (h : behindOf a = behindOf b) : a = b := by
  unfold behindOf at h; omega

/-- What stands at two places changes places. -/
def swapL (l : List Nat) (i j : Nat) : List Nat := (l.set i (l[j]?.getD 0)).set j (l[i]?.getD 0)
theorem swapL_len (l : List Nat) (i j : Nat) : (swapL l i j).length = l.length := by simp [swapL]
theorem swapL_perm (l : List Nat) {i j : Nat} (hi : i < l.length) (hj : j < l.length) : (swapL l i j).Perm l := by
  have h := (Array.swap_perm (xs := l.toArray) (i := i) (j := j) (by simpa using hi) (by simpa using hj)).toList
  simp only [Array.toList_swap, List.getElem_toArray] at h
  unfold swapL
  rw [List.getElem?_eq_getElem hi, List.getElem?_eq_getElem hj]
  simpa using h
/-- The draws from the place i on down: the place that is drawn, and the seed behind it. -/
def drs : Nat → Nat → List (Nat × Nat)
  | 0, _ => []
  | i + 1, s => (numOf (behindOf s) % (i + 2), behindOf s) :: drs i (behindOf s)
/-- What draws leave of a list, from the place p on down. -/
def app : List Nat → Nat → List (Nat × Nat) → List Nat
  | l, _, [] => l
  | l, p, x :: r => app (swapL l p x.1) (p - 1) r
def lastOf : Nat → List (Nat × Nat) → Nat
  | s, [] => s
  | _, x :: r => lastOf x.2 r
theorem drs_succ (i s : Nat) : drs (i + 1) s = (numOf (behindOf s) % (i + 2), behindOf s) :: drs i (behindOf s) := rfl
theorem app_cons (l : List Nat) (p : Nat) (x : Nat × Nat) (r : List (Nat × Nat)) : app l p (x :: r) = app (swapL l p x.1) (p - 1) r := rfl
theorem lastOf_cons (s : Nat) (x : Nat × Nat) (r : List (Nat × Nat)) : lastOf s (x :: r) = lastOf x.2 r := rfl
theorem drs_len (i s : Nat) : (drs i s).length = i := by
  induction i generalizing s with
  | zero => rfl
  | succ i ih => rw [drs_succ, List.length_cons, ih]
theorem drs_bound (i s : Nat) : ∀ x ∈ drs i s, x.1 ≤ i ∧ x.2 < 18446744073709551616 := by
  induction i generalizing s with
  | zero => intro x hx; simp [drs] at hx
  | succ i ih =>
    intro x hx
    rw [drs_succ, List.mem_cons] at hx
    rcases hx with rfl | hx
    · exact ⟨by have := Nat.mod_lt (numOf (behindOf s)) (show 0 < i + 2 by omega); dsimp only; omega, behindOf_lt _⟩
    · have := ih _ x hx; omega
theorem app_snoc (l : List Nat) (p : Nat) (pre : List (Nat × Nat)) (x : Nat × Nat) : app l p (pre ++ [x]) = swapL (app l p pre) (p - pre.length) x.1 := by
  induction pre generalizing l p with
  | nil => rfl
  | cons y r ih =>
    show app (swapL l p y.1) (p - 1) (r ++ [x]) = swapL (app (swapL l p y.1) (p - 1) r) _ _
    rw [ih, List.length_cons]
    congr 1
    omega
theorem lastOf_snoc (s : Nat) (pre : List (Nat × Nat)) (x : Nat × Nat) : lastOf s (pre ++ [x]) = x.2 := by
  induction pre generalizing s with
  | nil => rfl
  | cons y r ih => exact ih _
theorem app_len (l : List Nat) (p : Nat) (r : List (Nat × Nat)) : (app l p r).length = l.length := by
  induction r generalizing l p with
  | nil => rfl
  | cons y r ih => show (app (swapL l p y.1) (p - 1) r).length = _; rw [ih, swapL_len]
theorem app_perm (i s : Nat) (l : List Nat) (h : i < l.length ∨ i = 0) : (app l i (drs i s)).Perm l := by
  induction i generalizing s l with
  | zero => exact List.Perm.refl _
  | succ i ih =>
    rw [drs_succ, app_cons]
    have hm := Nat.mod_lt (numOf (behindOf s)) (show 0 < i + 2 by omega)
    exact (ih _ _ (by rw [swapL_len]; omega)).trans (swapL_perm l (by omega) (by omega))
theorem lastOf_lt (i s : Nat) (hs : s < 18446744073709551616) : lastOf s (drs i s) < 18446744073709551616 := by
  induction i generalizing s with
  | zero => exact hs
  | succ i ih => rw [drs_succ, lastOf_cons]; exact ih _ (behindOf_lt _)
/-- The shuffle of the numbers below n, and the seed behind it. -/
def shufL (s n : Nat) : List Nat := app (List.range n) (n - 1) (drs (n - 1) s)
def shufS (s n : Nat) : Nat := lastOf s (drs (n - 1) s)
theorem shufL_len (s n : Nat) : (shufL s n).length = n := by unfold shufL; rw [app_len, List.length_range]
theorem shufL_perm (s n : Nat) : (shufL s n).Perm (List.range n) := app_perm _ _ _ (by rw [List.length_range]; omega)
theorem shufL_nodup (s n : Nat) : (shufL s n).Nodup := (shufL_perm s n).nodup_iff.2 List.nodup_range
theorem shufL_mem (s n x : Nat) : x ∈ shufL s n ↔ x < n := by rw [(shufL_perm s n).mem_iff, List.mem_range]
theorem shufS_lt (s n : Nat) (hs : s < 18446744073709551616) : shufS s n < 18446744073709551616 := lastOf_lt _ _ hs
theorem shufL_lt {s n i : Nat} (hi : i < n) : (shufL s n)[i]?.getD 0 < n := by
  have hl : i < (shufL s n).length := by rw [shufL_len]; exact hi
  rw [List.getElem?_eq_getElem hl, Option.getD_some]
  exact (shufL_mem s n _).1 (List.getElem_mem hl)

/-- The numbers of a list, rising. -/
def pickL (n : Nat) (l : List Nat) : List Nat := (List.range n).filter fun i => decide (i ∈ l)
theorem pickL_pairwise (n : Nat) (l : List Nat) : (pickL n l).Pairwise (· < ·) := List.Pairwise.filter _ List.pairwise_lt_range
theorem pickL_nodup (n : Nat) (l : List Nat) : (pickL n l).Nodup := List.nodup_range.sublist List.filter_sublist
theorem pickL_mem {n : Nat} {l : List Nat} (h : ∀ x ∈ l, x < n) (x : Nat) : x ∈ pickL n l ↔ x ∈ l := by
  unfold pickL
  rw [List.mem_filter, List.mem_range, decide_eq_true_eq]
  exact ⟨fun h1 => h1.2, fun h1 => ⟨h x h1, h1⟩⟩
theorem pickL_perm {n : Nat} {l : List Nat} (h : ∀ x ∈ l, x < n) (hn : l.Nodup) : (pickL n l).Perm l :=
  (List.perm_ext_iff_of_nodup (pickL_nodup n l) hn).2 fun x => pickL_mem h x
theorem pickL_len {n : Nat} {l : List Nat} (h : ∀ x ∈ l, x < n) (hn : l.Nodup) : (pickL n l).length = l.length := (pickL_perm h hn).length_eq
def ints (l : List Nat) : List Int := l.map fun x : Nat => (x : Int)
theorem ints_len (l : List Nat) : (ints l).length = l.length := by simp [ints]
theorem ints_at (l : List Nat) (i : Nat) : (ints l)[i]?.getD 0 = ((l[i]?.getD 0 : Nat) : Int) := by
  unfold ints
  rw [List.getElem?_map]
  cases l[i]? <;> rfl
theorem ints_take (l : List Nat) (k : Nat) : (ints l).take k = ints (l.take k) := by simp [ints, List.map_take]
/-- The library's order leaves just these. -/
theorem sort_pick {n : Nat} {l : List Nat} (h : ∀ x ∈ l, x < n) (hn : l.Nodup) : ((ints l).mergeSort fun x y => decide (x ≤ y)) = ints (pickL n l) := by
  have hp : ((ints l).mergeSort fun x y => decide (x ≤ y)).Perm (ints (pickL n l)) := (List.mergeSort_perm _ _).trans ((pickL_perm h hn).symm.map _)
  refine hp.eq_of_pairwise (le := fun a b : Int => a ≤ b) (fun a b _ _ h1 h2 => by omega) ?_ ?_
  · have := List.pairwise_mergeSort (le := fun x y : Int => decide (x ≤ y)) (fun a b c h1 h2 => by simp at *; omega) (fun a b => by simp; omega) (ints l)
    exact this.imp (fun h => by simpa using h)
  · exact (List.pairwise_map).2 ((pickL_pairwise n l).imp (fun h => by omega))
theorem take_ok (s n k : Nat) : (∀ x ∈ (shufL s n).take k, x < n) ∧ ((shufL s n).take k).Nodup :=
  ⟨fun x hx => (shufL_mem s n x).1 (List.mem_of_mem_take hx), (shufL_nodup s n).sublist (List.take_sublist _ _)⟩
/-- What Pick answers. -/
def pkL (s n k : Nat) : List Nat := pickL n ((shufL s n).take k)
theorem pkL_len {s n k : Nat} (h : k ≤ n) : (pkL s n k).length = k := by
  unfold pkL
  rw [pickL_len (take_ok s n k).1 (take_ok s n k).2, List.length_take, shufL_len]; omega
theorem pkL_lt {s n k x : Nat} (h : x ∈ pkL s n k) : x < n := by
  unfold pkL pickL at h
  exact List.mem_range.1 (List.mem_filter.1 h).1
theorem pkL_mem (s n k x : Nat) : x ∈ pkL s n k ↔ x ∈ (shufL s n).take k := pickL_mem (take_ok s n k).1 x
theorem pkL_all (s n : Nat) : pkL s n n = List.range n := by
  unfold pkL pickL
  rw [List.filter_eq_self]
  intro x hx
  rw [List.take_of_length_le (by rw [shufL_len]; omega), decide_eq_true_eq, shufL_mem]
  exact List.mem_range.1 hx
end Go.Proofs.YthbimjkcpmffcaaGreat
/- The walks of Next and below. -/
namespace Go.Proofs.YthbimjkcpmffcaaGreat
open Go.RowKit
set_option linter.unusedVariables false
theorem xs_int (z : Nat) (k : Nat) (h : z < 18446744073709551616) : bits .xor .u64 (z : Int) ((z / k : Nat) : Int) = ((z ^^^ z / k : Nat) : Int) :=
  u64_xor_nat z (z / k) h (Nat.lt_of_le_of_lt (Nat.div_le_self _ _) h)
theorem mixA_int (s : Nat) (hs : s < 18446744073709551616) : IntKind.u64.wrap (bits .xor .u64 (s : Int) ((s : Int) / 1073741824) * 13787848793156543929) = ((mixA s : Nat) : Int) := by
  rw [show ((s : Int) / 1073741824) = ((s / 1073741824 : Nat) : Int) by omega, xs_int s _ hs, IntKind.wrap_u64]
  unfold mixA
  omega
theorem mixB_int (s : Nat) (hs : s < 18446744073709551616) : IntKind.u64.wrap (bits .xor .u64 (s : Int) ((s : Int) / 134217728) * 10723151780598845931) = ((mixB s : Nat) : Int) := by
  rw [show ((s : Int) / 134217728) = ((s / 134217728 : Nat) : Int) by omega, xs_int s _ hs, IntKind.wrap_u64]
  unfold mixB
  omega
theorem mixC_int (s : Nat) (hs : s < 18446744073709551616) : bits .xor .u64 (s : Int) ((s : Int) / 2147483648) = ((mixC s : Nat) : Int) := by
  rw [show ((s : Int) / 2147483648) = ((s / 2147483648 : Nat) : Int) by omega, xs_int s _ hs]
  rfl
theorem behind_int (s : Nat) : IntKind.u64.wrap ((s : Int) + 11400714819323198485) = ((behindOf s : Nat) : Int) := by
  rw [IntKind.wrap_u64]
  unfold behindOf
  omega
theorem num_eq (s x y z : Nat) (hx : mixA s = x) (hy : mixB x = y) (hz : mixC y = z) : numOf s = z := by subst hx hy hz; rfl
set_option maxRecDepth 100000 in
theorem numberOf_any (s : Nat) (hs : s < 18446744073709551616) (w : World) : Calls Tryz.prog 179 #[.int .u64 s] w fun e w' => e = .returned (.int .u64 (numOf s : Nat)) ∧ w' = w := by
  have e1 := mixA_int s hs
  obtain ⟨x, hx⟩ : ∃ x, mixA s = x := ⟨_, rfl⟩
  have hx2 : x < 18446744073709551616 := hx ▸ mixA_lt s
  have e2 := mixB_int x hx2
  obtain ⟨y, hy⟩ : ∃ y, mixB x = y := ⟨_, rfl⟩
  have hy2 : y < 18446744073709551616 := hy ▸ mixB_lt x
  have e3 := mixC_int y hy2
  obtain ⟨z, hz⟩ : ∃ z, mixC y = z := ⟨_, rfl⟩
  have HE := num_eq s x y z hx hy hz
  rw [HE]
  rw [hx] at e1
  rw [hy] at e2
  rw [hz] at e3
  clear HE hx hy hz hx2 hy2
  go_enter Tryz.func179, Tryz.ntmps179
  go_wp2
  go_ret
  exact ⟨rfl, rfl⟩
set_option maxRecDepth 100000 in
theorem next_any (s : Nat) (w : World) : Calls Tryz.prog 169 #[.int .u64 s] w fun e w' => e = .returned (.tuple #[.int .u64 (numOf (behindOf s) : Nat), .int .u64 (behindOf s : Nat)]) ∧ w' = w := by
  have e1 := behind_int s
  have HN := Lib.hid (numberOf_any (behindOf s) (behindOf_lt s) w)
  revert e1 HN
  generalize behindOf s = b
  intro e1 HN
  revert HN
  generalize numOf b = x
  intro HN
  go_enter Tryz.func169, Tryz.ntmps169
  go_wp2_with (go_at_call 179; refine HN.out.mono ?_; rintro e w' ⟨rfl, rfl⟩)
  refine bodyPost_ret (results_tmp2 rfl _ _ _) rfl ?_
  exact ⟨rfl, rfl⟩
theorem rem_int (x n : Nat) : Int.tmod (x : Int) (n : Int) = ((x % n : Nat) : Int) := rfl
/-- A draw below n, of a number that may be. -/
def dr (s n : Nat) : Nat := numOf (behindOf s) % n
set_option maxRecDepth 100000 in
theorem below_any (s n : Nat) (hn : 1 ≤ n) (hn2 : n ≤ 2147483647) (w : World) : Calls Tryz.prog 155 #[.int .u64 s, .int .i64 n] w fun e w' => e = .returned (.tuple #[.int .i64 (dr s n : Nat), .int .u64 (behindOf s : Nat)]) ∧ w' = w := by
  have HN := Lib.hid (next_any s w)
  unfold dr
  have hx := numOf_lt (behindOf s)
  revert HN hx
  generalize behindOf s = b
  generalize numOf b = x
  intro HN hx
  have hm := Nat.mod_lt x (show 0 < n by omega)
  go_enter Tryz.func155, Tryz.ntmps155
  go_wp2_with (go_at_call 169; refine HN.out.mono ?_; rintro e w' ⟨rfl, rfl⟩)
  refine bodyPost_ret (results_tmp2 rfl _ _ _) rfl ?_
  exact ⟨rfl, rfl⟩
end Go.Proofs.YthbimjkcpmffcaaGreat
/- The walks of rising, exchanger and what it hands out, drawsFor. -/
namespace Go.Proofs.YthbimjkcpmffcaaGreat
open Go.RowKit
set_option linter.unusedVariables false
/-- A list as cells. -/
def rowI (l : List Nat) : Array Value := (l.map fun x : Nat => Value.int .i64 (x : Nat)).toArray
theorem rowI_size (l : List Nat) : (rowI l).size = l.length := by simp [rowI]
theorem rowI_at {l : List Nat} {i : Nat} (h : i < l.length) : (rowI l)[i]? = some (.int .i64 ((l[i]?.getD 0 : Nat) : Int)) := by
  simp [rowI, List.getElem?_eq_getElem h]
theorem rowI_set (l : List Nat) (i x : Nat) : (rowI l).setIfInBounds i (.int .i64 (x : Nat)) = rowI (l.set i x) := by
  simp [rowI, List.map_set]
def upTo (n k : Nat) : List Nat := List.range k ++ List.replicate (n - k) 0
theorem upTo_len {n k : Nat} (h : k ≤ n) : (upTo n k).length = n := by simp [upTo]; omega
theorem upTo_step {n k : Nat} (h : k < n) : (upTo n k).set k k = upTo n (k + 1) := by
  unfold upTo
  have e : n - k = (n - (k + 1)) + 1 := by omega
  rw [List.set_append_right _ _ (by simp), List.length_range, Nat.sub_self, e, List.replicate_succ, List.set_cons_zero, List.range_succ]
  simp
theorem upTo_end (n : Nat) : upTo n n = List.range n := by simp [upTo]
theorem made_rowI (n : Nat) : madeCells #[Value.int .i64 0] n = rowI (upTo n 0) := by
  apply Array.ext'
  rw [made_one]
  simp [rowI, upTo]
theorem Tryz.info3i : (Tryz.prog.info? 3).map (fun i => (i.zero, i.size, i.bytes)) = some (some (.int .i64 0), 1, 8) := by kernel_rfl
theorem Whole.cell0 {w : World} {g : Nat} {t : TypeId} {cs : Array Value} (h : Whole w g t cs) (i : Nat) : w.cell? ⟨g, 0 + i, none⟩ = cs[i]? := by rw [Nat.zero_add]; exact h.cell i
set_option maxRecDepth 100000 in
set_option maxHeartbeats 1000000 in
theorem rising_any (n : Nat) (hn : n ≤ 2048) (w : World) : Calls Tryz.prog 142 #[.int .i64 n] w fun e w' => e = .returned (.slice (some ⟨w.heap.size, 0, none⟩) n n) ∧
    Whole w' w.heap.size 3 (rowI (List.range n)) ∧ Below w.heap.size w w' ∧ w'.heap.size = w.heap.size + 1 := by
  obtain ⟨i0, hi, hz0, hz1, hz2⟩ := info_parts Tryz.info3i
  have hmk : ∀ w : World, (Instr.makeSlice 73 (.int .i64 (n : Int)) (.int .i64 (n : Int))).run Tryz.prog w = .ok (.slice (some ⟨w.heap.size, 0, none⟩) n n) (w.alloc (.cells (rowI (upTo n 0)) 3)) := fun w => by
    have := run_make (P := Tryz.prog) w 73 3 i0 (.int .i64 0) Tryz.underlying73 hi hz0 .i64 .i64 (n : Int) (n : Int) (by omega) (by omega) (by rw [hz2]; omega) (by omega)
    rw [this, hz1, Nat.mul_one, Int.toNat_natCast, show (Value.int .i64 0).cells = #[Value.int .i64 0] by rfl, made_rowI]
  go_enter Tryz.func142, Tryz.ntmps142
  go_wp2
  have hW0 : Whole (w.alloc (.cells (rowI (upTo n 0)) 3)) w.heap.size 3 (rowI (upTo n 0)) := Whole.new w 3 _
  have hB0 : Below w.heap.size w (w.alloc (.cells (rowI (upTo n 0)) 3)) := below_one (Below.refl _ _) _
  have hs0 : (w.alloc (.cells (rowI (upTo n 0)) 3)).heap.size = w.heap.size + 1 := by simp
  revert hW0 hB0 hs0
  generalize w.alloc (.cells (rowI (upTo n 0)) 3) = W0
  intro hW0 hB0 hs0
  clear hmk
  go_loopw [9] (fun i wr => ∃ k : Nat, k ≤ n ∧ i = .int .i64 k ∧ Whole wr w.heap.size 3 (rowI (upTo n k)) ∧ Below w.heap.size w wr ∧ wr.heap.size = w.heap.size + 1) (fun i _ => n - (intOf i).toNat)
  case atStart => exact ⟨0, by omega, rfl, hW0, hB0, hs0⟩
  case round =>
    clear hW0 hB0 hs0
    obtain ⟨k, hk, rfl, hW, hB, hs⟩ := hrel
    by_cases hlt : k < n
    · have hc := (hW.cell0 k).trans (rowI_at (by rw [upTo_len hk]; exact hlt))
      have hf : wr.frozen? ⟨w.heap.size, 0 + k, none⟩ = false := hW.frozen _
      rw [Nat.zero_add] at hc hf
      have hW2 : Whole (wr.setCell ⟨w.heap.size, k, none⟩ (.int .i64 (k : Nat))) w.heap.size 3 (rowI (upTo n (k + 1))) := by
        have := hW.set k (.int .i64 (k : Nat))
        rwa [rowI_set, upTo_step hlt] at this
      have hB2 : Below w.heap.size w (wr.setCell ⟨w.heap.size, k, none⟩ (.int .i64 (k : Nat))) := hB.setCell (p := ⟨w.heap.size, k, none⟩) (Nat.le_refl _) _
      have hs2 : (wr.setCell ⟨w.heap.size, k, none⟩ (.int .i64 (k : Nat))).heap.size = w.heap.size + 1 := by simpa using hs
      have HS := Lib.hid hs2
      have HS0 := Lib.hid hs
      clear hs hs2
      go_wp2
      go_roundw
      case rel => exact ⟨k + 1, by omega, by go_num, hW2, hB2, HS.out⟩
      case measure => simp [intOf]; omega
    · obtain rfl : k = n := by omega
      rw [upTo_end] at hW
      go_wp2
      go_ret
      exact ⟨rfl, hW, hB, hs⟩
set_option maxRecDepth 100000 in
theorem exchanger_any (A : Option Addr) (n c : Nat) (hn : n ≤ 2048) (w : World) : Calls Tryz.prog 143 #[.slice A n c] w fun e w' => e = .returned (.func (.func 153) #[] #[.pointer (some ⟨w.heap.size, 0, none⟩), .pointer (some ⟨w.heap.size + 1, 0, none⟩)]) ∧
    w' = (w.alloc (.cells #[.slice A n c] 73)).alloc (.cells #[.int .i64 ((n : Int) - 1)] 3) := by
  go_enter Tryz.func143, Tryz.ntmps143
  go_wp2
  go_ret
  exact ⟨rfl, rfl⟩
set_option maxRecDepth 100000 in
theorem drawsFor_any (s n : Nat) (w : World) : Calls Tryz.prog 144 #[.int .u64 s, .int .i64 n] w fun e w' => e = .returned (.func (.func 154) #[] #[.pointer (some ⟨w.heap.size, 0, none⟩), .pointer (some ⟨w.heap.size + 1, 0, none⟩)]) ∧
    w' = (w.alloc (.cells #[.int .u64 s] 63)).alloc (.cells #[.int .i64 n] 3) := by
  go_enter Tryz.func144, Tryz.ntmps144
  go_wp2
  go_ret
  exact ⟨rfl, rfl⟩
end Go.Proofs.YthbimjkcpmffcaaGreat
