/- Mathematics of product quantisers: parts of vectors, books, codes, tables. -/
import Derived.Test.YthbimjkcpmffcaaNo
import Derived.Test.YthbimjkcpmffcaaNp
namespace Go.Proofs.Ythbimjkcpmffcaa
open Go.RowKit
set_option linter.unusedVariables false
/-- The words of a part. -/
def pAt (ps : List (List (List Int))) (p : Nat) : List (List Int) := ps[p]?.getD []
/-- Where a part begins. -/
def beg (p n d : Nat) : Nat := p * d / n
def seg (v : List Int) (a b : Nat) : List Int := (v.drop a).take (b - a)
def partAt (v : List Int) (p n : Nat) : List Int := seg v (beg p n v.length) (beg (p + 1) n v.length)
theorem beg_zero (n d : Nat) : beg 0 n d = 0 := by unfold beg; simp
theorem beg_all {n d : Nat} (h : 1 ≤ n) : beg n n d = d := by unfold beg; exact Nat.mul_div_cancel_left d (by omega)
theorem beg_mono {p q n d : Nat} (h : p ≤ q) : beg p n d ≤ beg q n d := Nat.div_le_div_right (Nat.mul_le_mul_right d h)
theorem beg_le {p n d : Nat} (h1 : 1 ≤ n) (h : p ≤ n) : beg p n d ≤ d := by
  have := beg_mono (n := n) (d := d) h
  rw [beg_all h1] at this
  exact this
/-- Each part has at least one number. -/
theorem beg_step {p n d : Nat} (h1 : 1 ≤ n) (h2 : n ≤ d) : beg p n d + 1 ≤ beg (p + 1) n d := by
  unfold beg
  rw [Nat.add_mul, Nat.one_mul]
  have h3 : (p * d + n) / n = p * d / n + 1 := Nat.add_div_right _ (by omega)
  have h4 : (p * d + n) / n ≤ (p * d + d) / n := Nat.div_le_div_right (by omega)
  omega
theorem seg_len {v : List Int} {a b : Nat} (h : b ≤ v.length) : (seg v a b).length = b - a := by unfold seg; rw [List.length_take, List.length_drop]; omega
theorem take_seg {v : List Int} {a b : Nat} (h1 : a ≤ b) : v.take a ++ seg v a b = v.take b := by
  unfold seg
  rw [show b = a + (b - a) by omega, List.take_add, show a + (b - a) - a = b - a by omega]
theorem part_len {v : List Int} {p n : Nat} (h1 : 1 ≤ n) (hp : p < n) : (partAt v p n).length = beg (p + 1) n v.length - beg p n v.length := seg_len (beg_le h1 (by omega))
theorem part_b8 {v : List Int} {p n : Nat} (h : ∀ x ∈ v, -128 ≤ x ∧ x ≤ 127) : ∀ x ∈ partAt v p n, -128 ≤ x ∧ x ≤ 127 := fun x hx => h x (List.mem_of_mem_drop (List.mem_of_mem_take hx))
/-- A vector's first parts, one behind the other. -/
theorem parts_take (v : List Int) (n : Nat) (h1 : 1 ≤ n) : ∀ k, ((List.range k).map fun p => partAt v p n).flatten = v.take (beg k n v.length)
  | 0 => by rw [beg_zero]; simp
  | k + 1 => by
    rw [List.range_succ, List.map_append, List.flatten_append, parts_take v n h1 k]
    simp only [List.map_cons, List.map_nil, List.flatten_cons, List.flatten_nil, List.append_nil]
    exact take_seg (beg_mono (by omega))
theorem parts_all (v : List Int) (n : Nat) (h1 : 1 ≤ n) : ((List.range n).map fun p => partAt v p n).flatten = v := by
  rw [parts_take v n h1 n, beg_all h1, List.take_length]
/-- Lists as long as parts are, one behind the other: cut, they are they. -/
theorem flat_len (W : Nat → List Int) (n d : Nat) (h : ∀ p, p < n → (W p).length = beg (p + 1) n d - beg p n d) : ∀ k, k ≤ n → ((List.range k).map W).flatten.length = beg k n d
  | 0, _ => by rw [beg_zero]; simp
  | k + 1, hk => by
    rw [List.range_succ, List.map_append, List.flatten_append, List.length_append, flat_len W n d h k (by omega)]
    simp only [List.map_cons, List.map_nil, List.flatten_cons, List.flatten_nil, List.append_nil]
    have := beg_mono (p := k) (q := k + 1) (n := n) (d := d) (by omega)
    rw [h k (by omega)]; omega
theorem flat_take (W : Nat → List Int) (n d : Nat) (h : ∀ p, p < n → (W p).length = beg (p + 1) n d - beg p n d) {k : Nat} (hk : k ≤ n) : ((List.range n).map W).flatten.take (beg k n d) = ((List.range k).map W).flatten := by
  obtain ⟨j, rfl⟩ : ∃ j, n = k + j := ⟨n - k, by omega⟩
  rw [List.range_add, List.map_append, List.flatten_append, List.take_left' (flat_len W (k + j) d h k (by omega))]
theorem flat_part (W : Nat → List Int) (n d : Nat) (h1 : 1 ≤ n) (h : ∀ p, p < n → (W p).length = beg (p + 1) n d - beg p n d) {p : Nat} (hp : p < n) : partAt ((List.range n).map W).flatten p n = W p := by
  have hl : ((List.range n).map W).flatten.length = d := by rw [flat_len W n d h n (Nat.le_refl _), beg_all h1]
  have e1 := flat_take W n d h (k := p + 1) (by omega)
  have e0 := flat_take W n d h (k := p) (by omega)
  unfold partAt
  rw [hl]
  have e2 := take_seg (v := ((List.range n).map W).flatten) (beg_mono (p := p) (q := p + 1) (n := n) (d := d) (by omega))
  rw [e1, e0, List.range_succ, List.map_append, List.flatten_append] at e2
  have e3 := List.append_cancel_left e2
  simpa using e3
theorem far_append : ∀ (a c b d : List Int), a.length = c.length → far (a ++ b) (c ++ d) = far a c + far b d
  | [], [], b, d, _ => by simp [far_nil]
  | [], _ :: _, _, _, h => by simp at h
  | _ :: _, [], _, _, h => by simp at h
  | x :: a, y :: c, b, d, h => by
    rw [List.cons_append, List.cons_append, far_cons, far_cons, far_append a c b d (by simpa using h)]
    omega
/-- May a book be, for vectors of so many numbers? -/
def BookOk (ps : List (List (List Int))) (d : Nat) : Prop := 1 ≤ d ∧ d ≤ 64 ∧ 1 ≤ ps.length ∧ ps.length ≤ d ∧
  ∀ p, p < ps.length → 1 ≤ (pAt ps p).length ∧ (pAt ps p).length ≤ 64 ∧ (pAt ps p).length = (pAt ps 0).length ∧ ∀ w, w < (pAt ps p).length → (vAt (pAt ps p) w).length = beg (p + 1) ps.length d - beg p ps.length d
instance (ps : List (List (List Int))) (d : Nat) : Decidable (BookOk ps d) := by unfold BookOk; infer_instance
def bookB (P : Int) (ps : List (List (List Int))) (d : Int) : Bool := decide (0 ≤ d ∧ (ps.length : Int) = P ∧ BookOk ps d.toNat)
theorem bookB_yes {P : Int} {ps : List (List (List Int))} {d : Nat} (h : bookB P ps d = true) : (ps.length : Int) = P ∧ BookOk ps d := by
  have h1 := of_decide_eq_true h
  rw [Int.toNat_natCast] at h1
  exact h1.2
theorem bookB_mk {P : Int} {ps : List (List (List Int))} {d : Nat} (h1 : (ps.length : Int) = P) (h2 : BookOk ps d) : bookB P ps d = true := decide_eq_true ⟨by omega, h1, by rw [Int.toNat_natCast]; exact h2⟩
theorem bookB_no {P : Int} {ps : List (List (List Int))} {d : Int} (h : ¬ (0 ≤ d ∧ (ps.length : Int) = P ∧ BookOk ps d.toNat)) : bookB P ps d = false := decide_eq_false h
/-- Of how many numbers the first words of the parts are, together. -/
def dimS (ps : List (List (List Int))) : Nat := (ps.map dimOf).sum
def cAt (code : List Int) (p : Nat) : Nat := (code[p]?.getD 0).toNat
def wordAt (ps : List (List (List Int))) (code : List Int) (p : Nat) : List Int := vAt (pAt ps p) (cAt code p)
def codeOk (ps : List (List (List Int))) (code : List Int) : Prop := code.length = ps.length ∧ ∀ p, p < ps.length → cAt code p < (pAt ps p).length
/-- What a code says. -/
def decL (ps : List (List (List Int))) (code : List Int) : List Int := ((List.range ps.length).map (wordAt ps code)).flatten
/-- A vector's code. -/
def encL (ps : List (List (List Int))) (v : List Int) : List Int := (List.range ps.length).map fun p => ((nearestI (pAt ps p) (partAt v p ps.length) : Nat) : Int)
/-- A vector's table. -/
def tabL (ps : List (List (List Int))) (v : List Int) : List (List Int) := (List.range ps.length).map fun p => (pAt ps p).map fun w => far w (partAt v p ps.length)
theorem encL_len (ps : List (List (List Int))) (v : List Int) : (encL ps v).length = ps.length := by simp [encL]
theorem tabL_len (ps : List (List (List Int))) (v : List Int) : (tabL ps v).length = ps.length := by simp [tabL]
theorem encL_at {ps : List (List (List Int))} {v : List Int} {p : Nat} (h : p < ps.length) : cAt (encL ps v) p = nearestI (pAt ps p) (partAt v p ps.length) := by simp [cAt, encL, h]
theorem BookOk.word {ps : List (List (List Int))} {d p w : Nat} (h : BookOk ps d) (hp : p < ps.length) (hw : w < (pAt ps p).length) : (vAt (pAt ps p) w).length = beg (p + 1) ps.length d - beg p ps.length d := (h.2.2.2.2 p hp).2.2.2 w hw
theorem BookOk.all {ps : List (List (List Int))} {d p : Nat} (h : BookOk ps d) (hp : p < ps.length) : ∀ u ∈ pAt ps p, u.length = beg (p + 1) ps.length d - beg p ps.length d := fun u hu => by
  obtain ⟨i, hi, rfl⟩ := mem_vAt hu
  exact h.word hp hi
theorem BookOk.part {ps : List (List (List Int))} {d p : Nat} (h : BookOk ps d) (hp : p < ps.length) : 1 ≤ beg (p + 1) ps.length d - beg p ps.length d ∧ beg (p + 1) ps.length d - beg p ps.length d ≤ 64 := by
  have h1 := beg_step (p := p) h.2.2.1 h.2.2.2.1
  have h2 := beg_le (p := p + 1) (d := d) h.2.2.1 (by omega)
  have := h.2.1
  omega
theorem BookOk.may {ps : List (List (List Int))} {d p : Nat} (h : BookOk ps d) (hp : p < ps.length) : mayB (pAt ps p) = true ∧ dimOf (pAt ps p) = beg (p + 1) ps.length d - beg p ps.length d := by
  have h1 := (h.2.2.2.2 p hp)
  have h2 := h.part hp
  exact mayB_of h1.1 (by omega) h2.1 h2.2 (h.all hp)
/-- The words of a part are means that may be, and the part of a vector goes with them. -/
theorem BookOk.mayM {ps : List (List (List Int))} {v : List Int} {p : Nat} (h : BookOk ps v.length) (hp : p < ps.length) : mayM (pAt ps p) [partAt v p ps.length] = true := by
  have h1 := h.may hp
  have h2 := (h.2.2.2.2 p hp)
  refine decide_eq_true ⟨h2.2.1, h1.1, by simp, fun i hi => ?_⟩
  obtain rfl : i = 0 := by simpa using hi
  show (partAt v p ps.length).length = _
  rw [part_len h.2.2.1 hp, h1.2]
theorem sum_dims (ps : List (List (List Int))) (f : Nat → Nat) (h0 : f 0 = 0) (hm : ∀ p, f p ≤ f (p + 1)) : ∀ k, k ≤ ps.length → (∀ p, p < k → dimOf (pAt ps p) = f (p + 1) - f p) → ((ps.take k).map dimOf).sum = f k
  | 0, _, _ => by simp [h0]
  | k + 1, hk, h => by
    have hlt : k < ps.length := by omega
    rw [List.take_succ_eq_append_getElem hlt, List.map_append, List.sum_append, sum_dims ps f h0 hm k (by omega) (fun p hp => h p (by omega))]
    have h1 := h k (by omega)
    unfold pAt at h1
    rw [List.getElem?_eq_getElem hlt] at h1
    have h2 := hm k
    simp at h1 ⊢
    omega
theorem BookOk.dims {ps : List (List (List Int))} {d : Nat} (h : BookOk ps d) : dimS ps = d := by
  have h1 := sum_dims ps (fun p => beg p ps.length d) (beg_zero _ _) (fun p => beg_mono (by omega)) ps.length (Nat.le_refl _) (fun p hp => (h.may hp).2)
  rw [List.take_length, beg_all h.2.2.1] at h1
  exact h1
theorem enc_ok {ps : List (List (List Int))} {v : List Int} (h : BookOk ps v.length) : codeOk ps (encL ps v) :=
  ⟨encL_len _ _, fun p hp => by rw [encL_at hp]; exact nearestI_lt _ (h.2.2.2.2 p hp).1⟩
theorem word_len {ps : List (List (List Int))} {d : Nat} {code : List Int} (h : BookOk ps d) (hc : codeOk ps code) {p : Nat} (hp : p < ps.length) : (wordAt ps code p).length = beg (p + 1) ps.length d - beg p ps.length d := h.word hp (hc.2 p hp)
theorem dec_len {ps : List (List (List Int))} {d : Nat} {code : List Int} (h : BookOk ps d) (hc : codeOk ps code) : (decL ps code).length = d := by
  unfold decL
  rw [flat_len _ ps.length d (fun p hp => word_len h hc hp) ps.length (Nat.le_refl _), beg_all h.2.2.1]
/-- How far the first k parts of a vector are from what a code says, together. -/
theorem far_parts {ps : List (List (List Int))} {v : List Int} {code : List Int} (h : BookOk ps v.length) (hc : codeOk ps code) : ∀ k, k ≤ ps.length →
    far (((List.range k).map (wordAt ps code)).flatten) (v.take (beg k ps.length v.length)) = sumR k fun p => far (wordAt ps code p) (partAt v p ps.length)
  | 0, _ => by simp [far_nil, sumR_zero]
  | k + 1, hk => by
    rw [sumR_succ, ← far_parts h hc k (by omega), List.range_succ, List.map_append, List.flatten_append, ← take_seg (beg_mono (p := k) (q := k + 1) (n := ps.length) (d := v.length) (by omega)), far_append]
    · simp [partAt]
    · rw [flat_len _ ps.length v.length (fun p hp => word_len h hc hp) k (by omega), List.length_take]
      have := beg_le (p := k) (d := v.length) h.2.2.1 (by omega)
      omega
theorem far_dec {ps : List (List (List Int))} {v : List Int} {code : List Int} (h : BookOk ps v.length) (hc : codeOk ps code) : far (decL ps code) v = sumR ps.length fun p => far (wordAt ps code p) (partAt v p ps.length) := by
  have := far_parts h hc ps.length (Nat.le_refl _)
  rw [beg_all h.2.2.1, List.take_length] at this
  exact this
/-- What stands in a table at a code, together: numbers of 64 bits. -/
def tAt (t : List (List Int)) (p : Nat) : List Int := t[p]?.getD []
def lookK (t : List (List Int)) (code : List Int) : Nat → Int
  | 0 => 0
  | k + 1 => wrap64 (lookK t code k + (tAt t k)[cAt code k]?.getD 0)
def lookOk (t : List (List Int)) (code : List Int) : Prop := code.length = t.length ∧ ∀ p, p < t.length → cAt code p < (tAt t p).length
theorem tAt_tab {ps : List (List (List Int))} {v : List Int} {p : Nat} (h : p < ps.length) : tAt (tabL ps v) p = (pAt ps p).map fun w => far w (partAt v p ps.length) := by simp [tAt, tabL, h]
theorem lookOk_tab {ps : List (List (List Int))} {v : List Int} {code : List Int} : lookOk (tabL ps v) code ↔ codeOk ps code := by
  unfold lookOk codeOk
  rw [tabL_len]
  constructor
  · rintro ⟨h1, h2⟩; exact ⟨h1, fun p hp => by have := h2 p hp; rw [tAt_tab hp, List.length_map] at this; exact this⟩
  · rintro ⟨h1, h2⟩; exact ⟨h1, fun p hp => by rw [tAt_tab hp, List.length_map]; exact h2 p hp⟩
theorem tab_at {ps : List (List (List Int))} {v : List Int} {p w : Nat} (hp : p < ps.length) (hw : w < (pAt ps p).length) : (tAt (tabL ps v) p)[w]?.getD 0 = far (vAt (pAt ps p) w) (partAt v p ps.length) := by
  rw [tAt_tab hp]
  simp [vAt, hw]
end Go.Proofs.Ythbimjkcpmffcaa
