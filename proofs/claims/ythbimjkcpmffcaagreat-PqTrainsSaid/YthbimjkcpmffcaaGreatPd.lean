/- Several texts in one. -/
import Derived.Test.YthbimjkcpmffcaaGreatNp
import Derived.Test.YthbimjkcpmffcaaGreatNl
/- Mathematics of product quantisers: parts of vectors, books, codes, tables. -/
namespace Go.Proofs.YthbimjkcpmffcaaGreat
open Go.RowKit
set_option linter.unusedVariables false
/-- The words of a part. -/
def pAt (ps : List (List (List Int))) (p : Nat) : List (List Int) := ps[p]?.getD []
/-- Where a part begins. -/
def beg (p n d : Nat) : Nat := p * d / n
def seg (v : List Int) (a b : Nat) : List Int := (v.drop a).take (b - a)
def partAt (v : List Int) (p n : Nat) : List Int := seg v (beg p n v.length) (beg (p + 1) n v.length)
theorem beg_zero (n d : Nat) : beg 0 n d = 0 := by unfold beg; simp
theorem beg_all {n d : Nat} (h : 1 ≤ n) : beg n n d = d := by unfold beg; exact Nat.mul_div_cancel_left d (by omega)
theorem beg_mono {p q n d : Nat} (h : p ≤ q) : beg p n d ≤ beg q n d := Nat.div_le_div_right (Nat.mul_le_mul_right d h)
theorem beg_le {p n d : Nat} (h1 : 1 ≤ n) (h : p ≤ n) : beg p n d ≤ d := by
  have := beg_mono (n := n) (d := d) h
  rw [beg_all h1] at this
  exact this
/-- Each part has at least one number. -/
theorem beg_step {p n d : Nat} (h1 : 1 ≤ n) (h2 : n ≤ d) : beg p n d + 1 ≤ beg (p + 1) n d := by
  unfold beg
  rw [Nat.add_mul, Nat.one_mul]
  have h3 : (p * d + n) / n = p * d / n + 1 := Nat.add_div_right _ (by omega)
  have h4 : (p * d + n) / n ≤ (p * d + d) / n := Nat.div_le_div_right (by omega)
  omega
theorem seg_len {v : List Int} {a b : Nat} (h : b ≤ v.length) : (seg v a b).length = b - a := by unfold seg; rw [List.length_take, List.length_drop]; omega
theorem take_seg {v : List Int} {a b : Nat} (h1 : a ≤ b) : v.take a ++ seg v a b = v.take b := by
  unfold seg
  rw [show b = a + (b - a) by omega, List.take_add, show a + (b - a) - a = b - a by omega]
theorem part_len {v : List Int} {p n : Nat} (h1 : 1 ≤ n) (hp : p < n) : (partAt v p n).length = beg (p + 1) n v.length - beg p n v.length := seg_len (beg_le h1 (by omega))
theorem part_b8 {v : List Int} {p n : Nat} (h : ∀ x ∈ v, -128 ≤ x ∧ x ≤ 127) : ∀ x ∈ partAt v p n, -128 ≤ x ∧ x ≤ 127 := fun x hx => h x (List.mem_of_mem_drop (List.mem_of_mem_take hx))
/-- A vector's first parts, one behind the other. -/
theorem parts_take (v : List Int) (n : Nat) (h1 : 1 ≤ n) : ∀ k, ((List.range k).map fun p => partAt v p n).flatten = v.take (beg k n v.length)
  | 0 => by rw [beg_zero]; simp
  | k + 1 => by
    rw [List.range_succ, List.map_append, List.flatten_append, parts_take v n h1 k]
    simp only [List.map_cons, List.map_nil, List.flatten_cons, List.flatten_nil, List.append_nil]
    exact take_seg (beg_mono (by omega))
theorem parts_all (v : List Int) (n : Nat) (h1 : 1 ≤ n) : ((List.range n).map fun p => partAt v p n).flatten = v := by
  rw [parts_take v n h1 n, beg_all h1, List.take_length]
/-- Lists as long as parts are, one behind the other: cut, they are they. -/
theorem flat_len (W : Nat → List Int) (n d : Nat) (h : ∀ p, p < n → (W p).length = beg (p + 1) n d - beg p n d) : ∀ k, k ≤ n → ((List.range k).map W).flatten.length = beg k n d
  | 0, _ => by rw [beg_zero]; simp
  | k + 1, hk => by
    rw [List.range_succ, List.map_append, List.flatten_append, List.length_append, flat_len W n d h k (by omega)]
    simp only [List.map_cons, List.map_nil, List.flatten_cons, List.flatten_nil, List.append_nil]
    have := beg_mono (p := k) (q := k + 1) (n := n) (d := d) (by omega)
    rw [h k (by omega)]; omega
theorem flat_take (W : Nat → List Int) (n d : Nat) (h : ∀ p, p < n → (W p).length = beg (p + 1) n d - beg p n d) {k : Nat} (hk : k ≤ n) : ((List.range n).map W).flatten.take (beg k n d) = ((List.range k).map W).flatten := by
  obtain ⟨j, rfl⟩ : ∃ j, n = k + j := ⟨n - k, by omega⟩
  rw [List.range_add, List.map_append, List.flatten_append, List.take_left' (flat_len W (k + j) d h k (by omega))]
theorem flat_part (W : Nat → List Int) (n d : Nat) (h1 : 1 ≤ n) (h : ∀ p, p < n → (W p).length = beg (p + 1) n d - beg p n d) {p : Nat} (hp : p < n) : partAt ((List.range n).map W).flatten p n = W p := by
  have hl : ((List.range n).map W).flatten.length = d := by rw [flat_len W n d h n (Nat.le_refl _), beg_all h1]
  have e1 := flat_take W n d h (k := p + 1) (by omega)
  have e0 := flat_take W n d h (k := p) (by omega)
  unfold partAt
  rw [hl]
  have e2 := take_seg (v := ((List.range n).map W).flatten) (beg_mono (p := p) (q := p + 1) (n := n) (d := d) (by omega))
  rw [e1, e0, List.range_succ, List.map_append, List.flatten_append] at e2
  have e3 := List.append_cancel_left e2
  simpa using e3
theorem far_append : ∀ (a c b d : List Int), a.length = c.length → far (a ++ b) (c ++ d) = far a c + far b d
  | [], [], b, d, _ => by simp [far_nil]
  | [], _ :: _, _, _, h => by simp at h
  | _ :: _, [], _, _, h => by simp at h
  | x :: a, y :: c, b, d, h => by
    rw [List.cons_append, List.cons_append, far_cons, far_cons, far_append a c b d (by simpa using h)]
    omega
/-- May a book be, for vectors of so many numbers? -/
def BookOk (ps : List (List (List Int))) (d : Nat) : Prop := 1 ≤ d ∧ d ≤ 64 ∧ 1 ≤ ps.length ∧ ps.length ≤ d ∧
  ∀ p, p < ps.length → 1 ≤ (pAt ps p).length ∧ (pAt ps p).length ≤ 64 ∧ (pAt ps p).length = (pAt ps 0).length ∧ ∀ w, w < (pAt ps p).length → (vAt (pAt ps p) w).length = beg (p + 1) ps.length d - beg p ps.length d
instance (ps : List (List (List Int))) (d : Nat) : Decidable (BookOk ps d) := by unfold BookOk; infer_instance
def bookB (P : Int) (ps : List (List (List Int))) (d : Int) : Bool := decide (0 ≤ d ∧ (ps.length : Int) = P ∧ BookOk ps d.toNat)
theorem bookB_yes {P : Int} {ps : List (List (List Int))} {d : Nat} (h : bookB P ps d = true) : (ps.length : Int) = P ∧ BookOk ps d := by
  have h1 := of_decide_eq_true h
  rw [Int.toNat_natCast] at h1
  exact h1.2
theorem bookB_mk {P : Int} {ps : List (List (List Int))} {d : Nat} (h1 : (ps.length : Int) = P) (h2 : BookOk ps d) : bookB P ps d = true := decide_eq_true ⟨by omega, h1, by rw [Int.toNat_natCast]; exact h2⟩
theorem bookB_no {P : Int} {ps : List (List (List Int))} {d : Int} (h : ¬ (0 ≤ d ∧ (ps.length : Int) = P ∧ BookOk ps d.toNat)) : bookB P ps d = false := decide_eq_false h
/-- Of how many numbers the first words of the parts are, together. -/
def dimS (ps : List (List (List Int))) : Nat := (ps.map dimOf).sum
def cAt (code : List Int) (p : Nat) : Nat := (code[p]?.getD 0).toNat
def wordAt (ps : List (List (List Int))) (code : List Int) (p : Nat) : List Int := vAt (pAt ps p) (cAt code p)
def codeOk (ps : List (List (List Int))) (code : List Int) : Prop := code.length = ps.length ∧ ∀ p, p < ps.length → cAt code p < (pAt ps p).length
/-- What a code says. -/
def decL (ps : List (List (List Int))) (code : List Int) : List Int := ((List.range ps.length).map (wordAt ps code)).flatten
/-- A vector's code. -/
def encL (ps : List (List (List Int))) (v : List Int) : List Int := (List.range ps.length).map fun p => ((nearestI (pAt ps p) (partAt v p ps.length) : Nat) : Int)
/-- A vector's table. -/
def tabL (ps : List (List (List Int))) (v : List Int) : List (List Int) := (List.range ps.length).map fun p => (pAt ps p).map fun w => far w (partAt v p ps.length)
theorem encL_len (ps : List (List (List Int))) (v : List Int) : (encL ps v).length = ps.length := by simp [encL]
theorem tabL_len (ps : List (List (List Int))) (v : List Int) : (tabL ps v).length = ps.length := by simp [tabL]
theorem encL_at {ps : List (List (List Int))} {v : List Int} {p : Nat} (h : p < ps.length) : cAt (encL ps v) p = nearestI (pAt ps p) (partAt v p ps.length) := by simp [cAt, encL, h]
theorem BookOk.word {ps : List (List (List Int))} {d p w : Nat} (h : BookOk ps d) (hp : p < ps.length) (hw : w < (pAt ps p).length) : (vAt (pAt ps p) w).length = beg (p + 1) ps.length d - beg p ps.length d := (h.2.2.2.2 p hp).2.2.2 w hw
theorem BookOk.all {ps : List (List (List Int))} {d p : Nat} (h : BookOk ps d) (hp : p < ps.length) : ∀ u ∈ pAt ps p, u.length = beg (p + 1) ps.length d - beg p ps.length d := fun u hu => by
  obtain ⟨i, hi, rfl⟩ := mem_vAt hu
  exact h.word hp hi
theorem BookOk.part {ps : List (List (List Int))} {d p : Nat} (h : BookOk ps d) (hp : p < ps.length) : 1 ≤ beg (p + 1) ps.length d - beg p ps.length d ∧ beg (p + 1) ps.length d - beg p ps.length d ≤ 64 := by
  have h1 := beg_step (p := p) h.2.2.1 h.2.2.2.1
  have h2 := beg_le (p := p + 1) (d := d) h.2.2.1 (by omega)
  have := h.2.1
  omega
theorem BookOk.may {ps : List (List (List Int))} {d p : Nat} (h : BookOk ps d) (hp : p < ps.length) : mayB (pAt ps p) = true ∧ dimOf (pAt ps p) = beg (p + 1) ps.length d - beg p ps.length d := by
  have h1 := (h.2.2.2.2 p hp)
  have h2 := h.part hp
  exact mayB_of h1.1 (by omega) h2.1 h2.2 (h.all hp)
/-- The words of a part are means that may be, and the part of a vector goes with them. -/
theorem BookOk.mayM {ps : List (List (List Int))} {v : List Int} {p : Nat} (h : BookOk ps v.length) (hp : p < ps.length) : mayM (pAt ps p) [partAt v p ps.length] = true := by
  have h1 := h.may hp
  have h2 := (h.2.2.2.2 p hp)
  refine decide_eq_true ⟨h2.2.1, h1.1, by simp, fun i hi => ?_⟩
  obtain rfl : i = 0 := by simpa using hi
  show (partAt v p ps.length).length = _
  rw [part_len h.2.2.1 hp, h1.2]
theorem sum_dims (ps : List (List (List Int))) (f : Nat → Nat) (h0 : f 0 = 0) (hm : ∀ p, f p ≤ f (p + 1)) : ∀ k, k ≤ ps.length → (∀ p, p < k → dimOf (pAt ps p) = f (p + 1) - f p) → ((ps.take k).map dimOf).sum = f k
  | 0, _, _ => by simp [h0]
  | k + 1, hk, h => by
    have hlt : k < ps.length := by omega
    rw [List.take_succ_eq_append_getElem hlt, List.map_append, List.sum_append, sum_dims ps f h0 hm k (by omega) (fun p hp => h p (by omega))]
    have h1 := h k (by omega)
    unfold pAt at h1
    rw [List.getElem?_eq_getElem hlt] at h1
    have h2 := hm k
    simp at h1 ⊢
    omega
theorem BookOk.dims {ps : List (List (List Int))} {d : Nat} (h : BookOk ps d) : dimS ps = d := by
  have h1 := sum_dims ps (fun p => beg p ps.length d) (beg_zero _ _) (fun p => beg_mono (by omega)) ps.length (Nat.le_refl _) (fun p hp => (h.may hp).2)
  rw [List.take_length, beg_all h.2.2.1] at h1
  exact h1
theorem enc_ok {ps : List (List (List Int))} {v : List Int} (h : BookOk ps v.length) : codeOk ps (encL ps v) :=
  ⟨encL_len _ _, fun p hp => by rw [encL_at hp]; exact nearestI_lt _ (h.2.2.2.2 p hp).1⟩
theorem word_len {ps : List (List (List Int))} {d : Nat} {code : List Int} (h : BookOk ps d) (hc : codeOk ps code) {p : Nat} (hp : p < ps.length) : (wordAt ps code p).length = beg (p + 1) ps.length d - beg p ps.length d := h.word hp (hc.2 p hp)
theorem dec_len {ps : List (List (List Int))} {d : Nat} {code : List Int} (h : BookOk ps d) (hc : codeOk ps code) : (decL ps code).length = d := by
  unfold decL
  rw [flat_len _ ps.length d (fun p hp => word_len h hc hp) ps.length (Nat.le_refl _), beg_all h.2.2.1]
/-- How far the first k parts of a vector are from what a code says, together. -/
theorem far_parts {ps : List (List (List Int))} {v : List Int} {code : List Int} (h : BookOk ps v.length) (hc : codeOk ps code) : ∀ k, k ≤ ps.length →
    far (((List.range k).map (wordAt ps code)).flatten) (v.take (beg k ps.length v.length)) = sumR k fun p => far (wordAt ps code p) (partAt v p ps.length)
  | 0, _ => by simp [far_nil, sumR_zero]
  | k + 1, hk => by
    rw [sumR_succ, ← far_parts h hc k (by omega), List.range_succ, List.map_append, List.flatten_append, ← take_seg (beg_mono (p := k) (q := k + 1) (n := ps.length) (d := v.length) (by omega)), far_append]
    · simp [partAt]
    · rw [flat_len _ ps.length v.length (fun p hp => word_len h hc hp) k (by omega), List.length_take]
      have := beg_le (p := k) (d := v.length) h.2.2.1 (by omega)
      omega
theorem far_dec {ps : List (List (List Int))} {v : List Int} {code : List Int} (h : BookOk ps v.length) (hc : codeOk ps code) : far (decL ps code) v = sumR ps.length fun p => far (wordAt ps code p) (partAt v p ps.length) := by
  have := far_parts h hc ps.length (Nat.le_refl _)
  rw [beg_all h.2.2.1, List.take_length] at this
  exact this
/-- What stands in a table at a code, together: numbers of 64 bits. -/
def tAt (t : List (List Int)) (p : Nat) : List Int := t[p]?.getD []
def lookK (t : List (List Int)) (code : List Int) : Nat → Int
  | 0 => 0
  | k + 1 => wrap64 (lookK t code k + (tAt t k)[cAt code k]?.getD 0)
def lookOk (t : List (List Int)) (code : List Int) : Prop := code.length = t.length ∧ ∀ p, p < t.length → cAt code p < (tAt t p).length
theorem tAt_tab {ps : List (List (List Int))} {v : List Int} {p : Nat} (h : p < ps.length) : tAt (tabL ps v) p = (pAt ps p).map fun w => far w (partAt v p ps.length) := by simp [tAt, tabL, h]
theorem lookOk_tab {ps : List (List (List Int))} {v : List Int} {code : List Int} : lookOk (tabL ps v) code ↔ codeOk ps code := by
  unfold lookOk codeOk
  rw [tabL_len]
  constructor
  · rintro ⟨h1, h2⟩; exact ⟨h1, fun p hp => by have := h2 p hp; rw [tAt_tab hp, List.length_map] at this; exact this⟩
  · rintro ⟨h1, h2⟩; exact ⟨h1, fun p hp => by rw [tAt_tab hp, List.length_map]; exact h2 p hp⟩
theorem tab_at {ps : List (List (List Int))} {v : List Int} {p w : Nat} (hp : p < ps.length) (hw : w < (pAt ps p).length) : (tAt (tabL ps v) p)[w]?.getD 0 = far (vAt (pAt ps p) w) (partAt v p ps.length) := by
  rw [tAt_tab hp]
  simp [vAt, hw]
end Go.Proofs.YthbimjkcpmffcaaGreat
/- Mathematics of product quantisers: what follows (P8.5), codes back, books of vectors. -/
namespace Go.Proofs.YthbimjkcpmffcaaGreat
open Go.RowKit
set_option linter.unusedVariables false
/-- All numbers of a book's words are of an int8. -/
def B88 (ps : List (List (List Int))) : Prop := ∀ l ∈ ps, B8 l
theorem pAt_mem {ps : List (List (List Int))} {p : Nat} (h : p < ps.length) : pAt ps p ∈ ps := by unfold pAt; rw [List.getElem?_eq_getElem h]; exact List.getElem_mem h
theorem B88.at {ps : List (List (List Int))} (h : B88 ps) {p : Nat} (hp : p < ps.length) : B8 (pAt ps p) := h _ (pAt_mem hp)
theorem far_bd2 {ps : List (List (List Int))} {v : List Int} (h : BookOk ps v.length) (hb : B88 ps) (hv : ∀ x ∈ v, -128 ≤ x ∧ x ≤ 127) {p w : Nat} (hp : p < ps.length) (hw : w < (pAt ps p).length) :
    0 ≤ far (vAt (pAt ps p) w) (partAt v p ps.length) ∧ far (vAt (pAt ps p) w) (partAt v p ps.length) ≤ 4161600 :=
  far_bd (by rw [h.word hp hw]; exact (h.part hp).2) (hb.at hp _ (vAt_mem hw)) (part_b8 hv)
theorem sumR_bd (f : Nat → Int) (m : Int) : ∀ k, (∀ p, p < k → 0 ≤ f p ∧ f p ≤ m) → 0 ≤ sumR k f ∧ sumR k f ≤ m * k
  | 0, _ => by simp [sumR_zero]
  | k + 1, h => by
    have h1 := sumR_bd f m k (fun p hp => h p (by omega))
    have h2 := h k (by omega)
    rw [sumR_succ]
    have e : m * ((k + 1 : Nat) : Int) = m * (k : Int) + m := by push_cast; rw [Int.mul_add, Int.mul_one]
    rw [e]
    omega
theorem look_tab {ps : List (List (List Int))} {v : List Int} {code : List Int} (h : BookOk ps v.length) (hb : B88 ps) (hv : ∀ x ∈ v, -128 ≤ x ∧ x ≤ 127) (hc : codeOk ps code) : ∀ k, k ≤ ps.length → lookK (tabL ps v) code k = sumR k fun p => far (wordAt ps code p) (partAt v p ps.length)
  | 0, _ => rfl
  | k + 1, hk => by
    have h1 := look_tab h hb hv hc k (by omega)
    have h2 := sumR_bd (fun p => far (wordAt ps code p) (partAt v p ps.length)) 4161600 k (fun p hp => far_bd2 h hb hv (by omega) (hc.2 p (by omega)))
    have h3 := far_bd2 h hb hv (p := k) (by omega) (hc.2 k (by omega))
    have h4 := h.2.2.2.1
    have h5 := h.2.1
    unfold lookK
    rw [h1, tab_at (by omega) (hc.2 k (by omega)), sumR_succ]
    unfold wordAt at h2 ⊢
    generalize (sumR k fun p => far (vAt (pAt ps p) (cAt code p)) (partAt v p ps.length)) = S at h2 ⊢
    generalize far (vAt (pAt ps k) (cAt code k)) (partAt v k ps.length) = F at h3 ⊢
    unfold wrap64
    omega
/-- P8.5: Look of the Table of a vector, and a code, is how far the vector is from what the code says. -/
theorem look_far {ps : List (List (List Int))} {v : List Int} {code : List Int} (h : BookOk ps v.length) (hb : B88 ps) (hv : ∀ x ∈ v, -128 ≤ x ∧ x ≤ 127) (hc : codeOk ps code) : lookK (tabL ps v) code ps.length = far v (decL ps code) := by
  rw [look_tab h hb hv hc ps.length (Nat.le_refl _), ← far_dec h hc, far_comm]
/-- P8.5: no code is nearer to a vector than its own. -/
theorem look_own {ps : List (List (List Int))} {v : List Int} {code : List Int} (h : BookOk ps v.length) (hb : B88 ps) (hv : ∀ x ∈ v, -128 ≤ x ∧ x ≤ 127) (hc : codeOk ps code) : lookK (tabL ps v) (encL ps v) ps.length ≤ lookK (tabL ps v) code ps.length := by
  rw [look_tab h hb hv hc ps.length (Nat.le_refl _), look_tab h hb hv (enc_ok h) ps.length (Nat.le_refl _)]
  refine sumR_le _ _ _ (fun p hp => ?_)
  unfold wordAt
  rw [encL_at hp]
  exact near_le _ (hc.2 p hp)
/-- A vector's own word is the first that is so near. -/
theorem own_first {ps : List (List (List Int))} {v : List Int} (h : BookOk ps v.length) {p w : Nat} (hp : p < ps.length) (hw : w < (pAt ps p).length) :
    (tAt (tabL ps v) p)[cAt (encL ps v) p]?.getD 0 ≤ (tAt (tabL ps v) p)[w]?.getD 0 ∧ (w < cAt (encL ps v) p → (tAt (tabL ps v) p)[cAt (encL ps v) p]?.getD 0 < (tAt (tabL ps v) p)[w]?.getD 0) := by
  have hc := (enc_ok h).2 p hp
  rw [tab_at hp hw, tab_at hp hc, encL_at hp]
  exact ⟨near_le _ hw, fun hlt => (nearI_min _ _ _).2 w hlt⟩
/-- What a code says has a code that says the same, and no later words. -/
theorem enc_dec {ps : List (List (List Int))} {d : Nat} {code : List Int} (h : BookOk ps d) (hc : codeOk ps code) {p : Nat} (hp : p < ps.length) :
    wordAt ps (encL ps (decL ps code)) p = wordAt ps code p ∧ cAt (encL ps (decL ps code)) p ≤ cAt code p := by
  have hp2 : partAt (decL ps code) p ps.length = wordAt ps code p := flat_part _ ps.length d h.2.2.1 (fun q hq => word_len h hc hq) hp
  have hn : nearestI (pAt ps p) (wordAt ps code p) < (pAt ps p).length := nearestI_lt _ (h.2.2.2.2 p hp).1
  have h1 := near_le (wordAt ps code p) (hc.2 p hp)
  have h2 := far_nonneg (vAt (pAt ps p) (nearestI (pAt ps p) (wordAt ps code p))) (wordAt ps code p)
  have e : far (vAt (pAt ps p) (cAt code p)) (wordAt ps code p) = 0 := far_self _
  rw [e] at h1
  have h0 : far (vAt (pAt ps p) (nearestI (pAt ps p) (wordAt ps code p))) (wordAt ps code p) = 0 := by omega
  have e2 : cAt (encL ps (decL ps code)) p = nearestI (pAt ps p) (wordAt ps code p) := by rw [encL_at hp, hp2]
  refine ⟨?_, ?_⟩
  · unfold wordAt
    rw [e2]
    exact far_zero _ _ (by rw [h.word hp hn]; exact word_len h hc hp) h0
  · rw [e2]
    rcases Nat.lt_or_ge (cAt code p) (nearestI (pAt ps p) (wordAt ps code p)) with hlt | hge
    · have := (nearI_min (pAt ps p) (wordAt ps code p) (pAt ps p).length).2 _ hlt
      unfold nearestI at h0
      rw [h0, e] at this
      omega
    · exact hge
theorem dec_congr {ps : List (List (List Int))} {a b : List Int} (h : ∀ p, p < ps.length → wordAt ps a p = wordAt ps b p) : decL ps a = decL ps b := by
  unfold decL
  rw [List.map_congr_left (fun p hp => h p (List.mem_range.1 hp))]
theorem dec_enc_dec {ps : List (List (List Int))} {d : Nat} {code : List Int} (h : BookOk ps d) (hc : codeOk ps code) : decL ps (encL ps (decL ps code)) = decL ps code := dec_congr (fun p hp => (enc_dec h hc hp).1)
/-- Where each vector's parts are among the words, each vector is what its code says. -/
theorem dec_enc {ps : List (List (List Int))} {v : List Int} (h : BookOk ps v.length) (hz : ∀ p, p < ps.length → far (vAt (pAt ps p) (nearestI (pAt ps p) (partAt v p ps.length))) (partAt v p ps.length) = 0) : decL ps (encL ps v) = v := by
  have e : ∀ p, p < ps.length → wordAt ps (encL ps v) p = partAt v p ps.length := fun p hp => by
    have hn : nearestI (pAt ps p) (partAt v p ps.length) < (pAt ps p).length := nearestI_lt _ (h.2.2.2.2 p hp).1
    unfold wordAt
    rw [encL_at hp]
    exact far_zero _ _ (by rw [h.word hp hn, part_len h.2.2.1 hp]) (hz p hp)
  unfold decL
  rw [List.map_congr_left (fun p hp => e p (List.mem_range.1 hp))]
  exact parts_all v ps.length h.2.2.1
/-- The vectors' p-th parts. -/
def subL (vs : List (List Int)) (p n : Nat) : List (List Int) := vs.map fun v => partAt v p n
/-- The book of vectors. -/
def mayP (vs : List (List Int)) (n k r : Int) : Bool := decide (mayB vs = true ∧ 1 ≤ n ∧ n ≤ (dimOf vs : Int) ∧ 1 ≤ k ∧ k ≤ 64 ∧ k ≤ vs.length ∧ 0 ≤ r ∧ r ≤ 100)
def bookL (vs : List (List Int)) (n : Nat) (k r : Nat) (s : Nat) : List (List (List Int)) := (List.range n).map fun p => stepsL (subL vs p n) r (firstL (subL vs p n) ((s + p) % 18446744073709551616) k)
theorem bookL_len (vs : List (List Int)) (n k r s : Nat) : (bookL vs n k r s).length = n := by simp [bookL]
theorem bookL_at {vs : List (List Int)} {n k r s p : Nat} (h : p < n) : pAt (bookL vs n k r s) p = stepsL (subL vs p n) r (firstL (subL vs p n) ((s + p) % 18446744073709551616) k) := by simp [pAt, bookL, h]
theorem sub_may {vs : List (List Int)} {n p : Nat} (h : mayB vs = true) (h1 : 1 ≤ n) (h2 : n ≤ dimOf vs) (hp : p < n) : mayB (subL vs p n) = true ∧ dimOf (subL vs p n) = beg (p + 1) n (dimOf vs) - beg p n (dimOf vs) := by
  have hm := mayB_yes h
  have h3 := beg_step (p := p) h1 h2
  have h4 := beg_le (p := p + 1) (d := dimOf vs) h1 (by omega)
  refine mayB_of (by unfold subL; rw [List.length_map]; exact hm.1) (by unfold subL; rw [List.length_map]; exact hm.2.1) (by omega) (by omega) (fun v hv => ?_)
  unfold subL at hv
  obtain ⟨u, hu, rfl⟩ := List.mem_map.1 hv
  rw [part_len h1 hp, mayB_len h u hu]
theorem sub_len (vs : List (List Int)) (p n : Nat) : (subL vs p n).length = vs.length := by simp [subL]
theorem stepsL_len (vs ms : List (List Int)) : ∀ k, (stepsL vs k ms).length = ms.length
  | 0 => rfl
  | k + 1 => by show (stepL _ _).length = _; rw [stepL_len, stepsL_len vs ms k]
/-- The book of vectors may be for them. -/
theorem book_ok {vs : List (List Int)} {n k r s : Nat} (h : mayB vs = true) (h1 : 1 ≤ n) (h2 : n ≤ dimOf vs) (h3 : 1 ≤ k) (h4 : k ≤ 64) (h5 : k ≤ vs.length) : BookOk (bookL vs n k r s) (dimOf vs) := by
  have hm := mayB_yes h
  have hl : ∀ p, p < n → (pAt (bookL vs n k r s) p).length = k := fun p hp => by rw [bookL_at hp, stepsL_len, firstL_len (by rw [sub_len]; exact h5)]
  refine ⟨hm.2.2.1, hm.2.2.2.1, by rw [bookL_len]; exact h1, by rw [bookL_len]; exact h2, fun p hp => ?_⟩
  rw [bookL_len] at hp ⊢
  refine ⟨by rw [hl p hp]; exact h3, by rw [hl p hp]; exact h4, by rw [hl p hp, hl 0 (by omega)], fun w hw => ?_⟩
  have hs := sub_may h h1 h2 hp
  have hq := stepsL_may (firstL_may (s := (s + p) % 18446744073709551616) hs.1 h3 h4 (by rw [sub_len]; exact h5)) r
  rw [← bookL_at hp (s := s)] at hq
  have hq2 := mayM_yes hq
  have h6 := hq2.2.2.2 0 (by rw [sub_len]; exact hm.1)
  rw [mayB_len hs.1 _ (vAt_mem (by rw [sub_len]; exact hm.1)), hs.2] at h6
  rw [h6, mayB_len hq2.2.1 _ (vAt_mem hw)]
theorem cost_zero {ms : List (List Int)} : ∀ {vs : List (List Int)}, costL ms vs ≤ 0 → ∀ v ∈ vs, far (vAt ms (nearestI ms v)) v = 0
  | [], _, v, hv => by simp at hv
  | u :: r, h, v, hv => by
    have h1 := costL_nonneg ms r
    have h2 := far_nonneg (vAt ms (nearestI ms u)) u
    have e : costL ms (u :: r) = far (vAt ms (nearestI ms u)) u + costL ms r := by unfold costL; simp
    rw [e] at h
    rcases List.mem_cons.1 hv with rfl | hv
    · omega
    · exact cost_zero (by omega) v hv
/-- With a word for each vector each vector is what its code says. -/
theorem book_back {vs : List (List Int)} {n r s : Nat} (h : mayB vs = true) (h1 : 1 ≤ n) (h2 : n ≤ dimOf vs) (h4 : vs.length ≤ 64) {v : List Int} (hv : v ∈ vs) : decL (bookL vs n vs.length r s) (encL (bookL vs n vs.length r s) v) = v := by
  have hm := mayB_yes h
  have hd := mayB_len h v hv
  have hok := book_ok (k := vs.length) (r := r) (s := s) h h1 h2 hm.1 h4 (Nat.le_refl _)
  rw [← hd] at hok
  refine dec_enc hok (fun p hp => ?_)
  rw [bookL_len] at hp ⊢
  rw [bookL_at hp]
  have hs := sub_may h h1 h2 hp
  have e : firstL (subL vs p n) ((s + p) % 18446744073709551616) vs.length = subL vs p n := by
    have := firstL_all (subL vs p n) ((s + p) % 18446744073709551616)
    rw [sub_len] at this
    exact this
  rw [e]
  have hmm : mayM (subL vs p n) (subL vs p n) = true := by
    have hy := mayB_yes hs.1
    refine decide_eq_true ⟨by rw [sub_len]; exact h4, hs.1, by rw [sub_len]; omega, fun i hi => mayB_len hs.1 _ (vAt_mem hi)⟩
  have hc := steps_cost0 hmm r
  rw [costL_self] at hc
  exact cost_zero hc _ (List.mem_map.2 ⟨v, hv, rfl⟩)
end Go.Proofs.YthbimjkcpmffcaaGreat
/- Words on lists of lists of vectors (the means of a book). -/
namespace Go.Proofs.YthbimjkcpmffcaaGreat
open Go.RowKit
set_option linter.unusedVariables false
/-- A list of vectors that is an element of a slice: where it lies, its room, the vectors. -/
abbrev Pc := Option Addr × Nat × List Vc
def pNil : Pc := (none, 0, [])
/-- A slice value at A reads, in w, as the lists of vectors L; where it has one it lies below block B, and so do they. -/
def RdP (w : World) (B : Nat) (A : Option Addr) (L : List Pc) : Prop :=
  0 < L.length → ∃ b off, A = some ⟨b, off, none⟩ ∧ b < B ∧ ∀ i, i < L.length → w.cell? ⟨b, off + i, none⟩ = some (.slice (L[i]?.getD pNil).1 (L[i]?.getD pNil).2.2.length (L[i]?.getD pNil).2.1) ∧ RdV w B (L[i]?.getD pNil).1 (L[i]?.getD pNil).2.2
theorem RdP.at_ {w : World} {B : Nat} {A : Option Addr} {L : List Pc} (h : RdP w B A L) {i : Nat} (hi : i < L.length) :
    ∃ b off a c M, A = some ⟨b, off, none⟩ ∧ b < B ∧ w.cell? ⟨b, off + i, none⟩ = some (.slice a (M : List Vc).length c) ∧ RdV w B a M ∧ Hid (L[i]? = some (a, c, M)) := by
  obtain ⟨b, off, hA, hB, hc⟩ := h (by omega)
  refine ⟨b, off, (L[i]?.getD pNil).1, (L[i]?.getD pNil).2.1, (L[i]?.getD pNil).2.2, hA, hB, (hc i hi).1, (hc i hi).2, (by simp [List.getElem?_eq_getElem hi] : L[i]? = some ((L[i]?.getD pNil).1, (L[i]?.getD pNil).2.1, (L[i]?.getD pNil).2.2))⟩
theorem RdP.below {w w' : World} {B : Nat} {A : Option Addr} {L : List Pc} (h : RdP w B A L) (hb : Below B w w') : RdP w' B A L := fun hl => by
  obtain ⟨b, off, hA, hB, hc⟩ := h hl
  exact ⟨b, off, hA, hB, fun i hi => ⟨(hb.cell (p := ⟨b, off + i, none⟩) hB).trans (hc i hi).1, (hc i hi).2.below hb⟩⟩
theorem RdP.more {w : World} {B B' : Nat} {A : Option Addr} {L : List Pc} (h : RdP w B A L) (hB : B ≤ B') : RdP w B' A L := fun hl => by
  obtain ⟨b, off, hA, hb, hc⟩ := h hl
  exact ⟨b, off, hA, by omega, fun i hi => ⟨(hc i hi).1, (hc i hi).2.more hB⟩⟩
/-- The vectors of all lists. -/
def words (L : List Pc) : List (List (List Int)) := L.map fun x => vecs x.2.2
theorem words_len (L : List Pc) : (words L).length = L.length := by simp [words]
theorem words_at {L : List Pc} {i : Nat} {a : Option Addr} {c : Nat} {M : List Vc} (h : L[i]? = some (a, c, M)) : (words L)[i]? = some (vecs M) := by simp [words, h]
theorem words_pAt {L : List Pc} {i : Nat} {a : Option Addr} {c : Nat} {M : List Vc} (h : L[i]? = some (a, c, M)) : pAt (words L) i = vecs M := by unfold pAt; rw [words_at h]; rfl
theorem words_take {L : List Pc} {q : Nat} {a : Option Addr} {c : Nat} {M : List Vc} (h : L[q]? = some (a, c, M)) : (words L).take (q + 1) = (words L).take q ++ [vecs M] := by
  rw [List.take_add_one, words_at h]; rfl
theorem words_snoc (L : List Pc) (x : Pc) : words (L ++ [x]) = words L ++ [vecs x.2.2] := by simp [words]
/-- How much there is in a book. -/
def sizeP (ps : List (List (List Int))) : Nat := ps.length + (ps.map sizeL).sum
theorem sum_mem_le {α : Type} (f : α → Nat) : ∀ {l : List α} {x : α}, x ∈ l → f x ≤ (l.map f).sum
  | a :: r, x, h => by
    simp only [List.map_cons, List.sum_cons]
    rcases List.mem_cons.1 h with h1 | h1
    · subst h1; omega
    · have := sum_mem_le f h1; omega
theorem sizeP_mem {ps : List (List (List Int))} {l : List (List Int)} (h : l ∈ ps) : sizeL l ≤ sizeP ps := by
  have := sum_mem_le sizeL h
  unfold sizeP; omega
theorem sizeL_len (vs : List (List Int)) : vs.length ≤ sizeL vs := by unfold sizeL; omega
theorem sizeL_v {vs : List (List Int)} {v : List Int} (h : v ∈ vs) : v.length ≤ sizeL vs := by have := sizeL_vec h; unfold sizeL; omega
/-- Books of which all hold no more than is gone through. -/
def PSmall (L : List Pc) : Prop := sizeP (words L) ≤ 20000
theorem PSmall.len {L : List Pc} (h : PSmall L) : L.length ≤ 20000 := by unfold PSmall sizeP at h; rw [words_len] at h; omega
theorem words_mem {L : List Pc} {x : Pc} (h : x ∈ L) : vecs x.2.2 ∈ words L := List.mem_map_of_mem h
theorem PSmall.at_ {L : List Pc} (h : PSmall L) {x : Pc} (hx : x ∈ L) : Small x.2.2 := by
  have := sizeP_mem (words_mem hx)
  unfold PSmall at h
  unfold Small; omega
/-- A book's means as an argument. -/
structure PArg (w : World) (A : Option Addr) (L : List Pc) : Prop where
  rd : RdP w w.heap.size A L
  sm : PSmall L
  b8 : B88 (words L)
theorem PArg.below {w w' : World} {A : Option Addr} {L : List Pc} (h : PArg w A L) (hb : Below w.heap.size w w') : PArg w' A L := ⟨(h.rd.below hb).more hb.size, h.sm, h.b8⟩
theorem PArg.at_ {w : World} {A : Option Addr} {L : List Pc} (h : PArg w A L) {i : Nat} (hi : i < L.length) :
    ∃ b off a c M, A = some ⟨b, off, none⟩ ∧ b < w.heap.size ∧ w.cell? ⟨b, off + i, none⟩ = some (.slice a (M : List Vc).length c) ∧ VArg w a M ∧ Hid (L[i]? = some (a, c, M)) := by
  obtain ⟨b, off, a, c, M, h1, h2, h3, h4, h5⟩ := h.rd.at_ hi
  have hm := List.mem_of_getElem? h5.out
  have hs := h.sm.at_ hm
  exact ⟨b, off, a, c, M, h1, h2, h3, ⟨h4, (by have h := hs.len; exact Nat.le_trans (show M.length ≤ 20000 from h) (by decide)), fun v hv => (by have := hs.vec (v := v) hv; omega), h.b8 _ (words_mem hm)⟩, h5⟩
/-- A book that was handed in. -/
structure PGiven (w : World) (A : Option Addr) (L : List Pc) : Prop where
  rd : RdP w w.heap.size A L
  len : L.length ≤ 140737488355328
  each : ∀ x ∈ L, x.2.2.length ≤ 140737488355328 ∧ ∀ v ∈ vecs x.2.2, v.length ≤ 140737488355328
  b8 : B88 (words L)
  room : ∀ x ∈ L, RoomOk x.2.2
theorem PGiven.below {w w' : World} {A : Option Addr} {L : List Pc} (h : PGiven w A L) (hb : Below w.heap.size w w') : PGiven w' A L := ⟨(h.rd.below hb).more hb.size, h.len, h.each, h.b8, h.room⟩
theorem PGiven.arg {w : World} {A : Option Addr} {L : List Pc} (h : PGiven w A L) (s : PSmall L) : PArg w A L := ⟨h.rd, s, h.b8⟩
theorem PGiven.at_ {w : World} {A : Option Addr} {L : List Pc} (h : PGiven w A L) {i : Nat} (hi : i < L.length) :
    ∃ b off a c M, A = some ⟨b, off, none⟩ ∧ b < w.heap.size ∧ w.cell? ⟨b, off + i, none⟩ = some (.slice a (M : List Vc).length c) ∧ Given w a M ∧ RoomOk M ∧ Hid (L[i]? = some (a, c, M)) := by
  obtain ⟨b, off, a, c, M, h1, h2, h3, h4, h5⟩ := h.rd.at_ hi
  have hm := List.mem_of_getElem? h5.out
  have he := h.each _ hm
  exact ⟨b, off, a, c, M, h1, h2, h3, ⟨h4, he.1, he.2, h.b8 _ (words_mem hm)⟩, h.room _ hm, h5⟩
/-- The cells of a row of lists of vectors. -/
def cellsP (L : List Pc) : List Value := L.map fun x => .slice x.1 x.2.2.length x.2.1
theorem cellsP_len (L : List Pc) : (cellsP L).length = L.length := by simp [cellsP]
theorem cellsP_at {L : List Pc} {i : Nat} {a : Option Addr} {c : Nat} {M : List Vc} (h : L[i]? = some (a, c, M)) : (cellsP L)[i]? = some (.slice a M.length c) := by simp [cellsP, h]
theorem cellsP_snoc (L : List Pc) (x : Pc) : cellsP L ++ [.slice x.1 x.2.2.length x.2.1] = cellsP (L ++ [x]) := by simp [cellsP]
/-- A list of lists of vectors, all in memory of the call's own. -/
structure OwnP (w : World) (base : Nat) (A : Option Addr) (c : Nat) (L : List Pc) : Prop where
  row : w.ownsRow base 62 1 (.slice A L.length c) L.length (cellsP L)
  each : ∀ x ∈ L, OwnV w base x.1 x.2.1 x.2.2
theorem OwnP.rd {w : World} {base : Nat} {A : Option Addr} {c : Nat} {L : List Pc} (h : OwnP w base A c L) : RdP w w.heap.size A L := fun hl => by
  obtain ⟨g, rfl, _⟩ := own_some h.row hl
  refine ⟨g, 0, rfl, (h.row.lt g rfl).2, fun i hi => ⟨?_, ?_⟩⟩
  · rw [Nat.zero_add, h.row.cellAt i (by omega)]
    simp [cellsP, List.getElem?_eq_getElem hi]
  · have := (h.each L[i] (List.getElem_mem hi)).rd
    simpa [List.getElem?_eq_getElem hi] using this
theorem OwnP.below {w w' : World} {base : Nat} {A : Option Addr} {c : Nat} {L : List Pc} (h : OwnP w base A c L) (hb : Below w.heap.size w w') : OwnP w' base A c L := ⟨own_below h.row hb, fun x hx => (h.each x hx).below hb⟩
theorem OwnP.base {w : World} {b b' : Nat} {A : Option Addr} {c : Nat} {L : List Pc} (h : OwnP w b A c L) (hb : b' ≤ b) : OwnP w b' A c L := ⟨own_base h.row hb, fun x hx => (h.each x hx).base hb⟩
theorem OwnP.nil (w : World) (base : Nat) : OwnP w base none 0 [] := ⟨own_nil_row _ _ _, fun x hx => by simp at hx⟩
def pblk (x : Pc) : Option Nat := (Value.slice x.1 x.2.2.length x.2.1).ownBlock
/-- The lists lie apart, and so do all their vectors. -/
structure ApartP (L : List Pc) : Prop where
  rows : L.Pairwise fun x y => pblk x = none ∨ pblk x ≠ pblk y
  vecs : (L.flatMap fun x => x.2.2).Pairwise fun x y => (Value.slice x.1 x.2.2.length x.2.1).ownBlock = none ∨ (Value.slice x.1 x.2.2.length x.2.1).ownBlock ≠ (Value.slice y.1 y.2.2.length y.2.1).ownBlock
theorem ApartP.nil : ApartP [] := ⟨List.Pairwise.nil, List.Pairwise.nil⟩
end Go.Proofs.YthbimjkcpmffcaaGreat
/- What layer 8's calls answer, and what is asked of the program's; mathematics of parts of one vector, and of words alone. -/
namespace Go.Proofs.YthbimjkcpmffcaaGreat
open Go.RowKit
set_option linter.unusedVariables false
def encA (P : Int) (ps : List (List (List Int))) (v : List Int) : List Int := if bookB P ps v.length then encL ps v else []
def tabA (P : Int) (ps : List (List (List Int))) (v : List Int) : List (List Int) := if bookB P ps v.length then tabL ps v else []
instance (ps : List (List (List Int))) (code : List Int) : Decidable (codeOk ps code) := by unfold codeOk; infer_instance
instance (t : List (List Int)) (code : List Int) : Decidable (lookOk t code) := by unfold lookOk; infer_instance
def decB (P : Int) (ps : List (List (List Int))) (code : List Int) : Bool := bookB P ps (dimS ps) && decide (codeOk ps code)
def decA (P : Int) (ps : List (List (List Int))) (code : List Int) : List Int := if decB P ps code then decL ps code else []
def lookA (t : List (List Int)) (code : List Int) : Int := if lookOk t code then lookK t code t.length else 0
def bookA (vs : List (List Int)) (n k r : Int) (s : Nat) : List (List (List Int)) := if mayP vs n k r then bookL vs n.toNat k.toNat r.toNat s else []
def partsA (vs : List (List Int)) (n k r : Int) : Int := if mayP vs n k r then n else 0
/-- One step of means that are the vector alone: it stays. -/
theorem steps_alone {u : List Int} (h1 : 1 ≤ u.length) (h2 : u.length ≤ 64) (r : Nat) : stepsL [u] r [u] = [u] := by
  have hb : mayB [u] = true ∧ dimOf [u] = u.length := mayB_of (by simp) (by simp) h1 h2 (fun v hv => by simp at hv; rw [hv])
  have hm : mayM [u] [u] = true := decide_eq_true ⟨by simp, hb.1, by simp, fun i hi => by
    obtain rfl : i = 0 := by simpa using hi
    exact hb.2.symm⟩
  have hc := steps_cost0 hm r
  rw [costL_self] at hc
  have hz := cost_zero hc u (by simp)
  have hl := stepsL_len [u] [u] r
  have hq := mayM_yes (stepsL_may hm r)
  obtain ⟨x, hx⟩ : ∃ x, stepsL [u] r [u] = [x] := by
    match h : stepsL [u] r [u], hl with
    | [x], _ => exact ⟨x, rfl⟩
  rw [hx] at hz hq ⊢
  have hn : nearestI [x] u = 0 := nearI_one _ _
  rw [hn] at hz
  have hd := hq.2.2.2 0 (by simp)
  have : x = u := far_zero x u (by
    have e1 : (vAt [u] 0).length = u.length := rfl
    have e2 : dimOf [x] = x.length := rfl
    omega) hz
  rw [this]
theorem parts_book {v : List Int} {n s : Nat} (h1 : 1 ≤ n) (h2 : n ≤ v.length) (h3 : v.length ≤ 64) {p : Nat} (hp : p < n) : pAt (bookL [v] n 1 1 s) p = [partAt v p n] := by
  rw [bookL_at hp]
  have e : subL [v] p n = [partAt v p n] := rfl
  have ef := firstL_all [partAt v p n] ((s + p) % 18446744073709551616)
  have el : [partAt v p n].length = 1 := rfl
  rw [el] at ef
  rw [e, ef]
  have hl := part_len (v := v) (p := p) h1 hp
  have hs := beg_step (p := p) h1 h2
  have hle := beg_le (p := p + 1) (d := v.length) h1 (by omega)
  exact steps_alone (by omega) (by omega) 1
theorem beg_one (p n : Nat) (h : 1 ≤ n) : beg p n n = p := by unfold beg; exact Nat.mul_div_cancel p (by omega)
theorem part_whole (v : List Int) : partAt v 0 1 = v := by
  unfold partAt seg beg
  simp
theorem part_each {v : List Int} {p : Nat} (hp : p < v.length) : partAt v p v.length = [v[p]?.getD 0] := by
  unfold partAt
  rw [beg_one _ _ (by omega), beg_one _ _ (by omega)]
  unfold seg
  rw [show p + 1 - p = 1 by omega, List.getElem?_eq_getElem hp]
  have h1 : v.drop p = v[p] :: v.drop (p + 1) := List.drop_eq_getElem_cons hp
  rw [h1]
  rfl
/-- The words' p-th numbers. -/
def colL (ws : List (List Int)) (p : Nat) : List (List Int) := ws.map fun u => [u[p]?.getD 0]
theorem one_ok {ws : List (List Int)} {d : Nat} (h1 : 1 ≤ ws.length) (h2 : ws.length ≤ 64) (h3 : 1 ≤ d) (h4 : d ≤ 64) (h : ∀ u ∈ ws, u.length = d) : BookOk [ws] d := by
  refine ⟨h3, h4, by simp, by simpa using h3, fun p hp => ?_⟩
  obtain rfl : p = 0 := by simpa using hp
  refine ⟨h1, h2, rfl, fun w hw => ?_⟩
  show _ = beg (0 + 1) 1 d - beg 0 1 d
  rw [show beg (0 + 1) 1 d = d by unfold beg; simp, beg_zero]
  exact h _ (vAt_mem hw)
theorem many_ok {ws : List (List Int)} {d : Nat} (h1 : 1 ≤ ws.length) (h2 : ws.length ≤ 64) (h3 : 1 ≤ d) (h4 : d ≤ 64) : BookOk ((List.range d).map (colL ws)) d := by
  have hl : ((List.range d).map (colL ws)).length = d := by simp
  have hat : ∀ p, p < d → pAt ((List.range d).map (colL ws)) p = colL ws p := fun p hp => by simp [pAt, hp]
  refine ⟨h3, h4, by rw [hl]; exact h3, by rw [hl]; omega, fun p hp => ?_⟩
  rw [hl] at hp ⊢
  rw [hat p hp, hat 0 (by omega), beg_one _ _ h3, beg_one _ _ h3]
  refine ⟨by simpa [colL] using h1, by simpa [colL] using h2, by simp [colL], fun w hw => ?_⟩
  have := vAt_mem hw
  unfold colL at this
  obtain ⟨u, _, hu⟩ := List.mem_map.1 this
  unfold colL
  rw [← hu]
  simp
end Go.Proofs.YthbimjkcpmffcaaGreat
