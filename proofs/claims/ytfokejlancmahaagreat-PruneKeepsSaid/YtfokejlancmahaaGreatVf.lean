/- The walks of layer 3 (vec) on means: mayBe, sumAt, quotient, Mean. -/
import Derived.Test.YtfokejlancmahaaGreatVd
namespace Go.Proofs.YtfokejlancmahaaGreat
open Go.RowKit Go.Shelf
set_option linter.unusedVariables false
/-- A slice that is an element of a slice: where it lies, its room, its numbers. -/
abbrev Vc := Option Addr × Nat × List Int
def vNil : Vc := (none, 0, [])
/-- A slice value at A reads, in w, as the vectors L; where it has one it lies below block B, and so do they. -/
def RdV (w : World) (B : Nat) (A : Option Addr) (L : List Vc) : Prop :=
  0 < L.length → ∃ b off, A = some ⟨b, off, none⟩ ∧ b < B ∧ ∀ i, i < L.length → w.cell? ⟨b, off + i, none⟩ = some (.slice (L[i]?.getD vNil).1 (L[i]?.getD vNil).2.2.length (L[i]?.getD vNil).2.1) ∧ Rd .i8 w B (L[i]?.getD vNil).1 (L[i]?.getD vNil).2.2
theorem RdV.at_ {w : World} {B : Nat} {A : Option Addr} {L : List Vc} (h : RdV w B A L) {i : Nat} (hi : i < L.length) :
    ∃ b off a c v, A = some ⟨b, off, none⟩ ∧ b < B ∧ w.cell? ⟨b, off + i, none⟩ = some (.slice a v.length c) ∧ Rd .i8 w B a v ∧ Hid (L[i]? = some (a, c, v)) := by
  obtain ⟨b, off, hA, hB, hc⟩ := h (by omega)
  refine ⟨b, off, (L[i]?.getD vNil).1, (L[i]?.getD vNil).2.1, (L[i]?.getD vNil).2.2, hA, hB, (hc i hi).1, (hc i hi).2, (by simp [List.getElem?_eq_getElem hi] : L[i]? = some ((L[i]?.getD vNil).1, (L[i]?.getD vNil).2.1, (L[i]?.getD vNil).2.2))⟩
theorem RdV.below {w w' : World} {B : Nat} {A : Option Addr} {L : List Vc} (h : RdV w B A L) (hb : Below B w w') : RdV w' B A L := fun hl => by
  obtain ⟨b, off, hA, hB, hc⟩ := h hl
  exact ⟨b, off, hA, hB, fun i hi => ⟨(hb.cell (p := ⟨b, off + i, none⟩) hB).trans (hc i hi).1, (hc i hi).2.below hb⟩⟩
theorem RdV.more {w : World} {B B' : Nat} {A : Option Addr} {L : List Vc} (h : RdV w B A L) (hB : B ≤ B') : RdV w B' A L := fun hl => by
  obtain ⟨b, off, hA, hb, hc⟩ := h hl
  exact ⟨b, off, hA, by omega, fun i hi => ⟨(hc i hi).1, (hc i hi).2.more hB⟩⟩
/-- The vectors themselves. -/
def vecs (L : List Vc) : List (List Int) := L.map (·.2.2)
theorem vecs_len (L : List Vc) : (vecs L).length = L.length := by simp [vecs]
theorem vecs_at {L : List Vc} {i : Nat} {a : Option Addr} {c : Nat} {v : List Int} (h : L[i]? = some (a, c, v)) : (vecs L)[i]? = some v := by simp [vecs, h]
/-- How many numbers the first vector has. -/
def dimOf (vs : List (List Int)) : Nat := (vs[0]?.getD []).length
/-- May a mean be told of these vectors? -/
def mayB (vs : List (List Int)) : Bool := decide (1 ≤ vs.length ∧ vs.length ≤ 2048 ∧ 1 ≤ dimOf vs ∧ dimOf vs ≤ 64 ∧ ∀ i, i < vs.length → (vs[i]?.getD []).length = dimOf vs)
theorem mayB_no {vs : List (List Int)} (h : ¬ (1 ≤ vs.length ∧ vs.length ≤ 2048 ∧ 1 ≤ dimOf vs ∧ dimOf vs ≤ 64 ∧ ∀ i, i < vs.length → (vs[i]?.getD []).length = dimOf vs)) : mayB vs = false := decide_eq_false h
theorem dim0 {L : List Vc} {a : Option Addr} {c : Nat} {v : List Int} (h : L[0]? = some (a, c, v)) : dimOf (vecs L) = v.length := by
  unfold dimOf; rw [vecs_at h]; rfl
/-- The sum of the vectors' numbers at a place. -/
def sumP (vs : List (List Int)) (p : Nat) : Int := (vs.map fun v => v[p]?.getD 0).sum
theorem sumP_take (vs : List (List Int)) (p k : Nat) (v : List Int) (x : Int) (h : vs[k]? = some v) (hx : v[p]?.getD 0 = x) : sumP (vs.take (k + 1)) p = sumP (vs.take k) p + x := by
  have hk : k < vs.length := (List.getElem?_eq_some_iff.1 h).1
  unfold sumP
  rw [List.take_succ_eq_append_getElem hk, List.map_append, List.sum_append]
  rw [List.getElem?_eq_getElem hk] at h
  simp only [Option.some.injEq] at h
  rw [h]; simp [hx]
/-- All numbers are of an int8. -/
def B8 (vs : List (List Int)) : Prop := ∀ v ∈ vs, ∀ x ∈ v, -128 ≤ x ∧ x ≤ 127
theorem getD_bd {v : List Int} (h : ∀ x ∈ v, -128 ≤ x ∧ x ≤ 127) (p : Nat) : -128 ≤ v[p]?.getD 0 ∧ v[p]?.getD 0 ≤ 127 := by
  rcases Nat.lt_or_ge p v.length with h1 | h1
  · rw [List.getElem?_eq_getElem h1]; exact h _ (List.getElem_mem _)
  · rw [List.getElem?_eq_none h1]; simp
theorem sumP_bd (vs : List (List Int)) (h : B8 vs) (p : Nat) : -128 * (vs.length : Int) ≤ sumP vs p ∧ sumP vs p ≤ 127 * (vs.length : Int) := by
  induction vs with
  | nil => simp [sumP]
  | cons v r ih =>
    have h1 := ih (fun u hu => h u (by simp [hu]))
    have h2 := getD_bd (h v (by simp)) p
    have e : sumP (v :: r) p = v[p]?.getD 0 + sumP r p := by unfold sumP; simp
    rw [e]; simp only [List.length_cons]; omega
theorem b8_take {vs : List (List Int)} (h : B8 vs) (k : Nat) : B8 (vs.take k) := fun v hv => h v (List.mem_of_mem_take hv)
theorem b8_at {vs : List (List Int)} (h : B8 vs) {i : Nat} {v : List Int} (hi : vs[i]? = some v) : ∀ x ∈ v, -128 ≤ x ∧ x ≤ 127 := h v (List.mem_of_getElem? hi)
/-- The whole number nearest to s / c, of two as near the one farther from 0. -/
def quo (s c : Int) : Int := if s < 0 then -((2 * -s + c) / (2 * c)) else (2 * s + c) / (2 * c)
theorem quo_half {s c : Int} (hc : 1 ≤ c) (h : -128 * c ≤ s ∧ s ≤ 127 * c) : -128 ≤ quo s c ∧ quo s c ≤ 127 := by
  unfold quo
  split
  · have h1 : (2 * -s + c) / (2 * c) < 129 := Int.ediv_lt_of_lt_mul (by omega) (by omega)
    have h2 : 0 ≤ (2 * -s + c) / (2 * c) := Int.ediv_nonneg (by omega) (by omega)
    omega
  · have h1 : (2 * s + c) / (2 * c) < 128 := Int.ediv_lt_of_lt_mul (by omega) (by omega)
    have h2 : 0 ≤ (2 * s + c) / (2 * c) := Int.ediv_nonneg (by omega) (by omega)
    omega
/-- The mean of vectors, number by number. -/
def meanL (vs : List (List Int)) : List Int := (List.range (dimOf vs)).map fun p => quo (sumP vs p) vs.length
theorem meanL_len (vs : List (List Int)) : (meanL vs).length = dimOf vs := by simp [meanL]
theorem mayB_yes {vs : List (List Int)} (h : mayB vs = true) : 1 ≤ vs.length ∧ vs.length ≤ 2048 ∧ 1 ≤ dimOf vs ∧ dimOf vs ≤ 64 ∧ ∀ i, i < vs.length → (vs[i]?.getD []).length = dimOf vs := of_decide_eq_true h
/-- The row as it stands when k of its places are told. -/
def rowTo (m : List Int) (k : Nat) : List Int := m.take k ++ List.replicate (m.length - k) 0
theorem rowTo_len (m : List Int) (k : Nat) (h : k ≤ m.length) : (rowTo m k).length = m.length := by simp [rowTo]; omega
theorem rowTo_step (m : List Int) (k : Nat) (v : Int) (h : k < m.length) (hv : m[k]?.getD 0 = v) : ((rowTo m k).map (Value.int .i8)).set k (.int .i8 v) = (rowTo m (k + 1)).map (Value.int .i8) := by
  rw [← List.map_set]
  congr 1
  unfold rowTo
  rw [List.set_append_right (h := by rw [List.length_take]; omega), List.length_take, show k - min k m.length = 0 by omega]
  rw [show m.length - k = (m.length - (k + 1)) + 1 by omega, List.replicate_succ, List.set_cons_zero]
  rw [List.take_succ_eq_append_getElem h, List.append_assoc, List.singleton_append]
  rw [List.getElem?_eq_getElem h] at hv
  simp at hv
  rw [hv]
end Go.Proofs.YtfokejlancmahaaGreat
