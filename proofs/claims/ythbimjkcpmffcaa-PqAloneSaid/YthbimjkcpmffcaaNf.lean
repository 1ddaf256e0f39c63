/- Several texts in one. -/
import Derived.Test.YthbimjkcpmffcaaVf
import Derived.Test.YthbimjkcpmffcaaOw
import Derived.Deep.QuietTactic
import Derived.BigQuiet
/- Mathematics of means: the first mean that is nearest to a vector, what vectors cost, groups, a step; and words on lists of vectors of the call's own. -/
namespace Go.Proofs.Ythbimjkcpmffcaa
open Go.RowKit
set_option linter.unusedVariables false
def vAt (ms : List (List Int)) (i : Nat) : List Int := ms[i]?.getD []
/-- The best of the first k places, as it is found one by one. -/
def nearI (ms : List (List Int)) (v : List Int) : Nat → Nat
  | 0 => 0
  | k + 1 => if far (vAt ms k) v < far (vAt ms (nearI ms v k)) v then k else nearI ms v k
def nearestI (ms : List (List Int)) (v : List Int) : Nat := nearI ms v ms.length
theorem nearI_one (ms : List (List Int)) (v : List Int) : nearI ms v 1 = 0 := by
  unfold nearI
  simp [nearI]
theorem nearI_lt (ms : List (List Int)) (v : List Int) : ∀ k, 1 ≤ k → nearI ms v k < k
  | 0, h => by omega
  | 1, _ => by rw [nearI_one]; omega
  | k + 2, _ => by
    have := nearI_lt ms v (k + 1) (by omega)
    rw [nearI]
    split <;> omega
theorem nearI_min (ms : List (List Int)) (v : List Int) : ∀ k, (∀ j, j < k → far (vAt ms (nearI ms v k)) v ≤ far (vAt ms j) v) ∧ ∀ j, j < nearI ms v k → far (vAt ms (nearI ms v k)) v < far (vAt ms j) v
  | 0 => ⟨fun j hj => by omega, fun j hj => by simp [nearI] at hj⟩
  | k + 1 => by
    obtain ⟨h1, h2⟩ := nearI_min ms v k
    rw [nearI]
    split
    · rename_i h
      refine ⟨fun j hj => ?_, fun j hj => ?_⟩
      · rcases Nat.lt_or_ge j k with h3 | h3
        · have := h1 j h3; omega
        · obtain rfl : j = k := by omega
          omega
      · have := h1 j hj; omega
    · rename_i h
      refine ⟨fun j hj => ?_, h2⟩
      rcases Nat.lt_or_ge j k with h3 | h3
      · exact h1 j h3
      · obtain rfl : j = k := by omega
        omega
theorem nearestI_lt {ms : List (List Int)} (v : List Int) (h : 1 ≤ ms.length) : nearestI ms v < ms.length := nearI_lt ms v _ h
/-- There is one such place. -/
theorem nearestI_only {ms : List (List Int)} {v : List Int} {b : Nat} (hb : b < ms.length) (h1 : ∀ j, j < ms.length → far (vAt ms b) v ≤ far (vAt ms j) v) (h2 : ∀ j, j < b → far (vAt ms b) v < far (vAt ms j) v) : nearestI ms v = b := by
  obtain ⟨k1, k2⟩ := nearI_min ms v ms.length
  have hl := nearestI_lt v (show 1 ≤ ms.length by omega)
  rcases Nat.lt_trichotomy (nearestI ms v) b with h | h | h
  · have a1 := h2 _ h
    have a2 := k1 b hb
    unfold nearestI at a1
    omega
  · exact h
  · have a1 := k2 b h
    have a2 := h1 _ hl
    unfold nearestI at a2
    omega
/-- What vectors cost. -/
def costL (ms vs : List (List Int)) : Int := (vs.map fun v => far (vAt ms (nearestI ms v)) v).sum
theorem costL_snoc (ms vs : List (List Int)) (v : List Int) : costL ms (vs ++ [v]) = costL ms vs + far (vAt ms (nearestI ms v)) v := by
  unfold costL; simp
/-- The vectors whose nearest mean is the k-th. -/
def groupL (ms vs : List (List Int)) (k : Nat) : List (List Int) := vs.filter fun v => nearestI ms v == k
/-- What stands in place of the k-th mean. -/
def nextM (ms vs : List (List Int)) (k : Nat) : List Int := if groupL ms vs k = [] then vAt ms k else meanL (groupL ms vs k)
def stepL (ms vs : List (List Int)) : List (List Int) := (List.range ms.length).map (nextM ms vs)
theorem stepL_len (ms vs : List (List Int)) : (stepL ms vs).length = ms.length := by simp [stepL]
theorem stepL_take (ms vs : List (List Int)) {k : Nat} (h : k < ms.length) : (stepL ms vs).take (k + 1) = (stepL ms vs).take k ++ [nextM ms vs k] := by
  have hl : k < (stepL ms vs).length := by rw [stepL_len]; exact h
  rw [List.take_add_one, List.getElem?_eq_getElem hl]
  simp [stepL]
/-- May means be, and do vectors go with them? -/
def mayM (ms vs : List (List Int)) : Bool := decide (ms.length ≤ 64 ∧ mayB ms = true ∧ vs.length ≤ 2048 ∧ ∀ i, i < vs.length → (vAt vs i).length = dimOf ms)
theorem mayM_yes {ms vs : List (List Int)} (h : mayM ms vs = true) : ms.length ≤ 64 ∧ mayB ms = true ∧ vs.length ≤ 2048 ∧ ∀ i, i < vs.length → (vAt vs i).length = dimOf ms := of_decide_eq_true h
theorem mayM_no {ms vs : List (List Int)} (h : ¬ (ms.length ≤ 64 ∧ mayB ms = true ∧ vs.length ≤ 2048 ∧ ∀ i, i < vs.length → (vAt vs i).length = dimOf ms)) : mayM ms vs = false := decide_eq_false h
theorem vAt_mem {vs : List (List Int)} {i : Nat} (h : i < vs.length) : vAt vs i ∈ vs := by
  unfold vAt; rw [List.getElem?_eq_getElem h]; exact List.getElem_mem h
theorem mem_vAt {vs : List (List Int)} {v : List Int} (h : v ∈ vs) : ∃ i, i < vs.length ∧ vAt vs i = v := by
  obtain ⟨i, hi, rfl⟩ := List.getElem_of_mem h
  exact ⟨i, hi, by unfold vAt; rw [List.getElem?_eq_getElem hi]; rfl⟩
theorem mayM_len {ms vs : List (List Int)} (h : mayM ms vs = true) : ∀ v ∈ vs, v.length = dimOf ms := fun v hv => by
  obtain ⟨i, hi, rfl⟩ := mem_vAt hv
  exact (mayM_yes h).2.2.2 i hi
theorem mayB_len {ms : List (List Int)} (h : mayB ms = true) : ∀ v ∈ ms, v.length = dimOf ms := fun v hv => by
  obtain ⟨i, hi, rfl⟩ := mem_vAt hv
  exact (mayB_yes h).2.2.2.2 i hi
theorem mayB_of {vs : List (List Int)} {d : Nat} (h1 : 1 ≤ vs.length) (h2 : vs.length ≤ 2048) (hd1 : 1 ≤ d) (hd2 : d ≤ 64) (h : ∀ v ∈ vs, v.length = d) : mayB vs = true ∧ dimOf vs = d := by
  have e : dimOf vs = d := h _ (vAt_mem (show 0 < vs.length by omega))
  exact ⟨decide_eq_true ⟨h1, h2, by omega, by omega, fun i hi => by rw [e]; exact h _ (vAt_mem hi)⟩, e⟩
theorem group_mem {ms vs : List (List Int)} {k : Nat} {v : List Int} (h : v ∈ groupL ms vs k) : v ∈ vs ∧ nearestI ms v = k := by
  unfold groupL at h
  rw [List.mem_filter] at h
  exact ⟨h.1, by simpa using h.2⟩
/-- A group that has vectors has a mean. -/
theorem group_may {ms vs : List (List Int)} (h : mayM ms vs = true) {k : Nat} (hk : groupL ms vs k ≠ []) : mayB (groupL ms vs k) = true ∧ dimOf (groupL ms vs k) = dimOf ms := by
  have h1 := mayM_yes h
  have h2 := mayB_yes h1.2.1
  refine mayB_of ?_ ?_ h2.2.2.1 h2.2.2.2.1 (fun v hv => mayM_len h v (group_mem hv).1)
  · cases hg : groupL ms vs k with
    | nil => exact absurd hg hk
    | cons a l => simp
  · exact Nat.le_trans (List.length_filter_le _ _) h1.2.2.1
theorem mayB_nil : mayB [] = false := mayB_no (fun h => by simp at h)
theorem nextM_len {ms vs : List (List Int)} (h : mayM ms vs = true) {k : Nat} (hk : k < ms.length) : (nextM ms vs k).length = dimOf ms := by
  unfold nextM
  split
  · exact mayB_len (mayM_yes h).2.1 _ (vAt_mem hk)
  · rename_i hg
    rw [meanL_len]; exact (group_may h hg).2
theorem meanL_b8 {vs : List (List Int)} (h1 : 1 ≤ vs.length) (hb : B8 vs) : ∀ x ∈ meanL vs, -128 ≤ x ∧ x ≤ 127 := fun x hx => by
  unfold meanL at hx
  simp only [List.mem_map, List.mem_range] at hx
  obtain ⟨p, _, rfl⟩ := hx
  exact quo_half (by omega) (sumP_bd vs hb p)
theorem nextM_b8 {ms vs : List (List Int)} (hm : B8 ms) (hv : B8 vs) {k : Nat} (hk : k < ms.length) : ∀ x ∈ nextM ms vs k, -128 ≤ x ∧ x ≤ 127 := by
  unfold nextM
  split
  · exact hm _ (vAt_mem hk)
  · rename_i hg
    refine meanL_b8 ?_ (fun v h => hv v (group_mem h).1)
    cases h : groupL ms vs k with
    | nil => exact absurd h hg
    | cons a l => simp
theorem stepL_b8 {ms vs : List (List Int)} (hm : B8 ms) (hv : B8 vs) : B8 (stepL ms vs) := fun v h => by
  unfold stepL at h
  simp only [List.mem_map, List.mem_range] at h
  obtain ⟨k, hk, rfl⟩ := h
  exact nextM_b8 hm hv hk
/-- A step's means may be, too. -/
theorem stepL_may {ms vs : List (List Int)} (h : mayM ms vs = true) : mayM (stepL ms vs) vs = true ∧ dimOf (stepL ms vs) = dimOf ms := by
  have h1 := mayM_yes h
  have h2 := mayB_yes h1.2.1
  have h3 := mayB_of (vs := stepL ms vs) (d := dimOf ms) (by rw [stepL_len]; exact h2.1) (by rw [stepL_len]; omega) h2.2.2.1 h2.2.2.2.1 (fun v hv => by
    unfold stepL at hv
    simp only [List.mem_map, List.mem_range] at hv
    obtain ⟨k, hk, rfl⟩ := hv
    exact nextM_len h hk)
  exact ⟨decide_eq_true ⟨by rw [stepL_len]; exact h1.1, h3.1, h1.2.2.1, fun i hi => by rw [h3.2]; exact h1.2.2.2 i hi⟩, h3.2⟩
/-- So many steps. -/
def stepsL (vs : List (List Int)) : Nat → List (List Int) → List (List Int)
  | 0, ms => ms
  | k + 1, ms => stepL (stepsL vs k ms) vs
/-- The cells of a row of vectors. -/
def cellsV (L : List Vc) : List Value := L.map fun x => .slice x.1 x.2.2.length x.2.1
theorem cellsV_len (L : List Vc) : (cellsV L).length = L.length := by simp [cellsV]
theorem cellsV_snoc (L : List Vc) (x : Vc) : cellsV L ++ [.slice x.1 x.2.2.length x.2.1] = cellsV (L ++ [x]) := by simp [cellsV]
theorem cellsV_at {L : List Vc} {i : Nat} {a : Option Addr} {c : Nat} {v : List Int} (h : L[i]? = some (a, c, v)) : (cellsV L)[i]? = some (.slice a v.length c) := by simp [cellsV, h]
theorem vecs_snoc (L : List Vc) (x : Vc) : vecs (L ++ [x]) = vecs L ++ [x.2.2] := by simp [vecs]
theorem vecs_vAt {L : List Vc} {i : Nat} {a : Option Addr} {c : Nat} {v : List Int} (h : L[i]? = some (a, c, v)) : vAt (vecs L) i = v := by unfold vAt; rw [vecs_at h]; rfl
end Go.Proofs.Ythbimjkcpmffcaa
/- The walk of the document's Together (layer 3). -/
namespace Go.Proofs.Ythbimjkcpmffcaa
open Go.RowKit
set_option linter.unusedVariables false
end Go.Proofs.Ythbimjkcpmffcaa
/- The walks of the document's means: may, nearest (layer 7). -/
namespace Go.Proofs.Ythbimjkcpmffcaa
open Go.RowKit
set_option linter.unusedVariables false
theorem RdV.drewN {w : World} {B : Nat} {A : Option Addr} {L : List Vc} (h : RdV w B A L) (n : Nat) : RdV (w.drewN n) B A L := h.below (below_drewN (Below.refl B w) n)
theorem Rd.drewN {k : IntKind} {w : World} {B : Nat} {A : Option Addr} {xs : List Int} (h : Rd k w B A xs) (n : Nat) : Rd k (w.drewN n) B A xs := h.below (below_drewN (Below.refl B w) n)
end Go.Proofs.Ythbimjkcpmffcaa
