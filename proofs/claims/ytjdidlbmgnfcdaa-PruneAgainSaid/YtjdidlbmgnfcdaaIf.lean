/- Pruning: what is kept of what is kept, of places in another order, and the nearest one (mathematics). -/
import Derived.Test.YtjdidlbmgnfcdaaIc
namespace Go.Proofs.Ytjdidlbmgnfcdaa
open Go.RowKit
set_option linter.unusedVariables false
set_option linter.unusedSimpArgs false
/-- Places that are the same ones give the same answer. -/
theorem keepL_same {G : List Pn} {dm : Nat} (hP : PG G dm) {n m deg : Int} {a : Nat} {P Q : List Int} (hp : ∀ p ∈ P, 0 ≤ p ∧ p < (G.length : Int)) (hq : ∀ p ∈ Q, 0 ≤ p ∧ p < (G.length : Int)) (h : ∀ x : Nat, (x : Int) ∈ Q → x ≠ a → (x : Int) ∈ P) (h' : ∀ x : Nat, (x : Int) ∈ P → x ≠ a → (x : Int) ∈ Q) : keepL G n m deg a Q = keepL G n m deg a P := by
  have O := ordP hP a
  have h1 := spK_lt (a := a) (k := P.length) hp
  have h2 := spK_lt (a := a) (k := Q.length) hq
  unfold keepL
  congr 1
  refine rise_ext O _ _ (srtU_rise O _ h2) (srtU_rise O _ h1) fun x => ?_
  rw [srtU_mem O _ h2, srtU_mem O _ h1, spK_mem hq, spK_mem hp]
  exact ⟨fun ⟨u, v⟩ => ⟨h x u v, v⟩, fun ⟨u, v⟩ => ⟨h' x u v, v⟩⟩
/-- What is kept of those that are kept is they. -/
theorem keepL_again {G : List Pn} {dm : Nat} (hP : PG G dm) {n m deg : Int} {a : Nat} {P : List Int} {R : List Nat} (ht : Told G n m deg.toNat a P R) : keepL G n m deg a (natI R) = R := by
  have O := ordP hP a
  have hq : ∀ p ∈ natI R, 0 ≤ p ∧ p < (G.length : Int) := fun p hp => by
    obtain ⟨x, hx, rfl⟩ := List.mem_map.1 hp
    have := (ht.sub x hx).1
    omega
  have h2 := spK_lt (a := a) (k := (natI R).length) hq
  have e : srtU (ltP G a) (spK (natI R) a (natI R).length) = R := by
    refine rise_ext O _ _ (srtU_rise O _ h2) ht.rise fun x => ?_
    rw [srtU_mem O _ h2, spK_mem hq, natI_mem]
    exact ⟨fun h => h.1, fun h => ⟨h, (ht.sub x h).2.1⟩⟩
  unfold keepL
  rw [e, grd_self R [] (by simpa using ht.few) (by simpa using ht.free)]
  simp
/-- The nearest is kept, and stands first. -/
theorem keepL_first {G : List Pn} {dm : Nat} (hP : PG G dm) {n m deg : Int} (hd : 1 ≤ deg) {a p : Nat} {P : List Int} (hp : ∀ q ∈ P, 0 ≤ q ∧ q < (G.length : Int)) (hm : (p : Int) ∈ P) (hne : p ≠ a) (hb : ∀ q : Nat, (q : Int) ∈ P → q ≠ a → ltP G a q p = false) : ∃ T, keepL G n m deg a P = p :: T := by
  have O := ordP hP a
  have h1 := spK_lt (a := a) (k := P.length) hp
  have hmem := fun x => (srtU_mem O _ h1 x).trans (spK_mem hp x)
  have hr := srtU_rise O _ h1
  unfold keepL
  cases hS : srtU (ltP G a) (spK P a P.length) with
  | nil => have := (hmem p).2 ⟨hm, hne⟩; rw [hS] at this; cases this
  | cons x S =>
    rw [hS] at hr
    have hx := (hmem x).1 (by rw [hS]; simp)
    have hpS := (hmem p).2 ⟨hm, hne⟩
    rw [hS] at hpS
    have e : p = x := by
      rcases List.mem_cons.1 hpS with h | h
      · exact h
      · have h3 := (List.pairwise_cons.1 hr).1 p h
        rw [hb x hx.1 hx.2] at h3; cases h3
    subst e
    exact grd_head (by omega)
/-- The places from the last one on, each twice. -/
def tw (P : List Int) : Nat → List Int
  | 0 => []
  | k + 1 => tw P k ++ [P[P.length - 1 - k]?.getD 0, P[P.length - 1 - k]?.getD 0]
theorem tw_len (P : List Int) : ∀ k, (tw P k).length = 2 * k
  | 0 => rfl
  | k + 1 => by unfold tw; rw [List.length_append, tw_len P k]; simp; omega
theorem tw_mem (P : List Int) (x : Int) : ∀ k, x ∈ tw P k ↔ ∃ j, j < k ∧ P[P.length - 1 - j]?.getD 0 = x
  | 0 => by simp [tw]
  | k + 1 => by
    unfold tw
    rw [List.mem_append, tw_mem P x k]
    constructor
    · rintro (⟨j, hj, e⟩ | h)
      · exact ⟨j, by omega, e⟩
      · exact ⟨k, by omega, by simp at h; exact h.symm⟩
    · rintro ⟨j, hj, e⟩
      by_cases h : j = k
      · subst h; right; simp [e]
      · exact .inl ⟨j, by omega, e⟩
theorem tw_all (P : List Int) (x : Int) : x ∈ tw P P.length ↔ x ∈ P := by
  rw [tw_mem]
  constructor
  · rintro ⟨j, hj, e⟩
    have h : P.length - 1 - j < P.length := by omega
    rw [List.getElem?_eq_getElem h] at e
    have e2 : P[P.length - 1 - j] = x := e
    rw [← e2]; exact List.getElem_mem h
  · intro h
    obtain ⟨i, hi, rfl⟩ := List.getElem_of_mem h
    refine ⟨P.length - 1 - i, by omega, ?_⟩
    rw [show P.length - 1 - (P.length - 1 - i) = i by omega, List.getElem?_eq_getElem hi]; rfl
/-- The best of the first places. -/
def BestIs (G : List Pn) (a : Nat) (P : List Int) (k : Nat) (b : Int) : Prop :=
  (b = -1 ∧ ∀ j, j < k → P[j]?.getD 0 = (a : Int)) ∨ ∃ p : Nat, b = (p : Int) ∧ p < G.length ∧ p ≠ a ∧ (p : Int) ∈ P ∧ ∀ j (q : Nat), j < k → P[j]?.getD 0 = (q : Int) → q ≠ a → ltP G a q p = false
theorem BestIs.end_ {G : List Pn} {dm : Nat} (hP : PG G dm) {n m deg : Int} (hd : 1 ≤ deg) {a : Nat} {P : List Int} (hp : ∀ q ∈ P, 0 ≤ q ∧ q < (G.length : Int)) {b : Int} (h : BestIs G a P P.length b) {R : List Nat} (hR : keepL G n m deg a P = R) (ht : Told G n m deg.toNat a P R) : (b = -1 ∧ R = []) ∨ ∃ (p : Nat) (T : List Nat), b = (p : Int) ∧ R = p :: T := by
  rcases h with ⟨hb, h⟩ | ⟨p, hb, h1, h2, h3, h4⟩
  · refine .inl ⟨hb, ?_⟩
    cases hr : R with
    | nil => rfl
    | cons x S =>
      have hx := ht.sub x (by rw [hr]; simp)
      obtain ⟨i, hi, e⟩ := List.getElem_of_mem hx.2.2
      have := h i hi
      rw [List.getElem?_eq_getElem hi] at this
      have e2 : P[i] = (a : Int) := this
      exact absurd (by omega : x = a) hx.2.1
  · obtain ⟨T, e⟩ := keepL_first hP (n := n) (m := m) hd hp h3 h2 (fun q hq hqa => by
      obtain ⟨i, hi, e⟩ := List.getElem_of_mem hq
      exact h4 i q hi (by rw [List.getElem?_eq_getElem hi]; exact e) hqa)
    exact .inr ⟨p, T, hb, by rw [← hR, e]⟩
theorem askB_sub {G : List Pn} {s d deg b n m at_ : Int} {P Q : List Int} (h : askB G s d deg b n m at_ P = true) (hq : ∀ p ∈ Q, p ∈ P) : askB G s d deg b n m at_ Q = true := by
  unfold askB at *
  simp only [Bool.and_eq_true] at *
  exact ⟨h.1, List.all_eq_true.2 fun p hp => List.all_eq_true.1 h.2 p (hq p hp)⟩
end Go.Proofs.Ytjdidlbmgnfcdaa
