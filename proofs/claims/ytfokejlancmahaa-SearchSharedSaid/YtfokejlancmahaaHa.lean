/- The mathematics of a binary heap of hits, the worst first: what up and down keep, and what stands at the root. -/
import Derived.Test.YtfokejlancmahaaVi
namespace Go.Proofs.Ytfokejlancmahaa
open Go.Sort
set_option linter.unusedVariables false
abbrev HA := Array (Int × Int)
/-- No hit is farther than the one above it. -/
def Hp (d : HA) (m : Nat) : Prop := ∀ k, 0 < k → k < m → ltH d[(k - 1) / 2]! d[k]! = false
/-- .. but at i itself, against what is below it; what is below it is no farther than what is above it. -/
def DnBut (d : HA) (m i : Nat) : Prop := (∀ k, 0 < k → k < m → (k - 1) / 2 ≠ i → ltH d[(k - 1) / 2]! d[k]! = false) ∧ (0 < i → ∀ k, 0 < k → k < m → (k - 1) / 2 = i → ltH d[(i - 1) / 2]! d[k]! = false)
/-- .. but at j itself, against what is above it. -/
def UpBut (d : HA) (m j : Nat) : Prop := (∀ k, 0 < k → k < m → k ≠ j → ltH d[(k - 1) / 2]! d[k]! = false) ∧ (0 < j → ∀ k, 0 < k → k < m → (k - 1) / 2 = j → ltH d[(j - 1) / 2]! d[k]! = false)
theorem le_of_lt {x y : Int × Int} (h : ltH x y = true) : ltH y x = false := by
  cases h2 : ltH y x with
  | false => rfl
  | true => have := swoH.trans _ _ _ h h2; rw [swoH.irrefl] at this; cases this
theorem swp_at (d : HA) {i j : Nat} (hi : i < d.size) (hj : j < d.size) (k : Nat) : (swp d i j)[k]! = if k = i then d[j]! else if k = j then d[i]! else d[k]! := by
  by_cases h1 : k = i
  · subst h1
    rw [if_pos rfl]
    by_cases h2 : k = j
    · subst h2; exact swp_right d k k hj
    · exact swp_left d k j hi h2
  · rw [if_neg h1]
    by_cases h2 : k = j
    · subst h2; rw [if_pos rfl]; exact swp_right d i k hj
    · rw [if_neg h2]; exact swp_other d i j k h1 h2
theorem Hp.root {d : HA} {m : Nat} (h : Hp d m) : ∀ k, k < m → ltH d[0]! d[k]! = false := by
  intro k
  induction k using Nat.strongRecOn with
  | ind k ih =>
    intro hk
    rcases Nat.eq_zero_or_pos k with h0 | h0
    · subst h0; exact swoH.irrefl _
    · exact swoH.ntrans _ _ _ (ih ((k - 1) / 2) (by omega) (by omega)) (h k h0 hk)
/-- The walk up starts: one hit came at the end. -/
theorem UpBut.start {d d' : HA} {m : Nat} (h : Hp d m) (he : ∀ k, k < m → d'[k]! = d[k]!) : UpBut d' (m + 1) m :=
  ⟨fun k h1 h2 h3 => by rw [he k (by omega), he _ (by omega)]; exact h k h1 (by omega), fun h0 k h1 h2 h3 => by omega⟩
theorem UpBut.stop0 {d : HA} {m : Nat} (h : UpBut d m 0) : Hp d m := fun k h1 h2 => h.1 k h1 h2 (by omega)
theorem UpBut.stop {d : HA} {m j : Nat} (h : UpBut d m j) (hl : ltH d[(j - 1) / 2]! d[j]! = false) : Hp d m := fun k h1 h2 => by
  by_cases e : k = j
  · subst e; exact hl
  · exact h.1 k h1 h2 e
theorem UpBut.step {d : HA} {m j : Nat} (h : UpBut d m j) (hj : 0 < j) (hjm : j < m) (hm : m ≤ d.size) (hl : ltH d[(j - 1) / 2]! d[j]! = true) : UpBut (swp d ((j - 1) / 2) j) m ((j - 1) / 2) := by
  have hi : (j - 1) / 2 < j := by omega
  have sw := swp_at d (i := (j - 1) / 2) (j := j) (by omega) (by omega)
  refine ⟨fun k h1 h2 h3 => ?_, fun h0 k h1 h2 h3 => ?_⟩
  · rw [sw k, if_neg h3, sw]
    by_cases hk : k = j
    · subst hk
      rw [if_pos rfl, if_pos rfl]
      exact le_of_lt hl
    · rw [if_neg hk]
      by_cases hp : (k - 1) / 2 = (j - 1) / 2
      · rw [if_pos hp]
        have := h.1 k h1 h2 hk
        rw [hp] at this
        exact swoH.ntrans _ _ _ (le_of_lt hl) this
      · rw [if_neg hp]
        by_cases hq : (k - 1) / 2 = j
        · rw [if_pos hq]; exact h.2 hj k h1 h2 hq
        · rw [if_neg hq]; exact h.1 k h1 h2 hk
  · have g1 : ((j - 1) / 2 - 1) / 2 ≠ (j - 1) / 2 := by omega
    have g2 : ((j - 1) / 2 - 1) / 2 ≠ j := by omega
    have ha := h.1 ((j - 1) / 2) h0 (by omega) (by omega)
    rw [sw (((j - 1) / 2 - 1) / 2), if_neg g1, if_neg g2, sw k, if_neg (by omega)]
    by_cases hk : k = j
    · rw [if_pos hk]; exact ha
    · rw [if_neg hk]
      have := h.1 k h1 h2 hk
      rw [h3] at this
      exact swoH.ntrans _ _ _ ha this
/-- The walk down starts: the last hit stands at the root. -/
theorem DnBut.start {d d' : HA} {m m' : Nat} (h : Hp d m') (hm : m ≤ m') (he : ∀ k, 0 < k → k < m → d'[k]! = d[k]!) : DnBut d' m 0 :=
  ⟨fun k h1 h2 h3 => by rw [he k h1 h2, he _ (by omega) (by omega)]; exact h k h1 (by omega), fun h0 => by omega⟩
theorem DnBut.stop0 {d : HA} {m i : Nat} (h : DnBut d m i) (hi : m ≤ 2 * i + 1) : Hp d m := fun k h1 h2 => h.1 k h1 h2 (by omega)
/-- j is the farther one of the two below i. -/
def Far (d : HA) (m i j : Nat) : Prop := (j = 2 * i + 1 ∨ j = 2 * i + 2) ∧ j < m ∧ ∀ k, 0 < k → k < m → (k - 1) / 2 = i → ltH d[j]! d[k]! = false
theorem Far.one {d : HA} {m i : Nat} (h1 : 2 * i + 1 < m) (h2 : m ≤ 2 * i + 2) : Far d m i (2 * i + 1) :=
  ⟨.inl rfl, h1, fun k a b c => by obtain rfl : k = 2 * i + 1 := by omega
                                   exact swoH.irrefl _⟩
theorem Far.left {d : HA} {m i : Nat} (h1 : 2 * i + 2 < m) (hl : ltH d[2 * i + 1]! d[2 * i + 2]! = false) : Far d m i (2 * i + 1) :=
  ⟨.inl rfl, by omega, fun k a b c => by
    have : k = 2 * i + 1 ∨ k = 2 * i + 2 := by omega
    rcases this with rfl | rfl
    · exact swoH.irrefl _
    · exact hl⟩
theorem Far.right {d : HA} {m i : Nat} (h1 : 2 * i + 2 < m) (hl : ltH d[2 * i + 1]! d[2 * i + 2]! = true) : Far d m i (2 * i + 2) :=
  ⟨.inr rfl, by omega, fun k a b c => by
    have : k = 2 * i + 1 ∨ k = 2 * i + 2 := by omega
    rcases this with rfl | rfl
    · exact le_of_lt hl
    · exact swoH.irrefl _⟩
theorem DnBut.stop {d : HA} {m i j : Nat} (h : DnBut d m i) (hf : Far d m i j) (hl : ltH d[i]! d[j]! = false) : Hp d m := fun k h1 h2 => by
  by_cases e : (k - 1) / 2 = i
  · rw [e]; exact swoH.ntrans _ _ _ hl (hf.2.2 k h1 h2 e)
  · exact h.1 k h1 h2 e
theorem DnBut.step {d : HA} {m i j : Nat} (h : DnBut d m i) (hf : Far d m i j) (hm : m ≤ d.size) (hl : ltH d[i]! d[j]! = true) : DnBut (swp d i j) m j := by
  obtain ⟨hj, hjm, hk0⟩ := hf
  have sw := swp_at d (i := i) (j := j) (by omega) (by omega)
  refine ⟨fun k h1 h2 h3 => ?_, fun h0 k h1 h2 h3 => ?_⟩
  · rw [sw k, sw]
    by_cases hp : (k - 1) / 2 = i
    · rw [if_pos hp, if_neg (by omega)]
      by_cases hk : k = j
      · rw [if_pos hk]; exact le_of_lt hl
      · rw [if_neg hk]; exact hk0 k h1 h2 hp
    · rw [if_neg hp, if_neg h3]
      by_cases hk : k = i
      · rw [if_pos hk]
        subst hk
        exact h.2 h1 j (by omega) hjm (by omega)
      · rw [if_neg hk, if_neg (by omega)]
        exact h.1 k h1 h2 hp
  · have e1 : (j - 1) / 2 = i := by omega
    rw [e1, sw i, if_pos rfl, sw k, if_neg (by omega), if_neg (by omega)]
    have := h.1 k h1 h2 (by omega)
    rwa [h3] at this
end Go.Proofs.Ytfokejlancmahaa
