/- Mathematics of hops: one step nearer; one neighbour more. -/
import Derived.Test.YtkmngbkghgelfaaLb
namespace Go.Proofs.Ytkmngbkghgelfaa
set_option linter.unusedVariables false
theorem hop_start (G : List Pn) (s : Nat) : hopI G s s = 0 := by
  have := way_hop (Way.here (G := G) (s := s))
  omega
theorem hop_step {G : List Pn} {s i j : Nat} (h : 0 ≤ hopI G s i) (ht : (j : Int) ∈ outAt G i) : 0 ≤ hopI G s j ∧ hopI G s j ≤ hopI G s i + 1 := by
  have h1 := way_hop (Way.step (hop_way h) ht)
  omega
theorem hop_pred {G : List Pn} {s j : Nat} (h : 0 < hopI G s j) : ∃ i, hopI G s i = hopI G s j - 1 ∧ (j : Int) ∈ outAt G i := by
  have h1 := hop_way (Int.le_of_lt h)
  obtain ⟨m, hm⟩ : ∃ m, (hopI G s j).toNat = m + 1 := ⟨(hopI G s j).toNat - 1, by omega⟩
  rw [hm] at h1
  generalize hq : m + 1 = q at h1
  cases h1 with
  | here => omega
  | @step k i j hw ht =>
    obtain rfl : m = k := by omega
    have h2 := way_hop hw
    have h3 := hop_step h2.1 ht
    exact ⟨i, by omega, ht⟩
theorem hop_zero {G : List Pn} {s i : Nat} (h : hopI G s i = 0) : i = s := by
  have h1 := hop_way (Int.le_of_eq h.symm)
  rw [h] at h1
  generalize hq : (0 : Int).toNat = q at h1
  cases h1 with
  | here => rfl
  | step hw ht => simp at hq
/-- One neighbour more. -/
def moreG (G : List Pn) (i k : Nat) : List Pn := G.set i ((nAt G i).1, (nAt G i).2.1, (nAt G i).2.2 ++ [(k : Int)])
theorem moreG_len (G : List Pn) (i k : Nat) : (moreG G i k).length = G.length := by simp [moreG]
theorem nAt_set {G : List Pn} {i j : Nat} {x : Pn} (hi : i < G.length) : nAt (G.set i x) j = if j = i then x else nAt G j := by
  unfold nAt
  by_cases h : j = i
  · subst h; simp [hi]
  · rw [List.getElem?_set_ne (fun e => h e.symm), if_neg h]
theorem moreG_out {G : List Pn} {i k j : Nat} (hi : i < G.length) : outAt (moreG G i k) j = if j = i then outAt G i ++ [(k : Int)] else outAt G j := by
  unfold outAt moreG
  rw [nAt_set hi]
  split
  · rfl
  · rfl
theorem more_way {G : List Pn} {s i k m n : Nat} (hi : i < G.length) (h : Way G s m n) : Way (moreG G i k) s m n := by
  induction h with
  | here => exact .here
  | @step m p j hw ht ih =>
    refine .step ih ?_
    rw [moreG_out hi]
    split
    · rename_i e; subst e; exact List.mem_append.2 (.inl ht)
    · exact ht
theorem more_le {G : List Pn} {s i k n : Nat} (hi : i < G.length) (h : 0 ≤ hopI G s n) : 0 ≤ hopI (moreG G i k) s n ∧ hopI (moreG G i k) s n ≤ hopI G s n := by
  have := way_hop (more_way (k := k) hi (hop_way h))
  omega
/-- Is the neighbour needed? -/
def neededG (G : List Pn) (s i k : Nat) : Prop := 0 ≤ hopI G s i ∧ (hopI G s k < 0 ∨ hopI G s k > hopI G s i + 1)
theorem more_mem {G : List Pn} {i k p j : Nat} (hi : i < G.length) (h : (j : Int) ∈ outAt (moreG G i k) p) : (j : Int) ∈ outAt G p ∨ (p = i ∧ j = k) := by
  rw [moreG_out hi] at h
  split at h
  · rename_i e
    subst e
    rcases List.mem_append.1 h with h | h
    · exact .inl h
    · rw [List.mem_singleton] at h; exact .inr ⟨rfl, by omega⟩
  · exact .inl h
theorem more_same {G : List Pn} {s i k n : Nat} (hi : i < G.length) (hn : ¬ neededG G s i k) : hopI (moreG G i k) s n = hopI G s n := by
  have key : ∀ m n, Way (moreG G i k) s m n → 0 ≤ hopI G s n ∧ hopI G s n ≤ m := by
    intro m n h
    induction h with
    | here => rw [hop_start]; omega
    | @step m p j hw ht ih =>
      rcases more_mem hi ht with h | ⟨rfl, rfl⟩
      · have := hop_step ih.1 h; omega
      · by_cases q1 : hopI G s j < 0
        · exact absurd ⟨ih.1, .inl q1⟩ hn
        · by_cases q2 : hopI G s j > hopI G s p + 1
          · exact absurd ⟨ih.1, .inr q2⟩ hn
          · omega
  have g1 := hop_ge G s n
  have g2 := hop_ge (moreG G i k) s n
  by_cases h : 0 ≤ hopI (moreG G i k) s n
  · have h1 := key _ _ (hop_way h)
    have h2 := more_le (k := k) hi h1.1
    omega
  · by_cases h3 : 0 ≤ hopI G s n
    · exact absurd (more_le (k := k) hi h3).1 h
    · omega
theorem more_needed {G : List Pn} {s i k : Nat} (hi : i < G.length) (hn : neededG G s i k) : hopI (moreG G i k) s k = hopI G s i + 1 := by
  have key : ∀ m n, Way (moreG G i k) s m n → (0 ≤ hopI G s n ∧ hopI G s n ≤ m) ∨ hopI G s i + 1 ≤ m := by
    intro m n h
    induction h with
    | here => left; rw [hop_start]; omega
    | @step m p j hw ht ih =>
      rcases ih with ih | ih
      · rcases more_mem hi ht with h | ⟨rfl, rfl⟩
        · have := hop_step ih.1 h; left; omega
        · right; omega
      · right; omega
  have h1 := more_le (k := k) hi hn.1
  have h2 : (k : Int) ∈ outAt (moreG G i k) i := by rw [moreG_out hi, if_pos rfl]; simp
  have h3 := hop_step h1.1 h2
  rcases key _ _ (hop_way h3.1) with h | h
  · rcases hn.2 with q | q <;> omega
  · omega
/-- What is reached, by places. -/
theorem reached_count (G : List Pn) (s : Int) (n : Nat) : ((List.range n).filter fun i => decide (0 ≤ hopI G s.toNat i)).length ≤ n := by
  have := List.length_filter_le (fun i => decide (0 ≤ hopI G s.toNat i)) (List.range n)
  simpa using this
end Go.Proofs.Ytkmngbkghgelfaa
