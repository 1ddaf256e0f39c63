/- The walk of GraphDrops. -/
import Derived.Test.YtjdidlbmgnfcdaaLe
import Derived.Test.YtjdidlbmgnfcdaaLk
import Derived.Test.YtjdidlbmgnfcdaaBi
import Derived.Test.YtjdidlbmgnfcdaaBs
namespace Go.Proofs.Ytjdidlbmgnfcdaa
open Go.RowKit
set_option linter.unusedVariables false
theorem reachedA_len (G : List Pn) (s : Int) : (reachedA G s).length ≤ G.length := by
  rw [reachedA_K]
  exact Nat.le_trans (reachK_len _ _ _) (hopsA_le _ _)
theorem eqZ_self (xs : List Int) : eqZ xs xs = true := by simp [eqZ]
/-- An answer that is a list of numbers, in a range. -/
theorem own_rng {w : World} {base lo hi n c : Nat} {A : Option Addr} {e : TypeId} {xs : List Value} (h : w.ownsRow lo e 1 (.slice A n c) n xs) (hh : w.heap.size ≤ hi) : ∀ g, (Value.slice A n c).ownBlock = some g → lo ≤ g ∧ g < hi := fun g hg => by
  have := h.lt g hg; omega
theorem dropN_mem {G : List Pn} {P : List Int} {k : Nat} {x : Pn} (h : x ∈ dropN G P k) : ∃ i, i < k ∧ x = dropNode P (nAt G i) := by
  unfold dropN at h
  obtain ⟨i, hi, rfl⟩ := List.mem_map.1 h
  have := List.mem_filter.1 hi
  exact ⟨i, List.mem_range.1 this.1, rfl⟩
theorem dropA_small {G : List Pn} {s : Int} {P : List Int} (h : GSmall G) : (dropA G s P).length ≤ 20000 ∧ ∀ x ∈ dropA G s P, x.2.1.length ≤ 20000 ∧ x.2.2.length ≤ 20000 := by
  unfold dropA
  split
  · refine ⟨?_, fun x hx => ?_⟩
    · rw [dropN_len]
      have := toN_le P G.length
      have := h.len
      omega
    · obtain ⟨i, hi, rfl⟩ := dropN_mem hx
      have h1 := h.at_ (nAt_mem hi)
      exact ⟨h1.1, Nat.le_trans (keepO_len _ _) h1.2⟩
  · exact ⟨Nat.zero_le _, fun x hx => by simp at hx⟩
theorem twin_nil9 {w : World} {base g : Nat} {T : List Gn} (h : TwinG w base g T) : ∀ x ∈ T, x.2.1.1 = none → x.2.1.2.1 = 0 := fun x hx hn => by
  obtain ⟨k, hk⟩ := (h.tv x hx).2.1
  rw [hk] at hn; cases hn
end Go.Proofs.Ytjdidlbmgnfcdaa
