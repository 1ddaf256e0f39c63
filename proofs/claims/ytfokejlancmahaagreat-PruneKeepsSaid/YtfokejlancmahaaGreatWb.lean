/- The document's Keep: what it gathers, sorts and keeps (mathematics). -/
import Derived.Test.YtfokejlancmahaaGreatWa
import Derived.Test.YtfokejlancmahaaGreatUh
import Derived.Test.YtfokejlancmahaaGreatKr
namespace Go.Proofs.YtfokejlancmahaaGreat
open Go.RowKit
set_option linter.unusedVariables false
set_option linter.unusedSimpArgs false
theorem spK_memW {P : List Int} {a n : Nat} (h : ∀ p ∈ P, 0 ≤ p ∧ p < (n : Int)) (x : Nat) : x ∈ spK P a P.length ↔ (x : Int) ∈ P ∧ x ≠ a := by
  unfold spK
  rw [List.take_length]
  constructor
  · intro hx
    obtain ⟨p, hp, rfl⟩ := List.mem_map.1 hx
    have h1 := List.mem_filter.1 hp
    have h2 := h p h1.1
    have h3 : p ≠ (a : Int) := by simpa using h1.2
    exact ⟨by rw [Int.toNat_of_nonneg h2.1]; exact h1.1, by omega⟩
  · rintro ⟨hx, hne⟩
    exact List.mem_map.2 ⟨(x : Int), List.mem_filter.2 ⟨hx, by simp; omega⟩, by simp⟩
/-- The places that were handed in, but the node's own, of the first ones. -/
def inU (P : List Int) (a k : Nat) : List Nat := (List.range k).filter (fun i => goneAt P i && decide (i ≠ a))
theorem inU_zero (P : List Int) (a : Nat) : inU P a 0 = [] := rfl
theorem inU_yes {P : List Int} {a k : Nat} (h : goneAt P k = true) (hn : k ≠ a) : inU P a (k + 1) = inU P a k ++ [k] := by
  unfold inU
  rw [List.range_succ, List.filter_append]
  simp [h, hn]
theorem inU_no {P : List Int} {a k : Nat} (h : goneAt P k = false ∨ k = a) : inU P a (k + 1) = inU P a k := by
  unfold inU
  rw [List.range_succ, List.filter_append]
  rcases h with h | h
  · simp [h]
  · subst h; simp
theorem inU_mem (P : List Int) (a k x : Nat) : x ∈ inU P a k ↔ x < k ∧ (x : Int) ∈ P ∧ x ≠ a := by
  unfold inU
  rw [List.mem_filter, List.mem_range]
  simp [goneAt]
theorem inU_len (P : List Int) (a k : Nat) : (inU P a k).length ≤ k := by
  unfold inU
  exact Nat.le_trans (List.length_filter_le _ _) (by simp)
theorem inU_nodup (P : List Int) (a k : Nat) : (inU P a k).Nodup := List.Nodup.sublist List.filter_sublist List.nodup_range
theorem rise_nodup {lt : Nat → Nat → Bool} {n : Nat} (O : OrdN lt n) {S : List Nat} (h : Rise lt S) : S.Nodup := List.Pairwise.imp (fun {i j} hij e => by subst e; rw [O.irr] at hij; cases hij) h
/-- What is gathered, sorted: the keys of the places in their order. -/
theorem srt_keys {G : List Pn} {dm : Nat} (hP : PG G dm) (a : Nat) {P : List Int} (hp : ∀ p ∈ P, 0 ≤ p ∧ p < (G.length : Int)) : srt ((inU P a G.length).map (kQ G a)) = (srtU (ltP G a) (spK P a P.length)).map (kQ G a) := by
  have O := ordP hP a
  have h1 := spK_lt (a := a) (k := P.length) hp
  have hr := srtU_rise O _ h1
  have hperm : (inU P a G.length).Perm (srtU (ltP G a) (spK P a P.length)) := (List.perm_ext_iff_of_nodup (inU_nodup P a G.length) (rise_nodup O hr)).2 fun x => by
    rw [inU_mem, srtU_mem O _ h1, spK_memW hp]
    constructor
    · exact fun h => h.2
    · exact fun h => ⟨by have := hp _ h.1; omega, h⟩
  rw [srt_of_perm (hperm.map (kQ G a))]
  refine List.mergeSort_of_pairwise ?_
  refine List.pairwise_map.2 (List.Pairwise.imp (fun {i j} h => ?_) hr)
  have h2 : ltH (kQ G a i) (kQ G a j) = true := h
  rw [ltH_asymm h2]; rfl
theorem keepL_eq (G : List Pn) (n m deg : Int) (a : Nat) (P : List Int) : keepL G n m deg a P = grd (ndP G n m a) deg.toNat [] (srtU (ltP G a) (spK P a P.length)) := rfl
theorem grd_step {need : Nat → Nat → Bool} {deg p : Nat} {kept S : List Nat} (hl : kept.length < deg) : grd need deg kept (p :: S) = grd need deg (if kept.any (fun k => need k p) then kept else kept ++ [p]) S := by
  cases h : kept.any (fun k => need k p) with
  | true => rw [grd_skip h, if_pos rfl]
  | false => rw [grd_take hl h, if_neg (by simp)]
theorem findI_key {G : List Pn} {s d deg b n m : Int} (h : checkB G s d deg b n m = true) {a p : Nat} (hp : p < G.length) : findI G (kQ G a p).1 = p := by
  unfold checkB at h
  simp only [Bool.and_eq_true] at h
  have hn := of_decide_eq_true h.2.2
  unfold kQ
  rw [clQ_id hp]
  exact (hn p hp).2.2.2.2
end Go.Proofs.YtfokejlancmahaaGreat
