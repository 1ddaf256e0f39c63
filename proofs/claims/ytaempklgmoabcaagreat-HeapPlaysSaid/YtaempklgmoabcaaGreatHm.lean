/- The mathematics of pushing: a hit put in its place. -/
import Derived.Test.YtaempklgmoabcaaGreatHf
namespace Go.Proofs.YtaempklgmoabcaaGreat
set_option linter.unusedVariables false
/-- A hit put in its place. -/
def insL : HL → Int × Int → HL
  | [], x => [x]
  | y :: s, x => if ltH x y = true then x :: y :: s else y :: insL s x
theorem insL_perm (x : Int × Int) : ∀ s : HL, (insL s x).Perm (x :: s)
  | [] => List.Perm.refl _
  | y :: s => by
    unfold insL
    split
    · exact List.Perm.refl _
    · exact ((insL_perm x s).cons y).trans (List.Perm.swap _ _ _)
theorem insL_len (s : HL) (x : Int × Int) : (insL s x).length = s.length + 1 := by rw [(insL_perm x s).length_eq]; rfl
theorem insL_up (x : Int × Int) : ∀ s : HL, Up s → Up (insL s x)
  | [], _ => by unfold insL Up; simp
  | y :: s, h => by
    unfold Up at h
    rw [List.pairwise_cons] at h
    unfold insL
    split
    · rename_i hl
      unfold Up
      rw [List.pairwise_cons, List.pairwise_cons]
      refine ⟨fun z hz => ?_, h⟩
      simp only [List.mem_cons] at hz
      rcases hz with rfl | hz
      · simp [le_of_lt hl]
      · have := h.1 z hz
        simp only [Bool.not_eq_true'] at this ⊢
        exact swoH.ntrans _ _ _ this (le_of_lt hl)
    · rename_i hl
      unfold Up
      rw [List.pairwise_cons]
      refine ⟨fun z hz => ?_, insL_up x s h.2⟩
      have := (insL_perm x s).subset hz
      simp only [List.mem_cons] at this
      rcases this with rfl | hz
      · simpa using hl
      · exact h.1 z hz
theorem srt_insL (s : HL) (x : Int × Int) : srt (s ++ [x]) = insL (srt s) x :=
  srt_eq_of (((List.perm_append_singleton x s).trans ((srt_perm s).symm.cons x)).trans (insL_perm x (srt s)).symm) (insL_up x _ (up_srt s))
theorem insL_take (x : Int × Int) : ∀ (s : HL) (m : Nat), (insL s x).take m = (insL (s.take m) x).take m
  | [], m => by simp
  | y :: s, 0 => by simp
  | y :: s, m + 1 => by
    rw [List.take_succ_cons]
    unfold insL
    by_cases h : ltH x y = true
    · rw [if_pos h, if_pos h, List.take_succ_cons, List.take_succ_cons]
      congr 1
      cases m with
      | zero => simp
      | succ m => rw [List.take_succ_cons, List.take_succ_cons, List.take_take]; congr 2; omega
    · rw [if_neg h, if_neg h, List.take_succ_cons, List.take_succ_cons, insL_take x s m]
theorem insL_end (x z : Int × Int) (h : ltH x z = true) : ∀ d : HL, insL (d ++ [z]) x = insL d x ++ [z]
  | [] => by simp [insL, h]
  | y :: d => by
    rw [List.cons_append]
    unfold insL
    split
    · rfl
    · rw [insL_end x z h d]; rfl
theorem insL_far (x : Int × Int) : ∀ s : HL, (∀ y ∈ s, ltH x y = false) → insL s x = s ++ [x]
  | [], _ => rfl
  | y :: s, h => by
    unfold insL
    rw [if_neg (by simp [h y (by simp)]), insL_far x s (fun z hz => h z (List.mem_cons_of_mem _ hz))]
    rfl
theorem pushH_ins {m : Nat} {ys : HL} {x : Int × Int} (hx : x.1 ∉ ids ys) (hu : Up ys) (hl : ys.length ≤ m) (hm : 0 < m) : pushH m ys x = (insL ys x).take m := by
  unfold pushH tookH
  rw [decide_eq_false hx]
  simp only [Bool.not_false, Bool.true_and]
  by_cases h : ys.length = m
  · rw [if_pos h]
    have h0 : 0 < ys.length := by omega
    cases hlt : ltH x (lastH ys) with
    | true =>
      simp only [Bool.or_true, if_true]
      rw [srt_insL, srt_self (hu.sublist (List.dropLast_sublist _))]
      conv => rhs; rw [← split_last h0]
      rw [insL_end x _ hlt, List.take_left' (by rw [insL_len, List.length_dropLast]; omega)]
    | false =>
      rw [if_neg (by simp [h])]
      rw [insL_far x ys (fun y hy => swoH.ntrans _ _ _ hlt (last_far hu h0 y hy)), List.take_left' h]
  · rw [if_neg h, if_pos (by simp [h]), srt_insL, srt_self hu, List.take_of_length_le (by rw [insL_len]; omega)]
end Go.Proofs.YtaempklgmoabcaaGreat
