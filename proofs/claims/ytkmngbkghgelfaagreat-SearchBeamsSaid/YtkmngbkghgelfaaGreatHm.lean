/- Several texts in one. -/
import Derived.Test.YtkmngbkghgelfaaGreatHe
import Derived.Test.YtkmngbkghgelfaaGreatVw
/- The mathematics of what a heap keeps, as the sorted list of its hits. -/
namespace Go.Proofs.YtkmngbkghgelfaaGreat
set_option linter.unusedVariables false
abbrev HL := List (Int × Int)
abbrev ids (L : HL) : List Int := L.map (·.1)
/-- No hit stands ahead of a nearer one. -/
def Up (ys : HL) : Prop := List.Pairwise (fun a b => (!ltH b a) = true) ys
theorem up_srt (L : HL) : Up (srt L) := srt_pw L
theorem srt_eq_of {L ys : HL} (hp : L.Perm ys) (hs : Up ys) : srt L = ys := by rw [srt_of_perm hp]; exact List.mergeSort_of_pairwise hs
theorem srt_self {ys : HL} (hs : Up ys) : srt ys = ys := srt_eq_of (List.Perm.refl _) hs
def lastH (ys : HL) : Int × Int := ys.getLast?.getD (0, 0)
theorem split_last {ys : HL} (h : 0 < ys.length) : ys.dropLast ++ [lastH ys] = ys := by
  have hne : ys ≠ [] := fun e => by subst e; simp at h
  have := List.dropLast_concat_getLast hne
  unfold lastH
  rw [List.getLast?_eq_some_getLast hne]
  exact this
theorem lastH_mem {ys : HL} (h : 0 < ys.length) : lastH ys ∈ ys := by
  have h2 : lastH ys ∈ ys.dropLast ++ [lastH ys] := by simp
  rwa [split_last h] at h2
theorem last_far {ys : HL} (hs : Up ys) (h : 0 < ys.length) : ∀ y ∈ ys, ltH (lastH ys) y = false := fun y hy => by
  have e := split_last h
  unfold Up at hs
  rw [← e] at hs hy
  rw [List.pairwise_append] at hs
  simp only [List.mem_append, List.mem_singleton] at hy
  rcases hy with hy | rfl
  · have := hs.2.2 y hy (lastH ys) (by simp)
    simpa using this
  · exact swoH.irrefl _
theorem last_top {L : HL} (hl : 0 < L.length) (h : Hp L.toArray L.length) : lastH (srt L) = top L := by
  have hl' : 0 < (srt L).length := by rw [srt_len]; exact hl
  refine sepH _ _ (last_far (up_srt L) hl' _ ((srt_perm L).symm.subset (top_mem hl))) (top_far h _ ((srt_perm L).subset (lastH_mem hl')))
theorem srt_drop {L L' : HL} (hl : 0 < L.length) (h : Hp L.toArray L.length) (hp : (top L :: L').Perm L) : srt L' = (srt L).dropLast := by
  have hl' : 0 < (srt L).length := by rw [srt_len]; exact hl
  have e := split_last hl'
  rw [last_top hl h] at e
  refine srt_eq_of ?_ ((up_srt L).sublist (List.dropLast_sublist _))
  have h1 : (top L :: L').Perm ((srt L).dropLast ++ [top L]) := by rw [e]; exact hp.trans (srt_perm L).symm
  exact (h1.trans (List.perm_append_singleton _ _)).cons_inv
/-- Is a hit taken, by a heap of so many that keeps ys? -/
def tookH (most : Nat) (ys : HL) (x : Int × Int) : Bool := !decide (x.1 ∈ ids ys) && (decide (ys.length ≠ most) || ltH x (lastH ys))
/-- What is kept then. -/
def pushH (most : Nat) (ys : HL) (x : Int × Int) : HL := if tookH most ys x then srt ((if ys.length = most then ys.dropLast else ys) ++ [x]) else ys
theorem ids_perm' {L ys : HL} (h : L.Perm ys) (x : Int) : decide (x ∈ ids L) = decide (x ∈ ids ys) := by
  have := (h.map (·.1)).mem_iff (a := x)
  simp only [ids, this]
end Go.Proofs.YtkmngbkghgelfaaGreat
/- The mathematics of pushing: a hit put in its place. -/
namespace Go.Proofs.YtkmngbkghgelfaaGreat
set_option linter.unusedVariables false
/-- A hit put in its place. -/
def insL : HL → Int × Int → HL
  | [], x => [x]
  | y :: s, x => if ltH x y = true then x :: y :: s else y :: insL s x
theorem insL_perm (x : Int × Int) : ∀ s : HL, (insL s x).Perm (x :: s)
  | [] => List.Perm.refl _
  | y :: s => by
    unfold insL
    split
    · exact List.Perm.refl _
    · exact ((insL_perm x s).cons y).trans (List.Perm.swap _ _ _)
theorem insL_len (s : HL) (x : Int × Int) : (insL s x).length = s.length + 1 := by rw [(insL_perm x s).length_eq]; rfl
theorem insL_up (x : Int × Int) : ∀ s : HL, Up s → Up (insL s x)
  | [], _ => by unfold insL Up; simp
  | y :: s, h => by
    unfold Up at h
    rw [List.pairwise_cons] at h
    unfold insL
    split
    · rename_i hl
      unfold Up
      rw [List.pairwise_cons, List.pairwise_cons]
      refine ⟨fun z hz => ?_, h⟩
      simp only [List.mem_cons] at hz
      rcases hz with rfl | hz
      · simp [le_of_lt hl]
      · have := h.1 z hz
        simp only [Bool.not_eq_true'] at this ⊢
        exact swoH.ntrans _ _ _ this (le_of_lt hl)
    · rename_i hl
      unfold Up
      rw [List.pairwise_cons]
      refine ⟨fun z hz => ?_, insL_up x s h.2⟩
      have := (insL_perm x s).subset hz
      simp only [List.mem_cons] at this
      rcases this with rfl | hz
      · simpa using hl
      · exact h.1 z hz
theorem srt_insL (s : HL) (x : Int × Int) : srt (s ++ [x]) = insL (srt s) x :=
  srt_eq_of (((List.perm_append_singleton x s).trans ((srt_perm s).symm.cons x)).trans (insL_perm x (srt s)).symm) (insL_up x _ (up_srt s))
theorem insL_take (x : Int × Int) : ∀ (s : HL) (m : Nat), (insL s x).take m = (insL (s.take m) x).take m
  | [], m => by simp
  | y :: s, 0 => by simp
  | y :: s, m + 1 => by
    rw [List.take_succ_cons]
    unfold insL
    by_cases h : ltH x y = true
    · rw [if_pos h, if_pos h, List.take_succ_cons, List.take_succ_cons]
      congr 1
      cases m with
      | zero => simp
      | succ m => rw [List.take_succ_cons, List.take_succ_cons, List.take_take]; congr 2; omega
    · rw [if_neg h, if_neg h, List.take_succ_cons, List.take_succ_cons, insL_take x s m]
theorem insL_end (x z : Int × Int) (h : ltH x z = true) : ∀ d : HL, insL (d ++ [z]) x = insL d x ++ [z]
  | [] => by simp [insL, h]
  | y :: d => by
    rw [List.cons_append]
    unfold insL
    split
    · rfl
    · rw [insL_end x z h d]; rfl
theorem insL_far (x : Int × Int) : ∀ s : HL, (∀ y ∈ s, ltH x y = false) → insL s x = s ++ [x]
  | [], _ => rfl
  | y :: s, h => by
    unfold insL
    rw [if_neg (by simp [h y (by simp)]), insL_far x s (fun z hz => h z (List.mem_cons_of_mem _ hz))]
    rfl
theorem pushH_ins {m : Nat} {ys : HL} {x : Int × Int} (hx : x.1 ∉ ids ys) (hu : Up ys) (hl : ys.length ≤ m) (hm : 0 < m) : pushH m ys x = (insL ys x).take m := by
  unfold pushH tookH
  rw [decide_eq_false hx]
  simp only [Bool.not_false, Bool.true_and]
  by_cases h : ys.length = m
  · rw [if_pos h]
    have h0 : 0 < ys.length := by omega
    cases hlt : ltH x (lastH ys) with
    | true =>
      simp only [Bool.or_true, if_true]
      rw [srt_insL, srt_self (hu.sublist (List.dropLast_sublist _))]
      conv => rhs; rw [← split_last h0]
      rw [insL_end x _ hlt, List.take_left' (by rw [insL_len, List.length_dropLast]; omega)]
    | false =>
      rw [if_neg (by simp [h])]
      rw [insL_far x ys (fun y hy => swoH.ntrans _ _ _ hlt (last_far hu h0 y hy)), List.take_left' h]
  · rw [if_neg h, if_pos (by simp [h]), srt_insL, srt_self hu, List.take_of_length_le (by rw [insL_len]; omega)]
end Go.Proofs.YtkmngbkghgelfaaGreat
