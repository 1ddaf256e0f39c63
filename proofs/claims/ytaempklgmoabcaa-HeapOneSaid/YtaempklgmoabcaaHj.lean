/- The mathematics of the nearest so many: what is kept of hits of unlike IDs. -/
import Derived.Test.YtaempklgmoabcaaHi
namespace Go.Proofs.Ytaempklgmoabcaa
set_option linter.unusedVariables false
/-- A hit put in its place. -/
def insL : HL → Int × Int → HL
  | [], x => [x]
  | y :: s, x => if ltH x y = true then x :: y :: s else y :: insL s x
theorem insL_perm (x : Int × Int) : ∀ s : HL, (insL s x).Perm (x :: s)
  | [] => List.Perm.refl _
  | y :: s => by
    unfold insL
    split
    · exact List.Perm.refl _
    · exact ((insL_perm x s).cons y).trans (List.Perm.swap _ _ _)
theorem insL_len (s : HL) (x : Int × Int) : (insL s x).length = s.length + 1 := by rw [(insL_perm x s).length_eq]; rfl
theorem insL_up (x : Int × Int) : ∀ s : HL, Up s → Up (insL s x)
  | [], _ => by unfold insL Up; simp
  | y :: s, h => by
    unfold Up at h
    rw [List.pairwise_cons] at h
    unfold insL
    split
    · rename_i hl
      unfold Up
      rw [List.pairwise_cons, List.pairwise_cons]
      refine ⟨fun z hz => ?_, h⟩
      simp only [List.mem_cons] at hz
      rcases hz with rfl | hz
      · simp [le_of_lt hl]
      · have := h.1 z hz
        simp only [Bool.not_eq_true'] at this ⊢
        exact swoH.ntrans _ _ _ this (le_of_lt hl)
    · rename_i hl
      unfold Up
      rw [List.pairwise_cons]
      refine ⟨fun z hz => ?_, insL_up x s h.2⟩
      have := (insL_perm x s).subset hz
      simp only [List.mem_cons] at this
      rcases this with rfl | hz
      · simpa using hl
      · exact h.1 z hz
theorem srt_snoc (s : HL) (x : Int × Int) : srt (s ++ [x]) = insL (srt s) x :=
  srt_eq_of (((List.perm_append_singleton x s).trans ((srt_perm s).symm.cons x)).trans (insL_perm x (srt s)).symm) (insL_up x _ (up_srt s))
theorem insL_take (x : Int × Int) : ∀ (s : HL) (m : Nat), (insL s x).take m = (insL (s.take m) x).take m
  | [], m => by simp
  | y :: s, 0 => by simp
  | y :: s, m + 1 => by
    rw [List.take_succ_cons]
    unfold insL
    by_cases h : ltH x y = true
    · rw [if_pos h, if_pos h, List.take_succ_cons, List.take_succ_cons]
      congr 1
      cases m with
      | zero => simp
      | succ m => rw [List.take_succ_cons, List.take_succ_cons, List.take_take]; congr 2; omega
    · rw [if_neg h, if_neg h, List.take_succ_cons, List.take_succ_cons, insL_take x s m]
theorem insL_end (x z : Int × Int) (h : ltH x z = true) : ∀ d : HL, insL (d ++ [z]) x = insL d x ++ [z]
  | [] => by simp [insL, h]
  | y :: d => by
    rw [List.cons_append]
    unfold insL
    split
    · rfl
    · rw [insL_end x z h d]; rfl
theorem insL_far (x : Int × Int) : ∀ s : HL, (∀ y ∈ s, ltH x y = false) → insL s x = s ++ [x]
  | [], _ => rfl
  | y :: s, h => by
    unfold insL
    rw [if_neg (by simp [h y (by simp)]), insL_far x s (fun z hz => h z (List.mem_cons_of_mem _ hz))]
    rfl
theorem pushH_ins {m : Nat} {ys : HL} {x : Int × Int} (hx : x.1 ∉ ids ys) (hu : Up ys) (hl : ys.length ≤ m) (hm : 0 < m) : pushH m ys x = (insL ys x).take m := by
  unfold pushH tookH
  rw [decide_eq_false hx]
  simp only [Bool.not_false, Bool.true_and]
  by_cases h : ys.length = m
  · rw [if_pos h]
    have h0 : 0 < ys.length := by omega
    cases hlt : ltH x (lastH ys) with
    | true =>
      simp only [Bool.or_true, if_true]
      rw [srt_snoc, srt_self (hu.sublist (List.dropLast_sublist _))]
      conv => rhs; rw [← split_last h0]
      rw [insL_end x _ hlt, List.take_left' (by rw [insL_len, List.length_dropLast]; omega)]
    | false =>
      rw [if_neg (by simp [h])]
      rw [insL_far x ys (fun y hy => swoH.ntrans _ _ _ hlt (last_far hu h0 y hy)), List.take_left' h]
  · rw [if_neg h, if_pos (by simp [h]), srt_snoc, srt_self hu, List.take_of_length_le (by rw [insL_len]; omega)]
theorem ids_app (a b : HL) : ids (a ++ b) = ids a ++ ids b := by simp [ids]
theorem pushAll_from {m : Nat} (hm : 0 < m) : ∀ (xs P : HL), (ids (P ++ xs)).Nodup → pushAll m ((srt P).take m) xs = (srt (P ++ xs)).take m
  | [], P, _ => by simp [pushAll]
  | x :: xs, P, h => by
    have e : pushH m ((srt P).take m) x = (srt (P ++ [x])).take m := by
      rw [pushH_ins (m := m) ?_ ((up_srt P).sublist (List.take_sublist _ _)) (by rw [List.length_take]; omega) hm, ← insL_take, srt_snoc]
      intro hmem
      rw [ids_app, List.nodup_append] at h
      obtain ⟨y, hy, he⟩ := List.mem_map.1 hmem
      have hy' := (srt_perm P).subset (List.mem_of_mem_take hy)
      exact h.2.2 y.1 (List.mem_map.2 ⟨y, hy', rfl⟩) x.1 (by simp [ids]) he
    show pushAll m (pushH m ((srt P).take m) x) xs = _
    rw [e, pushAll_from hm xs (P ++ [x]) (by rwa [List.append_assoc, List.singleton_append])]
    rw [List.append_assoc, List.singleton_append]
theorem srt_nil : srt [] = [] := List.eq_nil_of_length_eq_zero (by rw [srt_len]; rfl)
/-- The nearest so many. -/
theorem pushAll_nearest {m : Nat} (hm : 0 < m) {xs : HL} (h : (ids xs).Nodup) : pushAll m [] xs = (srt xs).take m := by
  have := pushAll_from hm xs [] (by simpa using h)
  rw [srt_nil] at this
  simpa using this
theorem fold_take (m : Nat) : ∀ (l S : HL), (l.foldl insL (S.take m)).take m = (l.foldl insL S).take m
  | [], S => by simp [List.take_take]
  | x :: l, S => by
    show (l.foldl insL (insL (S.take m) x)).take m = (l.foldl insL (insL S x)).take m
    rw [← fold_take m l (insL (S.take m) x), ← insL_take, fold_take m l (insL S x)]
theorem srt_fold : ∀ (l S : HL), Up S → srt (S ++ l) = l.foldl insL S
  | [], S, h => by simpa using srt_self h
  | x :: l, S, h => by
    have := srt_fold l (insL S x) (insL_up x S h)
    rw [List.foldl_cons, ← this]
    refine srt_of_perm ?_
    have h2 := (insL_perm x S).symm.append_right l
    refine List.Perm.trans ?_ h2
    simp
theorem srt_half (m : Nat) (l k : HL) : (srt (l ++ (srt k).take m)).take m = (srt (l ++ k)).take m := by
  have e1 : srt (l ++ (srt k).take m) = srt ((srt k).take m ++ l) := srt_of_perm List.perm_append_comm
  have e2 : srt (l ++ k) = srt (srt k ++ l) := srt_of_perm (List.perm_append_comm.trans ((srt_perm k).symm.append_right l))
  rw [e1, e2, srt_fold l _ ((up_srt k).sublist (List.take_sublist _ _)), srt_fold l _ (up_srt k), fold_take]
end Go.Proofs.Ytaempklgmoabcaa
