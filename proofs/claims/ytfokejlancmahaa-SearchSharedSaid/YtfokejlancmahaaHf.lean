/- The mathematics of what a heap keeps, as the sorted list of its hits. -/
import Derived.Test.YtfokejlancmahaaHe
import Derived.Test.YtfokejlancmahaaVw
namespace Go.Proofs.Ytfokejlancmahaa
set_option linter.unusedVariables false
abbrev HL := List (Int × Int)
abbrev ids (L : HL) : List Int := L.map (·.1)
/-- No hit stands ahead of a nearer one. -/
def Up (ys : HL) : Prop := List.Pairwise (fun a b => (!ltH b a) = true) ys
theorem up_srt (L : HL) : Up (srt L) := srt_pw L
theorem srt_eq_of {L ys : HL} (hp : L.Perm ys) (hs : Up ys) : srt L = ys := by rw [srt_of_perm hp]; exact List.mergeSort_of_pairwise hs
theorem srt_self {ys : HL} (hs : Up ys) : srt ys = ys := srt_eq_of (List.Perm.refl _) hs
def lastH (ys : HL) : Int × Int := ys.getLast?.getD (0, 0)
theorem split_last {ys : HL} (h : 0 < ys.length) : ys.dropLast ++ [lastH ys] = ys := by
  have hne : ys ≠ [] := fun e => by subst e; simp at h
  have := List.dropLast_concat_getLast hne
  unfold lastH
  rw [List.getLast?_eq_some_getLast hne]
  exact this
theorem lastH_mem {ys : HL} (h : 0 < ys.length) : lastH ys ∈ ys := by
  have h2 : lastH ys ∈ ys.dropLast ++ [lastH ys] := by simp
  rwa [split_last h] at h2
theorem last_far {ys : HL} (hs : Up ys) (h : 0 < ys.length) : ∀ y ∈ ys, ltH (lastH ys) y = false := fun y hy => by
  have e := split_last h
  unfold Up at hs
  rw [← e] at hs hy
  rw [List.pairwise_append] at hs
  simp only [List.mem_append, List.mem_singleton] at hy
  rcases hy with hy | rfl
  · have := hs.2.2 y hy (lastH ys) (by simp)
    simpa using this
  · exact swoH.irrefl _
theorem last_top {L : HL} (hl : 0 < L.length) (h : Hp L.toArray L.length) : lastH (srt L) = top L := by
  have hl' : 0 < (srt L).length := by rw [srt_len]; exact hl
  refine sepH _ _ (last_far (up_srt L) hl' _ ((srt_perm L).symm.subset (top_mem hl))) (top_far h _ ((srt_perm L).subset (lastH_mem hl')))
theorem srt_drop {L L' : HL} (hl : 0 < L.length) (h : Hp L.toArray L.length) (hp : (top L :: L').Perm L) : srt L' = (srt L).dropLast := by
  have hl' : 0 < (srt L).length := by rw [srt_len]; exact hl
  have e := split_last hl'
  rw [last_top hl h] at e
  refine srt_eq_of ?_ ((up_srt L).sublist (List.dropLast_sublist _))
  have h1 : (top L :: L').Perm ((srt L).dropLast ++ [top L]) := by rw [e]; exact hp.trans (srt_perm L).symm
  exact (h1.trans (List.perm_append_singleton _ _)).cons_inv
/-- Is a hit taken, by a heap of so many that keeps ys? -/
def tookH (most : Nat) (ys : HL) (x : Int × Int) : Bool := !decide (x.1 ∈ ids ys) && (decide (ys.length ≠ most) || ltH x (lastH ys))
/-- What is kept then. -/
def pushH (most : Nat) (ys : HL) (x : Int × Int) : HL := if tookH most ys x then srt ((if ys.length = most then ys.dropLast else ys) ++ [x]) else ys
theorem ids_perm' {L ys : HL} (h : L.Perm ys) (x : Int) : decide (x ∈ ids L) = decide (x ∈ ids ys) := by
  have := (h.map (·.1)).mem_iff (a := x)
  simp only [ids, this]
end Go.Proofs.Ytfokejlancmahaa
