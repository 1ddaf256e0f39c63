/- What vectors cost, one by one. -/
import Derived.Test.YthbimjkcpmffcaaGreatNl
namespace Go.Proofs.YthbimjkcpmffcaaGreat
open Go.RowKit
set_option linter.unusedVariables false
theorem costL_take {ms vs : List (List Int)} {k : Nat} {v : List Int} (h : vs[k]? = some v) : costL ms (vs.take (k + 1)) = costL ms (vs.take k) + far (vAt ms (nearestI ms v)) v := by
  have e : vs.take (k + 1) = vs.take k ++ [v] := by rw [List.take_add_one, h]; rfl
  rw [e, costL_snoc]
theorem costL_bd {ms vs : List (List Int)} (h : mayM ms vs = true) (b1 : B8 ms) (b2 : B8 vs) (k : Nat) : 0 ≤ costL ms (vs.take k) ∧ costL ms (vs.take k) ≤ 4161600 * ((vs.take k).length : Int) := by
  have hm := mayM_yes h
  have h1 := mayB_yes hm.2.1
  have key : ∀ us : List (List Int), (∀ u ∈ us, u ∈ vs) → 0 ≤ costL ms us ∧ costL ms us ≤ 4161600 * (us.length : Int) := by
    intro us
    induction us with
    | nil => intro _; simp [costL]
    | cons u r ih =>
      intro hu
      have i1 := ih (fun x hx => hu x (List.mem_cons_of_mem _ hx))
      have hl := nearestI_lt u h1.1
      have f := far_bd (xs := vAt ms (nearestI ms u)) (ys := u) (by rw [mayB_len hm.2.1 _ (vAt_mem hl)]; exact h1.2.2.2.1) (b1 _ (vAt_mem hl)) (b2 u (hu u (by simp)))
      unfold costL at i1 ⊢
      rw [List.map_cons, List.sum_cons, List.length_cons]
      omega
  exact key _ (fun u hu => List.mem_of_mem_take hu)
end Go.Proofs.YthbimjkcpmffcaaGreat
