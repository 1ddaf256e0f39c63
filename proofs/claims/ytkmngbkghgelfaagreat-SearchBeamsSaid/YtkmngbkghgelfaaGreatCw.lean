/- A drawn region whose last operation stores, where the last one names some of the others through an operation between. -/
import Derived.Test.YtkmngbkghgelfaaGreatLr
import Derived.Test.YtkmngbkghgelfaaGreatOw
namespace Go.Proofs.YtkmngbkghgelfaaGreat
open Go.RowKit
set_option linter.unusedVariables false
set_option linter.unusedSimpArgs false
section
variable {P : Program} {ops ops' : Array Oper} {Q : Exit → Act → World → Prop} {md : Region.Mode} {S : World → Prop}
theorem closed_next {listed : Array Bool} {i : Nat} (hb : ∀ (i : Nat) (o : Oper), ops[i]? = some o → ∀ e ∈ o.after, e.on < i) (hi : i ∈ Region.ready md ops listed) (hcl : ∀ (i : Nat) (o : Oper), ops[i]? = some o → listed.getD i false = true → ∀ e ∈ o.after, Region.binds md e = true → listed.getD e.on false = true) (hsz : listed.size = ops.size) :
    ∀ (j : Nat) (o : Oper), ops[j]? = some o → (listed.setIfInBounds i true).getD j false = true → ∀ e ∈ o.after, Region.binds md e = true → (listed.setIfInBounds i true).getD e.on false = true := by
  intro j o ho hl e he hbd
  have key : ∀ k, listed.getD k false = true → (listed.setIfInBounds i true).getD k false = true := fun k hk => by
    have hkl : k < listed.size := by
      by_cases hlt : k < listed.size
      · exact hlt
      · rw [Array.getD, dif_neg hlt] at hk; cases hk
    rw [Array.getD, dif_pos hkl] at hk
    rw [Array.getD, dif_pos (by simpa using hkl)]
    simp only [Array.getInternal_eq_getElem] at hk ⊢
    rw [Array.getElem_setIfInBounds]
    split
    · rfl
    · exact hk
  obtain ⟨h6, o6, h7, h8⟩ := mem_ready.1 hi
  apply key
  by_cases hji : j = i
  · subst hji
    rw [ho] at h7
    injection h7 with h7
    subst h7
    have h9 := h8 e he hbd
    have := hb j o ho e he
    have hjl := (Array.getElem?_eq_some_iff.1 ho).1
    rw [Array.getD, dif_pos (by omega)] at h9 ⊢
    exact h9
  · have hjl := (Array.getElem?_eq_some_iff.1 ho).1
    refine hcl j o ho ?_ e he hbd
    rw [Array.getD, dif_pos (by simp; omega)] at hl
    rw [Array.getD, dif_pos (by omega)]
    simp only [Array.getInternal_eq_getElem] at hl ⊢
    rwa [Array.getElem_setIfInBounds_ne (h := fun e => hji e.symm)] at hl
/-- The last operation of ops in its place does nothing: its guard is never met. -/
theorem wpAny_last3 {m : Nat} {o X : Oper} (hs : ops'.size = ops.size) (hms : m < ops.size) (hda : ∀ i : Nat, (ops'[i]?).map (·.after) = (ops[i]?).map (·.after)) (hdd : ∀ i : Nat, (ops'[i]?).map (·.dst) = (ops[i]?).map (·.dst))
    (hsame : ∀ i : Nat, i ≠ m → ops'[i]? = ops[i]?) (ho : ops[m]? = some o) (hX : ops'[m]? = some X) (hXd : X.dst = none) (hXg : X.guard = some (m, true)) (hb : ∀ (i : Nat) (o : Oper), ops[i]? = some o → ∀ e ∈ o.after, e.on < i)
    (hlast : ∀ j, j < ops.size → j ≠ m → ∃ e ∈ o.after, Region.binds md e = true ∧ (e.on = j ∨ ∃ o2, ops[e.on]? = some o2 ∧ ∃ e2 ∈ o2.after, Region.binds md e2 = true ∧ e2.on = j)) :
    ∀ (fuel : Nat) (listed : Array Bool) (a : Act) (w : World), listed.size = ops.size → listed.getD m true = false → (∀ (i : Nat) (o : Oper), ops[i]? = some o → listed.getD i false = true → ∀ e ∈ o.after, Region.binds md e = true → listed.getD e.on false = true) →
      wpAnyH P md ops' (Exit.then (fun a w => wpOp P ops Q m (Q .normal) a w) Q) S fuel listed a w → wpAny P md ops Q fuel listed a w := by
  have hrd := ready_alike (md := md) hs hda
  have hyl := yielded_alike hdd
  intro fuel
  induction fuel with
  | zero =>
    intro listed a w hsz hml hcl h
    have := ready_nil_all (md := md) hb (by rw [← hrd]; exact h.1) m hms
    rw [hml] at this; cases this
  | succ fuel ih =>
    intro listed a w hsz hml hcl h
    refine ⟨fun hr => ?_, fun i hi => ?_⟩
    · have := ready_nil_all (md := md) hb hr m hms
      rw [hml] at this; cases this
    · have h1 := h.2 i (by rw [hrd]; exact hi)
      by_cases him : i = m
      · subst him
        unfold wpOp at h1
        rw [hX] at h1
        simp only at h1
        have hw : ¬ Region.wanted X (yielded ops' a.tmps) = true := by
          unfold Region.wanted yielded
          rw [hXg]
          simp [hX, hXd]
        rw [if_neg hw, hXd] at h1
        have h2 := h1.2
        have hall : Region.ready md ops (listed.setIfInBounds i true) = [] := by
          apply List.eq_nil_iff_forall_not_mem.2
          intro j hj
          obtain ⟨h3, o3, h4, h5⟩ := mem_ready.1 hj
          have hjn : j < ops.size := (Array.getElem?_eq_some_iff.1 h4).1
          obtain ⟨h6, o6, h7, h8⟩ := mem_ready.1 hi
          rw [ho] at h7
          injection h7 with h7
          subst h7
          by_cases hji : j = i
          · subst hji
            rw [Array.getD, dif_pos (by simp; omega)] at h3
            simp at h3
          · obtain ⟨e, he, hbd, hon⟩ := hlast j hjn hji
            have h9 := h8 e he hbd
            have hjl : j < listed.size := by omega
            rw [Array.getD, dif_pos (by simp; omega)] at h3
            simp only [Array.getInternal_eq_getElem] at h3
            rw [Array.getElem_setIfInBounds_ne hjl (fun e => hji e.symm)] at h3
            have hon' : e.on < i := hb i _ ho e he
            have h9' : listed.getD e.on false = true := by
              have hel : e.on < listed.size := by omega
              rw [Array.getD, dif_pos hel] at h9 ⊢
              exact h9
            have h12 : listed.getD j false = true := by
              rcases hon with rfl | ⟨o2, g1, e2, g2, g3, rfl⟩
              · exact h9'
              · exact hcl _ _ g1 h9' e2 g2 g3
            rw [Array.getD, dif_pos hjl] at h12
            simp only [Array.getInternal_eq_getElem] at h12
            rw [h12] at h3; cases h3
        have h10 : wpOp P ops Q i (Q .normal) a w := by
          cases fuel with
          | zero => exact h2.2
          | succ f => exact h2.1 (by rw [hrd]; exact hall)
        refine wpOp_mono (fun a' w' hq => ?_) h10
        cases fuel with
        | zero => exact ⟨hall, hq⟩
        | succ f => exact ⟨fun _ => hq, fun j hj => by rw [hall] at hj; cases hj⟩
      · have h3 : wpOp P ops Q i (fun a' w' => S w' ∧ wpAnyH P md ops' (Exit.then (fun a w => wpOp P ops Q m (Q .normal) a w) Q) S fuel (listed.setIfInBounds i true) a' w') a w := by
          have h4 := h1
          unfold wpOp at h4
          rw [hsame i him, hyl] at h4
          exact wpOp_then (ops := ops) h4
        refine wpOp_mono (fun a' w' hq => ih _ a' w' (by simp [hsz]) ?_ ?_ hq.2) h3
        rotate_left
        · exact closed_next hb hi hcl hsz
        rw [Array.getD, dif_pos (by simp; omega)]
        rw [Array.getD, dif_pos (by omega)] at hml
        simp only [Array.getInternal_eq_getElem] at hml ⊢
        rw [Array.getElem_setIfInBounds_ne (h := him)]
        exact hml
theorem region_last3a {m : Nat} {o X : Oper} {id : Nat} {a : Act} {w : World} (hm : P.follows .mixedOrders = true) (hs : ops'.size = ops.size) (hms : m < ops.size) (hda : ∀ i : Nat, (ops'[i]?).map (·.after) = (ops[i]?).map (·.after)) (hdd : ∀ i : Nat, (ops'[i]?).map (·.dst) = (ops[i]?).map (·.dst))
    (hsame : ∀ i : Nat, i ≠ m → ops'[i]? = ops[i]?) (ho : ops[m]? = some o) (hX : ops'[m]? = some X) (hXd : X.dst = none) (hXg : X.guard = some (m, true)) (hb : ∀ (i : Nat) (o : Oper), ops[i]? = some o → ∀ e ∈ o.after, e.on < i)
    (hlast : ∀ j, j < ops.size → j ≠ m → ∃ e ∈ o.after, Region.binds .any e = true ∧ (e.on = j ∨ ∃ o2, ops[e.on]? = some o2 ∧ ∃ e2 ∈ o2.after, Region.binds .any e2 = true ∧ e2.on = j)) (hS : S w.drew)
    (h : S w.drew → wpAnyH P .any ops' (Exit.then (fun a w => wpOp P ops Q m (Q .normal) a w) Q) S ops.size (Array.replicate ops.size false) a w.drew) : (Code.region id ops true).wp P Q a w :=
  wp_region_any hm (wpAny_last3 (S := S) hs hms hda hdd hsame ho hX hXd hXg hb hlast _ _ a _ (by simp) (by rw [Array.getD, dif_pos (by simpa using hms)]; simp) (fun i o ho hl => by rw [Array.getD] at hl; split at hl <;> simp at hl) (h hS))
/-- The same, checked by reckoning: the last operation stands with a guard that is never met; it is carried out behind all others. -/
theorem region_last3 (m : Nat) (o : Oper) {id : Nat} {a : Act} {w : World} (hm : P.follows .mixedOrders = true) (ho : ops[m]? = some o) (hod : o.dst = none)
    (hb : ((List.range ops.size).all fun i => match ops[i]? with | some o => o.after.all fun e => decide (e.on < i) | none => true) = true)
    (hlast : ((List.range ops.size).all fun j => j == m || o.after.any fun e => Region.binds .any e && (e.on == j || match ops[e.on]? with | some o2 => o2.after.any fun e2 => Region.binds .any e2 && e2.on == j | none => false)) = true) (hS : S w.drew)
    (h : S w.drew → wpAnyH P .any (ops.setIfInBounds m { o with guard := some (m, true) }) (Exit.then (fun a w => wpOp P ops Q m (Q .normal) a w) Q) S ops.size (Array.replicate ops.size false) a w.drew) : (Code.region id ops true).wp P Q a w := by
  have hms : m < ops.size := (Array.getElem?_eq_some_iff.1 ho).1
  refine region_last3a (m := m) (o := o) (X := { o with guard := some (m, true) }) (ops' := ops.setIfInBounds m { o with guard := some (m, true) }) hm (by simp) hms (fun i => ?_) (fun i => ?_) (fun i hi => by rw [getElem?_setX, if_neg hi]) ho (by rw [getElem?_setX, if_pos rfl, if_pos hms]) hod rfl (fun i o' h1 e he => ?_) (fun j hj hjm => ?_) hS h
  · rw [getElem?_setX]
    by_cases hi : i = m
    · subst hi; rw [if_pos rfl, if_pos hms, ho]; rfl
    · rw [if_neg hi]
  · rw [getElem?_setX]
    by_cases hi : i = m
    · subst hi; rw [if_pos rfl, if_pos hms, ho]; rfl
    · rw [if_neg hi]
  · have h2 := List.all_eq_true.1 hb i (List.mem_range.2 (Array.getElem?_eq_some_iff.1 h1).1)
    rw [h1] at h2
    exact of_decide_eq_true (Array.all_eq_true'.1 h2 e he)
  · have h2 := List.all_eq_true.1 hlast j (List.mem_range.2 hj)
    rw [Bool.or_eq_true] at h2
    rcases h2 with h2 | h2
    · exact absurd (beq_iff_eq.1 h2) hjm
    · obtain ⟨e, he, h3⟩ := Array.any_eq_true'.1 h2
      rw [Bool.and_eq_true, Bool.or_eq_true] at h3
      refine ⟨e, he, h3.1, ?_⟩
      rcases h3.2 with h4 | h4
      · exact .inl (beq_iff_eq.1 h4)
      · cases h5 : ops[e.on]? with
        | none => rw [h5] at h4; cases h4
        | some o2 =>
          rw [h5] at h4
          obtain ⟨e2, he2, h6⟩ := Array.any_eq_true'.1 h4
          rw [Bool.and_eq_true] at h6
          exact .inr ⟨o2, rfl, e2, he2, h6.1, beq_iff_eq.1 h6.2⟩

end
end Go.Proofs.YtkmngbkghgelfaaGreat
