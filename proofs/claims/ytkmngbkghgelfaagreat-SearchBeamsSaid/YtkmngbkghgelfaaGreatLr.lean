/- A region that draws its order, whose last operation waits for all others: what S says need not hold behind that one. Over any program. -/
import Derived.Deep.RegionHeld3
namespace Go.Proofs.YtkmngbkghgelfaaGreat
set_option linter.unusedVariables false
section
variable {P : Program} {ops ops' : Array Oper} {Q : Exit → Act → World → Prop} {md : Region.Mode} {S : World → Prop}
theorem ready_alike (hs : ops'.size = ops.size) (ha : ∀ i : Nat, (ops'[i]?).map (·.after) = (ops[i]?).map (·.after)) (listed : Array Bool) : Region.ready md ops' listed = Region.ready md ops listed := by
  unfold Region.ready
  rw [hs]
  congr 1
  funext i
  have h := ha i
  cases h1 : ops'[i]? with
  | none =>
    rw [h1] at h
    cases h2 : ops[i]? with
    | none => rfl
    | some o => rw [h2] at h; cases h
  | some o =>
    rw [h1] at h
    cases h2 : ops[i]? with
    | none => rw [h2] at h; cases h
    | some o2 =>
      rw [h2] at h
      simp only [Option.map_some, Option.some.injEq] at h
      simp only [Option.map_some, Option.getD_some, h]
theorem yielded_alike (ha : ∀ i : Nat, (ops'[i]?).map (·.dst) = (ops[i]?).map (·.dst)) (tmps : Array Value) : yielded ops' tmps = yielded ops tmps := by
  funext i
  unfold yielded
  have h := ha i
  have e : (ops'[i]?).bind (·.dst) = (ops[i]?).bind (·.dst) := by
    cases h1 : ops'[i]? with
    | none =>
      rw [h1] at h
      cases h2 : ops[i]? with
      | none => rfl
      | some o => rw [h2] at h; cases h
    | some o =>
      rw [h1] at h
      cases h2 : ops[i]? with
      | none => rw [h2] at h; cases h
      | some o2 =>
        rw [h2] at h
        simp only [Option.map_some, Option.some.injEq] at h
        simpa using h
  rw [e]
theorem upon_then (o : Oper) (a : Act) (K N : Act → World → Prop) (r : Result Next) (h : o.upon P a K (Exit.then N Q) r) : o.upon P a K Q r := by
  cases r with
  | ok n w => cases n <;> exact h
  | halt x w => cases x <;> exact h
theorem wpOp_then {i : Nat} {K N : Act → World → Prop} {a : Act} {w : World} (h : wpOp P ops (Exit.then N Q) i K a w) : wpOp P ops Q i K a w := by
  unfold wpOp at *
  split
  · rename_i ho; simpa [ho] using h
  · rename_i o ho
    simp only [ho] at h
    split
    · rename_i hw
      rw [if_pos hw] at h
      rcases h with h | ⟨h1, a', w', h2⟩
      · exact .inl (upon_then o a K N _ h)
      · exact .inr ⟨h1, a', w', h2⟩
    · rename_i hw
      rw [if_neg hw] at h
      exact h
theorem ready_nil_all (hb : ∀ (i : Nat) (o : Oper), ops[i]? = some o → ∀ e ∈ o.after, e.on < i) {listed : Array Bool} (hr : Region.ready md ops listed = []) : ∀ j, j < ops.size → listed.getD j true = true := by
  intro j
  induction j using Nat.strongRecOn with
  | _ j ih =>
    intro hj
    cases hl : listed.getD j true with
    | true => rfl
    | false =>
      exfalso
      have hm : j ∈ Region.ready md ops listed := mem_ready.2 ⟨hl, ops[j], Array.getElem?_eq_getElem hj, fun e he _ => by
        have h1 := hb j _ (Array.getElem?_eq_getElem hj) e he
        have h2 := ih e.on h1 (by omega)
        rw [Array.getD, dif_pos] at h2 ⊢
        · exact h2
        · by_cases hlt : e.on < listed.size
          · exact hlt
          · rw [Array.getD, dif_neg (by omega)] at hl
            cases hl
        ⟩
      rw [hr] at hm
      cases hm
/-- The last operation of ops in its place does nothing: its guard is never met. -/
theorem wpAny_last {m : Nat} {o X : Oper} (hs : ops'.size = ops.size) (hms : m < ops.size) (hda : ∀ i : Nat, (ops'[i]?).map (·.after) = (ops[i]?).map (·.after)) (hdd : ∀ i : Nat, (ops'[i]?).map (·.dst) = (ops[i]?).map (·.dst))
    (hsame : ∀ i : Nat, i ≠ m → ops'[i]? = ops[i]?) (ho : ops[m]? = some o) (hX : ops'[m]? = some X) (hXd : X.dst = none) (hXg : X.guard = some (m, true)) (hb : ∀ (i : Nat) (o : Oper), ops[i]? = some o → ∀ e ∈ o.after, e.on < i)
    (hlast : ∀ j, j < ops.size → j ≠ m → ∃ e ∈ o.after, Region.binds md e = true ∧ e.on = j) :
    ∀ (fuel : Nat) (listed : Array Bool) (a : Act) (w : World), listed.size = ops.size → listed.getD m true = false →
      wpAnyH P md ops' (Exit.then (fun a w => wpOp P ops Q m (Q .normal) a w) Q) S fuel listed a w → wpAny P md ops Q fuel listed a w := by
  have hrd := ready_alike (md := md) hs hda
  have hyl := yielded_alike hdd
  intro fuel
  induction fuel with
  | zero =>
    intro listed a w hsz hml h
    have := ready_nil_all (md := md) hb (by rw [← hrd]; exact h.1) m hms
    rw [hml] at this; cases this
  | succ fuel ih =>
    intro listed a w hsz hml h
    refine ⟨fun hr => ?_, fun i hi => ?_⟩
    · have := ready_nil_all (md := md) hb hr m hms
      rw [hml] at this; cases this
    · have h1 := h.2 i (by rw [hrd]; exact hi)
      by_cases him : i = m
      · subst him
        unfold wpOp at h1
        rw [hX] at h1
        simp only at h1
        have hw : ¬ Region.wanted X (yielded ops' a.tmps) = true := by
          unfold Region.wanted yielded
          rw [hXg]
          simp [hX, hXd]
        rw [if_neg hw, hXd] at h1
        have h2 := h1.2
        have hall : Region.ready md ops (listed.setIfInBounds i true) = [] := by
          apply List.eq_nil_iff_forall_not_mem.2
          intro j hj
          obtain ⟨h3, o3, h4, h5⟩ := mem_ready.1 hj
          have hjn : j < ops.size := (Array.getElem?_eq_some_iff.1 h4).1
          obtain ⟨h6, o6, h7, h8⟩ := mem_ready.1 hi
          rw [ho] at h7
          injection h7 with h7
          subst h7
          by_cases hji : j = i
          · subst hji
            rw [Array.getD, dif_pos (by simp; omega)] at h3
            simp at h3
          · obtain ⟨e, he, hbd, hon⟩ := hlast j hjn hji
            have h9 := h8 e he hbd
            rw [hon] at h9
            have hjl : j < listed.size := by omega
            rw [Array.getD, dif_pos hjl] at h9
            rw [Array.getD, dif_pos (by simp; omega)] at h3
            simp only [Array.getInternal_eq_getElem] at h3 h9
            rw [Array.getElem_setIfInBounds_ne hjl (fun e => hji e.symm)] at h3
            rw [h9] at h3; cases h3
        have h10 : wpOp P ops Q i (Q .normal) a w := by
          cases fuel with
          | zero => exact h2.2
          | succ f => exact h2.1 (by rw [hrd]; exact hall)
        refine wpOp_mono (fun a' w' hq => ?_) h10
        cases fuel with
        | zero => exact ⟨hall, hq⟩
        | succ f => exact ⟨fun _ => hq, fun j hj => by rw [hall] at hj; cases hj⟩
      · have h3 : wpOp P ops Q i (fun a' w' => S w' ∧ wpAnyH P md ops' (Exit.then (fun a w => wpOp P ops Q m (Q .normal) a w) Q) S fuel (listed.setIfInBounds i true) a' w') a w := by
          have h4 := h1
          unfold wpOp at h4
          rw [hsame i him, hyl] at h4
          exact wpOp_then (ops := ops) h4
        refine wpOp_mono (fun a' w' hq => ih _ a' w' (by simp [hsz]) ?_ hq.2) h3
        rw [Array.getD, dif_pos (by simp; omega)]
        rw [Array.getD, dif_pos (by omega)] at hml
        simp only [Array.getInternal_eq_getElem] at hml ⊢
        rw [Array.getElem_setIfInBounds_ne (h := him)]
        exact hml
theorem region_last {m : Nat} {o X : Oper} {id : Nat} {a : Act} {w : World} (hm : P.follows .mixedOrders = true) (hs : ops'.size = ops.size) (hms : m < ops.size) (hda : ∀ i : Nat, (ops'[i]?).map (·.after) = (ops[i]?).map (·.after)) (hdd : ∀ i : Nat, (ops'[i]?).map (·.dst) = (ops[i]?).map (·.dst))
    (hsame : ∀ i : Nat, i ≠ m → ops'[i]? = ops[i]?) (ho : ops[m]? = some o) (hX : ops'[m]? = some X) (hXd : X.dst = none) (hXg : X.guard = some (m, true)) (hb : ∀ (i : Nat) (o : Oper), ops[i]? = some o → ∀ e ∈ o.after, e.on < i)
    (hlast : ∀ j, j < ops.size → j ≠ m → ∃ e ∈ o.after, Region.binds .any e = true ∧ e.on = j) (hS : S w.drew)
    (h : S w.drew → wpAnyH P .any ops' (Exit.then (fun a w => wpOp P ops Q m (Q .normal) a w) Q) S ops.size (Array.replicate ops.size false) a w.drew) : (Code.region id ops true).wp P Q a w :=
  wp_region_any hm (wpAny_last (S := S) hs hms hda hdd hsame ho hX hXd hXg hb hlast _ _ a _ (by simp) (by rw [Array.getD, dif_pos (by simpa using hms)]; simp) (h hS))
theorem getElem?_setX {ops : Array Oper} {m i : Nat} {X : Oper} : (ops.setIfInBounds m X)[i]? = if i = m then (if m < ops.size then some X else none) else ops[i]? := by
  by_cases h : i = m
  · subst h; simp [Array.getElem?_setIfInBounds]
  · rw [if_neg h, Array.getElem?_setIfInBounds_ne (fun e => h e.symm)]
/-- The same, checked by reckoning: the last operation stands with a guard that is never met; it is carried out behind all others. -/
theorem region_last2 (m : Nat) (o : Oper) {id : Nat} {a : Act} {w : World} (hm : P.follows .mixedOrders = true) (ho : ops[m]? = some o) (hod : o.dst = none)
    (hb : ((List.range ops.size).all fun i => match ops[i]? with | some o => o.after.all fun e => decide (e.on < i) | none => true) = true)
    (hlast : ((List.range ops.size).all fun j => j == m || o.after.any fun e => Region.binds .any e && e.on == j) = true) (hS : S w.drew)
    (h : S w.drew → wpAnyH P .any (ops.setIfInBounds m { o with guard := some (m, true) }) (Exit.then (fun a w => wpOp P ops Q m (Q .normal) a w) Q) S ops.size (Array.replicate ops.size false) a w.drew) : (Code.region id ops true).wp P Q a w := by
  have hms : m < ops.size := (Array.getElem?_eq_some_iff.1 ho).1
  refine region_last (m := m) (o := o) (X := { o with guard := some (m, true) }) (ops' := ops.setIfInBounds m { o with guard := some (m, true) }) hm (by simp) hms (fun i => ?_) (fun i => ?_) (fun i hi => by rw [getElem?_setX, if_neg hi]) ho (by rw [getElem?_setX, if_pos rfl, if_pos hms]) hod rfl (fun i o' h1 e he => ?_) (fun j hj hjm => ?_) hS h
  · rw [getElem?_setX]
    by_cases hi : i = m
    · subst hi; rw [if_pos rfl, if_pos hms, ho]; rfl
    · rw [if_neg hi]
  · rw [getElem?_setX]
    by_cases hi : i = m
    · subst hi; rw [if_pos rfl, if_pos hms, ho]; rfl
    · rw [if_neg hi]
  · have h2 := List.all_eq_true.1 hb i (List.mem_range.2 (Array.getElem?_eq_some_iff.1 h1).1)
    rw [h1] at h2
    exact of_decide_eq_true (Array.all_eq_true'.1 h2 e he)
  · have h2 := List.all_eq_true.1 hlast j (List.mem_range.2 hj)
    rw [Bool.or_eq_true] at h2
    rcases h2 with h2 | h2
    · exact absurd (beq_iff_eq.1 h2) hjm
    · obtain ⟨e, he, h3⟩ := Array.any_eq_true'.1 h2
      rw [Bool.and_eq_true] at h3
      exact ⟨e, he, h3.1, beq_iff_eq.1 h3.2⟩
end
end Go.Proofs.YtkmngbkghgelfaaGreat
