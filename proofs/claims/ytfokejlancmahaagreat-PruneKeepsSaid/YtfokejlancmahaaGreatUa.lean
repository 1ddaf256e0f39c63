/- Mathematics: which ones of a list in order are kept (greedily), and sorting without twins. -/
import Derived.Test.YtfokejlancmahaaGreatA
namespace Go.Proofs.YtfokejlancmahaaGreat
set_option linter.unusedVariables false
set_option linter.unusedSimpArgs false
/-- An order of the numbers below n. -/
structure OrdN (lt : Nat → Nat → Bool) (n : Nat) : Prop where
  irr : ∀ i, lt i i = false
  tr : ∀ i j k, lt i j = true → lt j k = true → lt i k = true
  tot : ∀ i j, i < n → j < n → i ≠ j → lt i j = true ∨ lt j i = true
def grd (need : Nat → Nat → Bool) (deg : Nat) : List Nat → List Nat → List Nat
  | kept, [] => kept
  | kept, p :: S => if kept.length < deg then (if kept.any (fun k => need k p) then grd need deg kept S else grd need deg (kept ++ [p]) S) else kept
theorem grd_full {need : Nat → Nat → Bool} {deg : Nat} {kept : List Nat} (h : deg ≤ kept.length) : ∀ S, grd need deg kept S = kept
  | [] => rfl
  | _ :: _ => by unfold grd; rw [if_neg (by omega)]
theorem grd_skip {need : Nat → Nat → Bool} {deg : Nat} {kept : List Nat} {p : Nat} (h : kept.any (fun k => need k p) = true) (S : List Nat) : grd need deg kept (p :: S) = grd need deg kept S := by
  by_cases hl : kept.length < deg
  · conv => lhs; unfold grd
    rw [if_pos hl, if_pos h]
  · rw [grd_full (by omega), grd_full (by omega)]
theorem grd_take {need : Nat → Nat → Bool} {deg : Nat} {kept : List Nat} {p : Nat} (hl : kept.length < deg) (h : kept.any (fun k => need k p) = false) (S : List Nat) : grd need deg kept (p :: S) = grd need deg (kept ++ [p]) S := by
  conv => lhs; unfold grd
  rw [if_pos hl, if_neg (by rw [h]; decide)]
theorem grd_filter {need : Nat → Nat → Bool} {deg k : Nat} : ∀ (S kept : List Nat), k ∈ kept → grd need deg kept (S.filter (fun q => !need k q)) = grd need deg kept S
  | [], _, _ => rfl
  | p :: S, kept, hk => by
    cases hn : need k p with
    | true =>
      have ha : kept.any (fun k => need k p) = true := List.any_eq_true.2 ⟨k, hk, hn⟩
      rw [grd_skip ha, List.filter_cons_of_neg (by simp [hn])]
      exact grd_filter S kept hk
    | false =>
      rw [List.filter_cons_of_pos (by simp [hn])]
      by_cases hl : kept.length < deg
      · cases ha : kept.any (fun k => need k p) with
        | true => rw [grd_skip ha, grd_skip ha]; exact grd_filter S kept hk
        | false => rw [grd_take hl ha, grd_take hl ha]; exact grd_filter S _ (by simp [hk])
      · rw [grd_full (by omega), grd_full (by omega)]
def insU (lt : Nat → Nat → Bool) (p : Nat) : List Nat → List Nat
  | [] => [p]
  | q :: S => if lt p q then p :: q :: S else if lt q p then q :: insU lt p S else q :: S
def srtU (lt : Nat → Nat → Bool) (P : List Nat) : List Nat := P.foldr (insU lt) []
def Rise (lt : Nat → Nat → Bool) (S : List Nat) : Prop := S.Pairwise (fun i j => lt i j = true)
theorem mem_insU {lt : Nat → Nat → Bool} {n p : Nat} (O : OrdN lt n) (hp : p < n) : ∀ (S : List Nat), (∀ q ∈ S, q < n) → ∀ x, x ∈ insU lt p S ↔ x = p ∨ x ∈ S
  | [], _, x => by simp [insU]
  | q :: S, hS, x => by
    unfold insU
    cases h1 : lt p q with
    | true => simp
    | false =>
      cases h2 : lt q p with
      | true => simp [mem_insU O hp S (fun y hy => hS y (by simp [hy])) x]; constructor <;> (rintro (h | h | h) <;> simp [h])
      | false =>
        have : q = p := by
          refine Classical.byContradiction fun hne => ?_
          rcases O.tot q p (hS q (by simp)) hp hne with h | h
          · rw [h] at h2; cases h2
          · rw [h] at h1; cases h1
        subst this
        simp
theorem rise_insU {lt : Nat → Nat → Bool} {n p : Nat} (O : OrdN lt n) (hp : p < n) : ∀ (S : List Nat), (∀ q ∈ S, q < n) → Rise lt S → Rise lt (insU lt p S)
  | [], _, _ => by simp [insU, Rise]
  | q :: S, hS, hR => by
    have hR' := List.pairwise_cons.1 hR
    unfold insU
    cases h1 : lt p q with
    | true =>
      simp only [if_true]
      refine List.pairwise_cons.2 ⟨fun x hx => ?_, hR⟩
      rcases List.mem_cons.1 hx with rfl | hx
      · exact h1
      · exact O.tr _ _ _ h1 (hR'.1 x hx)
    | false =>
      cases h2 : lt q p with
      | true =>
        simp only [Bool.false_eq_true, if_false, if_true]
        refine List.pairwise_cons.2 ⟨fun x hx => ?_, rise_insU O hp S (fun y hy => hS y (by simp [hy])) hR'.2⟩
        rcases (mem_insU O hp S (fun y hy => hS y (by simp [hy])) x).1 hx with rfl | hx
        · exact h2
        · exact hR'.1 x hx
      | false => simpa using hR
theorem srtU_mem {lt : Nat → Nat → Bool} {n : Nat} (O : OrdN lt n) : ∀ (P : List Nat), (∀ q ∈ P, q < n) → ∀ x, x ∈ srtU lt P ↔ x ∈ P
  | [], _, x => by simp [srtU]
  | p :: P, hP, x => by
    have ih := srtU_mem O P (fun y hy => hP y (by simp [hy]))
    have := mem_insU O (hP p (by simp)) (srtU lt P) (fun y hy => hP y (by simp [(ih y).1 hy])) x
    show x ∈ insU lt p (srtU lt P) ↔ _
    rw [this, ih]; simp
theorem srtU_rise {lt : Nat → Nat → Bool} {n : Nat} (O : OrdN lt n) : ∀ (P : List Nat), (∀ q ∈ P, q < n) → Rise lt (srtU lt P)
  | [], _ => by simp [srtU, Rise]
  | p :: P, hP => by
    have ih := srtU_rise O P (fun y hy => hP y (by simp [hy]))
    exact rise_insU O (hP p (by simp)) (srtU lt P) (fun y hy => hP y (by simp [(srtU_mem O P (fun y hy => hP y (by simp [hy])) y).1 hy])) ih
theorem rise_ext {lt : Nat → Nat → Bool} {n : Nat} (O : OrdN lt n) : ∀ (S T : List Nat), Rise lt S → Rise lt T → (∀ q, q ∈ S ↔ q ∈ T) → S = T
  | [], [], _, _, _ => rfl
  | [], t :: T, _, _, h => absurd ((h t).2 (by simp)) (by simp)
  | s :: S, [], _, _, h => absurd ((h s).1 (by simp)) (by simp)
  | s :: S, t :: T, hS, hT, h => by
    have hS' := List.pairwise_cons.1 hS
    have hT' := List.pairwise_cons.1 hT
    have e : s = t := by
      rcases List.mem_cons.1 ((h s).1 (by simp)) with rfl | h1
      · rfl
      · rcases List.mem_cons.1 ((h t).2 (by simp)) with rfl | h2
        · rfl
        · have := O.tr _ _ _ (hS'.1 t h2) (hT'.1 s h1)
          rw [O.irr] at this; cases this
    subst e
    congr 1
    refine rise_ext O S T hS'.2 hT'.2 fun q => ⟨fun hq => ?_, fun hq => ?_⟩
    · rcases List.mem_cons.1 ((h q).1 (by simp [hq])) with rfl | h1
      · have := hS'.1 q hq; rw [O.irr] at this; cases this
      · exact h1
    · rcases List.mem_cons.1 ((h q).2 (by simp [hq])) with rfl | h1
      · have := hT'.1 q hq; rw [O.irr] at this; cases this
      · exact h1
def Weak (lt : Nat → Nat → Bool) (S : List Nat) : Prop := S.Pairwise (fun i j => lt j i = false)
theorem grd_uniq {lt need : Nat → Nat → Bool} {n deg : Nat} (O : OrdN lt n) (hself : ∀ p, p < n → need p p = true) : ∀ (S kept : List Nat), (∀ q ∈ S, q < n) → Weak lt S → grd need deg kept S = grd need deg kept (srtU lt S)
  | [], _, _, _ => rfl
  | p :: S, kept, hS, hW => by
    have hW' := List.pairwise_cons.1 hW
    have hS' : ∀ q ∈ S, q < n := fun y hy => hS y (by simp [hy])
    have ih := fun kept => grd_uniq O hself (deg := deg) S kept hS' hW'.2
    have hp := hS p (by simp)
    show _ = grd need deg kept (insU lt p (srtU lt S))
    have hm := srtU_mem O S hS'
    have hr := srtU_rise O S hS'
    by_cases hin : p ∈ S
    · -- p stands there again: it is the head of S
      have e1 : insU lt p (srtU lt S) = srtU lt S := by
        refine rise_ext O _ _ (rise_insU O hp _ (fun y hy => hS' y ((hm y).1 hy)) hr) hr fun q => ?_
        rw [mem_insU O hp _ (fun y hy => hS' y ((hm y).1 hy))]
        constructor
        · rintro (rfl | h)
          · exact (hm _).2 hin
          · exact h
        · exact .inr
      rw [e1, ← ih]
      cases S with
      | nil => cases hin
      | cons h S =>
        have eh : h = p := by
          refine Classical.byContradiction fun hne => ?_
          rcases List.mem_cons.1 hin with rfl | h1
          · exact hne rfl
          · have a := hW'.1 h (by simp)
            have b := (List.pairwise_cons.1 hW'.2).1 p h1
            rcases O.tot h p (hS' h (by simp)) hp hne with c | c
            · rw [a] at c; cases c
            · rw [b] at c; cases c
        subst eh
        by_cases hl : kept.length < deg
        · cases ha : kept.any (fun k => need k h) with
          | true => exact grd_skip ha _
          | false =>
            rw [grd_take hl ha, grd_take hl ha]
            exact grd_skip (by rw [List.any_append, show [h].any (fun k => need k h) = true by simp [hself h hp]]; simp) _
        · rw [grd_full (by omega), grd_full (by omega)]
    · have e1 : insU lt p (srtU lt S) = p :: srtU lt S := by
        refine rise_ext O _ _ (rise_insU O hp _ (fun y hy => hS' y ((hm y).1 hy)) hr) (List.pairwise_cons.2 ⟨fun q hq => ?_, hr⟩) fun q => ?_
        · have hq' := (hm q).1 hq
          have a := hW'.1 q hq'
          rcases O.tot p q hp (hS' q hq') (fun e => hin (e ▸ hq')) with c | c
          · exact c
          · rw [a] at c; cases c
        · rw [mem_insU O hp _ (fun y hy => hS' y ((hm y).1 hy))]; simp
      rw [e1]
      by_cases hl : kept.length < deg
      · cases ha : kept.any (fun k => need k p) with
        | true => rw [grd_skip ha, grd_skip ha]; exact ih _
        | false => rw [grd_take hl ha, grd_take hl ha]; exact ih _
      · rw [grd_full (by omega), grd_full (by omega)]
/-- What the loop of the program and that of the document keep. -/
structure KeptP (need : Nat → Nat → Bool) (deg : Nat) (R : List Nat) (kept left : List Nat) : Prop where
  goes : R = grd need deg kept left
  free : ∀ q ∈ left, ∀ k ∈ kept, need k q = false
  room : kept.length ≤ deg
theorem KeptP.step {need : Nat → Nat → Bool} {deg p : Nat} {R kept left : List Nat} (h : KeptP need deg R kept (p :: left)) (hl : kept.length < deg) (hs : need p p = true) : KeptP need deg R (kept ++ [p]) ((p :: left).filter (fun q => !need p q)) where
  goes := by
    rw [h.goes, grd_take hl (by
      cases ha : kept.any (fun k => need k p) with
      | false => rfl
      | true =>
        obtain ⟨k, hk, hn⟩ := List.any_eq_true.1 ha
        rw [h.free p (by simp) k hk] at hn; cases hn), List.filter_cons_of_neg (by simp [hs]), grd_filter _ _ (by simp)]
  free q hq k hk := by
    rw [List.mem_filter] at hq
    rcases List.mem_append.1 hk with hk | hk
    · exact h.free q hq.1 k hk
    · simp at hk; subst hk; simpa using hq.2
  room := by simp; omega
theorem KeptP.done {need : Nat → Nat → Bool} {deg : Nat} {R kept left : List Nat} (h : KeptP need deg R kept left) (hd : left = [] ∨ deg ≤ kept.length) : R = kept := by
  rw [h.goes]
  rcases hd with rfl | hd
  · rfl
  · exact grd_full hd _
/-- What is kept, told of it. -/
structure KeptS (lt need : Nat → Nat → Bool) (deg : Nat) (S R : List Nat) : Prop where
  sub : ∀ p ∈ R, p ∈ S
  rise : Rise lt R
  few : R.length ≤ deg
  free : R.Pairwise (fun k q => need k q = false)
  gone : ∀ q ∈ S, q ∈ R ∨ (∃ k ∈ R, lt k q = true ∧ need k q = true) ∨ (R.length = deg ∧ ∀ k ∈ R, lt k q = true)
theorem grd_told {lt need : Nat → Nat → Bool} {deg : Nat} : ∀ (S kept : List Nat), kept.length ≤ deg → Rise lt (kept ++ S) → kept.Pairwise (fun k q => need k q = false) → ∃ T, grd need deg kept S = kept ++ T ∧ KeptS lt need deg (kept ++ S) (kept ++ T)
  | [], kept, hl, hr, hf => ⟨[], by simp [grd], ⟨by simp, by simpa using hr, by simpa using hl, by simpa using hf, fun q hq => .inl hq⟩⟩
  | p :: S, kept, hl, hr, hf => by
    have hlt : ∀ k ∈ kept, lt k p = true := fun k hk => (List.pairwise_append.1 hr).2.2 k hk p (by simp)
    have hr2 : Rise lt (kept ++ S) := by
      refine List.Pairwise.sublist ?_ hr
      exact List.Sublist.append (List.Sublist.refl _) (List.sublist_cons_self _ _)
    by_cases hd : kept.length < deg
    · cases ha : kept.any (fun k => need k p) with
      | true =>
        obtain ⟨T, e, K⟩ := grd_told S kept hl hr2 hf
        refine ⟨T, by rw [grd_skip ha, e], ⟨fun x hx => ?_, K.rise, K.few, K.free, fun q hq => ?_⟩⟩
        · rcases List.mem_append.1 (K.sub x hx) with h | h <;> simp [h]
        · by_cases hqp : q = p
          · subst hqp
            obtain ⟨k, hk, hn⟩ := List.any_eq_true.1 ha
            exact .inr (.inl ⟨k, by simp [hk], hlt k hk, hn⟩)
          · refine K.gone q ?_
            rcases List.mem_append.1 hq with h | h
            · simp [h]
            · rcases List.mem_cons.1 h with h | h
              · exact absurd h hqp
              · simp [h]
      | false =>
        have hf2 : (kept ++ [p]).Pairwise (fun k q => need k q = false) := by
          refine List.pairwise_append.2 ⟨hf, by simp, fun a hka b hb => ?_⟩
          simp at hb; subst hb
          cases hn : need a b with
          | false => rfl
          | true => rw [List.any_eq_true.2 ⟨a, hka, hn⟩] at ha; cases ha
        obtain ⟨T, e, K⟩ := grd_told S (kept ++ [p]) (by rw [List.length_append]; exact hd) (by simpa using hr) hf2
        refine ⟨p :: T, by rw [grd_take hd ha, e]; simp, ?_⟩
        simpa using K
    · refine ⟨[], by rw [grd_full (Nat.le_of_not_lt hd)]; simp, ⟨fun x hx => by simp at hx; simp [hx], ?_, by simpa using hl, by simpa using hf, fun q hq => ?_⟩⟩
      · rw [List.append_nil]; exact (List.pairwise_append.1 hr).1
      · rcases List.mem_append.1 hq with h | h
        · exact .inl (by simpa using h)
        · refine .inr (.inr ⟨by rw [List.append_nil]; omega, fun k hk => ?_⟩)
          simp at hk
          exact (List.pairwise_append.1 hr).2.2 k hk q h
theorem grd_told0 {lt need : Nat → Nat → Bool} {deg : Nat} {S : List Nat} (hr : Rise lt S) : KeptS lt need deg S (grd need deg [] S) := by
  obtain ⟨T, e, K⟩ := grd_told (need := need) (deg := deg) S [] (by simp) (by simpa using hr) (by simp)
  rw [e]; simpa using K
/-- What is free of one another is kept whole. -/
theorem grd_self {need : Nat → Nat → Bool} {deg : Nat} : ∀ (S kept : List Nat), (kept ++ S).length ≤ deg → (kept ++ S).Pairwise (fun k q => need k q = false) → grd need deg kept S = kept ++ S
  | [], kept, _, _ => by simp [grd]
  | p :: S, kept, hl, hf => by
    have ha : kept.any (fun k => need k p) = false := by
      cases hn : kept.any (fun k => need k p) with
      | false => rfl
      | true =>
        obtain ⟨k, hk, hk2⟩ := List.any_eq_true.1 hn
        rw [(List.pairwise_append.1 hf).2.2 k hk p (by simp)] at hk2; cases hk2
    rw [grd_take (by simp at hl; omega) ha, grd_self S (kept ++ [p]) (by simpa using hl) (by simpa using hf)]
    simp
/-- The nearest is kept. -/
theorem grd_head {need : Nat → Nat → Bool} {deg p : Nat} {S : List Nat} (hd : 0 < deg) : ∃ T, grd need deg [] (p :: S) = p :: T := by
  rw [grd_take (by simpa using hd) (by simp)]
  have : ∀ (S kept : List Nat), ∃ T, grd need deg kept S = kept ++ T := by
    intro S
    induction S with
    | nil => exact fun kept => ⟨[], by simp [grd]⟩
    | cons q S ih =>
      intro kept
      by_cases hl : kept.length < deg
      · cases ha : kept.any (fun k => need k q) with
        | true => rw [grd_skip ha]; exact ih kept
        | false => rw [grd_take hl ha]; obtain ⟨T, e⟩ := ih (kept ++ [q]); exact ⟨q :: T, by rw [e]; simp⟩
      · exact ⟨[], by rw [grd_full (by omega)]; simp⟩
  obtain ⟨T, e⟩ := this S ([] ++ [p])
  exact ⟨T, by rw [e]; simp⟩
/-- A smaller number keeps the beginning. -/
theorem grd_less {need : Nat → Nat → Bool} {d e : Nat} (hde : d ≤ e) : ∀ (S kept : List Nat), kept.length ≤ d → grd need d kept S = (grd need e kept S).take d
  | [], kept, h => by simp [grd, List.take_of_length_le h]
  | p :: S, kept, h => by
    by_cases hl : kept.length < d
    · cases ha : kept.any (fun k => need k p) with
      | true => rw [grd_skip ha, grd_skip ha]; exact grd_less hde S kept h
      | false => rw [grd_take hl ha, grd_take (by omega) ha]; exact grd_less hde S _ (by simp; omega)
    · rw [grd_full (by omega)]
      have : ∀ (S kept : List Nat), ∃ T, grd need e kept S = kept ++ T := by
        intro S
        induction S with
        | nil => exact fun kept => ⟨[], by simp [grd]⟩
        | cons q S ih =>
          intro kept
          by_cases hl : kept.length < e
          · cases ha : kept.any (fun k => need k q) with
            | true => rw [grd_skip ha]; exact ih kept
            | false => rw [grd_take hl ha]; obtain ⟨T, e⟩ := ih (kept ++ [q]); exact ⟨q :: T, by rw [e]; simp⟩
          · exact ⟨[], by rw [grd_full (by omega)]; simp⟩
      obtain ⟨T, e1⟩ := this (p :: S) kept
      rw [e1, List.take_append_of_le_length (by omega), List.take_of_length_le h]
end Go.Proofs.YtfokejlancmahaaGreat
