/- Mathematics of a search through a graph: what comes, what is kept, what is looked at. -/
import Derived.Test.YtkdepoaajhggiaaHm
import Derived.Test.YtkdepoaajhggiaaLb
import Derived.Test.YtkdepoaajhggiaaVf
namespace Go.Proofs.Ytkdepoaajhggiaa
set_option linter.unusedVariables false
/-- A node's hit. -/
def hitP (G : List Pn) (v : List Int) (p : Nat) : Int × Int := ((nAt G p).1, far (nAt G p).2.1 v)
def hlP (G : List Pn) (v : List Int) (ps : List Nat) : HL := ps.map (hitP G v)
theorem hlP_len (G : List Pn) (v : List Int) (ps : List Nat) : (hlP G v ps).length = ps.length := by simp [hlP]
/-- A graph may be searched for a vector. -/
structure MaySearch (G : List Pn) (s : Int) (v : List Int) : Prop where
  ho : Holds G s
  dim : 1 ≤ v.length ∧ v.length ≤ 64
  same : ∀ x ∈ G, x.2.1.length = v.length
  nd : (G.map (·.1)).Nodup
def mayS (G : List Pn) (s : Int) (v : List Int) : Bool := holdsB G s && decide (1 ≤ v.length ∧ v.length ≤ 64) && decide (∀ x ∈ G, x.2.1.length = v.length) && decide ((G.map (·.1)).Nodup)
theorem mayS_yes {G : List Pn} {s : Int} {v : List Int} (h : mayS G s v = true) : MaySearch G s v := by
  unfold mayS at h
  simp only [Bool.and_eq_true, decide_eq_true_eq] at h
  exact ⟨holdsB_yes h.1.1.1, h.1.1.2, h.1.2, h.2⟩
theorem mayS_of {G : List Pn} {s : Int} {v : List Int} (h : MaySearch G s v) : mayS G s v = true := by
  unfold mayS
  rw [show holdsB G s = true from decide_eq_true h.ho, decide_eq_true h.dim, decide_eq_true h.same, decide_eq_true h.nd]; rfl
theorem ids_inj {G : List Pn} (h : (G.map (·.1)).Nodup) {p q : Nat} (hp : p < G.length) (hq : q < G.length) (e : (nAt G p).1 = (nAt G q).1) : p = q := by
  rw [List.nodup_iff_pairwise_ne, List.pairwise_iff_getElem] at h
  have key : ∀ i j (hi : i < G.length) (hj : j < G.length), i < j → (nAt G i).1 ≠ (nAt G j).1 := fun i j hi hj hij => by
    have := h i j (by simpa using hi) (by simpa using hj) hij
    simpa [nAt, List.getElem?_eq_getElem hi, List.getElem?_eq_getElem hj] using this
  rcases Nat.lt_trichotomy p q with h1 | h1 | h1
  · exact absurd e (key p q hp hq h1)
  · exact h1
  · exact absurd e.symm (key q p hq hp h1)
def insP (G : List Pn) (v : List Int) : List Nat → Nat → List Nat
  | [], p => [p]
  | q :: s, p => if ltH (hitP G v p) (hitP G v q) = true then p :: q :: s else q :: insP G v s p
theorem insP_hl (G : List Pn) (v : List Int) (p : Nat) : ∀ ps, hlP G v (insP G v ps p) = insL (hlP G v ps) (hitP G v p)
  | [] => rfl
  | q :: s => by
    show (insP G v (q :: s) p).map (hitP G v) = insL (hitP G v q :: hlP G v s) (hitP G v p)
    unfold insP insL
    split
    · rfl
    · rw [List.map_cons]; congr 1; exact insP_hl G v p s
theorem insP_perm (G : List Pn) (v : List Int) (p : Nat) : ∀ ps, (insP G v ps p).Perm (p :: ps)
  | [] => List.Perm.refl _
  | q :: s => by
    unfold insP
    split
    · exact List.Perm.refl _
    · exact ((insP_perm G v p s).cons q).trans (List.Perm.swap _ _ _)
def tookP (G : List Pn) (v : List Int) (m : Nat) (ps : List Nat) (p : Nat) : Bool := tookH m (hlP G v ps) (hitP G v p)
def pushP (G : List Pn) (v : List Int) (m : Nat) (ps : List Nat) (p : Nat) : List Nat := if tookP G v m ps p = true then (insP G v ps p).take m else ps
theorem pushP_hl {G : List Pn} {v : List Int} {m : Nat} {ps : List Nat} {p : Nat} (hx : (hitP G v p).1 ∉ ids (hlP G v ps)) (hu : Up (hlP G v ps)) (hl : ps.length ≤ m) (hm : 0 < m) : hlP G v (pushP G v m ps p) = pushH m (hlP G v ps) (hitP G v p) := by
  unfold pushP tookP
  split
  · rw [pushH_ins hx hu (by rw [hlP_len]; exact hl) hm, ← insP_hl]
    unfold hlP
    rw [List.map_take]
  · rename_i h
    unfold pushH
    rw [if_neg h]
theorem pushP_srt {G : List Pn} {v : List Int} {m : Nat} {ps : List Nat} {p : Nat} (hx : (hitP G v p).1 ∉ ids (hlP G v ps)) (hu : Up (hlP G v ps)) (hl : ps.length ≤ m) (hm : 0 < m) : hlP G v (pushP G v m ps p) = (srt (hlP G v ps ++ [hitP G v p])).take m := by
  rw [pushP_hl hx hu hl hm, pushH_ins hx hu (by rw [hlP_len]; exact hl) hm, srt_insL, srt_self hu]
theorem pushP_mem {G : List Pn} {v : List Int} {m : Nat} {ps : List Nat} {p q : Nat} (h : q ∈ pushP G v m ps p) : q = p ∨ q ∈ ps := by
  unfold pushP at h
  split at h
  · simpa using (insP_perm G v p ps).subset (List.mem_of_mem_take h)
  · exact .inr h
/-- A search under way: the places kept, the nearest first; those that came, in order; those that were looked at, in order. -/
structure Sr where
  ps : List Nat
  cm : List Nat
  od : List Nat
def comeP (G : List Pn) (v : List Int) (m : Nat) (t : Sr) (p : Nat) : Sr := if p ∈ t.cm then t else ⟨pushP G v m t.ps p, t.cm ++ [p], t.od⟩
/-- Does the list keep it? -/
def chgP (G : List Pn) (v : List Int) (m : Nat) (t : Sr) (p : Nat) : Bool := !decide (p ∈ t.cm) && tookP G v m t.ps p
structure OkS (G : List Pn) (v : List Int) (m : Nat) (t : Sr) : Prop where
  sub : ∀ p ∈ t.ps, p ∈ t.cm
  lt : ∀ p ∈ t.cm, p < G.length
  cmn : t.cm.Nodup
  up : Up (hlP G v t.ps)
  le : t.ps.length ≤ m
  nd : t.ps.Nodup
  odn : t.od.Nodup
  ods : ∀ p ∈ t.od, p ∈ t.cm
theorem OkS.nil (G : List Pn) (v : List Int) (m : Nat) : OkS G v m ⟨[], [], []⟩ :=
  ⟨by simp, by simp, List.nodup_nil, List.Pairwise.nil, Nat.zero_le _, List.nodup_nil, List.nodup_nil, by simp⟩
theorem OkS.new {G : List Pn} {s : Int} {v : List Int} {m : Nat} {t : Sr} (h : OkS G v m t) (hN : (G.map (·.1)).Nodup) {p : Nat} (hp : p < G.length) (hc : p ∉ t.cm) : (hitP G v p).1 ∉ ids (hlP G v t.ps) := fun hm => by
  obtain ⟨x, hx, e⟩ := List.mem_map.1 hm
  obtain ⟨q, hq, rfl⟩ := List.mem_map.1 hx
  exact hc (ids_inj hN (h.lt q (h.sub q hq)) hp e ▸ h.sub q hq)
theorem OkS.come {G : List Pn} {s : Int} {v : List Int} {m : Nat} {t : Sr} (h : OkS G v m t) (hN : (G.map (·.1)).Nodup) (hm : 0 < m) {p : Nat} (hp : p < G.length) : OkS G v m (comeP G v m t p) := by
  unfold comeP
  split
  · exact h
  · rename_i hc
    have hnew := h.new (s := s) hN hp hc
    have hpp : p ∉ t.ps := fun hq => hc (h.sub p hq)
    refine ⟨fun q hq => ?_, fun q hq => ?_, ?_, ?_, ?_, ?_, h.odn, fun q hq => List.mem_append_left _ (h.ods q hq)⟩
    · rcases pushP_mem hq with rfl | hq
      · simp
      · exact List.mem_append_left _ (h.sub q hq)
    · rcases List.mem_append.1 hq with hq | hq
      · exact h.lt q hq
      · rw [List.mem_singleton] at hq; omega
    · rw [List.nodup_append]
      exact ⟨h.cmn, by simp, fun a ha b hb => by rw [List.mem_singleton] at hb; subst hb; exact fun e => hc (e ▸ ha)⟩
    · show Up (hlP G v (pushP G v m t.ps p))
      rw [pushP_srt hnew h.up h.le hm]
      exact (up_srt _).sublist (List.take_sublist _ _)
    · show (pushP G v m t.ps p).length ≤ m
      unfold pushP
      split
      · rw [List.length_take]; omega
      · exact h.le
    · show (pushP G v m t.ps p).Nodup
      unfold pushP
      split
      · exact ((insP_perm G v p t.ps).nodup_iff.2 (List.nodup_cons.2 ⟨hpp, h.nd⟩)).sublist (List.take_sublist _ _)
      · exact h.nd
theorem OkS.comes {G : List Pn} {s : Int} {v : List Int} {m : Nat} (hN : (G.map (·.1)).Nodup) (hm : 0 < m) : ∀ (l : List Nat) {t : Sr}, OkS G v m t → (∀ p ∈ l, p < G.length) → OkS G v m (l.foldl (comeP G v m) t)
  | [], t, h, _ => h
  | p :: l, t, h, hl => OkS.comes (s := s) hN hm l (h.come (s := s) hN hm (hl p (by simp))) (fun q hq => hl q (List.mem_cons_of_mem _ hq))
theorem comeP_od (G : List Pn) (v : List Int) (m : Nat) (t : Sr) (p : Nat) : (comeP G v m t p).od = t.od := by unfold comeP; split <;> rfl
theorem comes_od (G : List Pn) (v : List Int) (m : Nat) : ∀ (l : List Nat) (t : Sr), (l.foldl (comeP G v m) t).od = t.od
  | [], t => rfl
  | p :: l, t => (comes_od G v m l _).trans (comeP_od G v m t p)
theorem comeP_cm {G : List Pn} {v : List Int} {m : Nat} {t : Sr} {p q : Nat} : q ∈ (comeP G v m t p).cm ↔ q ∈ t.cm ∨ q = p := by
  unfold comeP
  split
  · rename_i h
    constructor
    · exact .inl
    · rintro (h1 | rfl)
      · exact h1
      · exact h
  · simp
theorem comes_cm {G : List Pn} {v : List Int} {m : Nat} {q : Nat} : ∀ (l : List Nat) {t : Sr}, q ∈ (l.foldl (comeP G v m) t).cm ↔ q ∈ t.cm ∨ q ∈ l
  | [], t => by simp
  | p :: l, t => by
    rw [List.foldl_cons, comes_cm l, comeP_cm]
    simp only [List.mem_cons]
    constructor
    · rintro ((h | h) | h)
      · exact .inl h
      · exact .inr (.inl h)
      · exact .inr (.inr h)
    · rintro (h | h | h)
      · exact .inl (.inl h)
      · exact .inl (.inr h)
      · exact .inr h
/-- Was one of them kept? -/
def chgL (G : List Pn) (v : List Int) (m : Nat) : Sr → List Nat → Bool
  | _, [] => false
  | t, p :: l => chgP G v m t p || chgL G v m (comeP G v m t p) l
theorem chgL_snoc (G : List Pn) (v : List Int) (m : Nat) (p : Nat) : ∀ (l : List Nat) (t : Sr), chgL G v m t (l ++ [p]) = (chgL G v m t l || chgP G v m (l.foldl (comeP G v m) t) p)
  | [], t => by simp [chgL]
  | q :: l, t => by
    rw [List.cons_append]
    show (chgP G v m t q || chgL G v m (comeP G v m t q) (l ++ [p])) = ((chgP G v m t q || chgL G v m (comeP G v m t q) l) || _)
    rw [chgL_snoc G v m p l]
    rw [Bool.or_assoc]; rfl
theorem comeP_same {G : List Pn} {v : List Int} {m : Nat} {t : Sr} {p : Nat} (h : chgP G v m t p = false) : (comeP G v m t p).ps = t.ps := by
  unfold comeP
  split
  · rfl
  · rename_i hc
    unfold chgP at h
    rw [decide_eq_false hc] at h
    show pushP G v m t.ps p = t.ps
    unfold pushP
    rw [if_neg (by simpa using h)]
theorem chgL_same {G : List Pn} {v : List Int} {m : Nat} : ∀ (l : List Nat) {t : Sr}, chgL G v m t l = false → (l.foldl (comeP G v m) t).ps = t.ps
  | [], t, _ => rfl
  | p :: l, t, h => by
    unfold chgL at h
    rw [Bool.or_eq_false_iff] at h
    exact (chgL_same l h.2).trans (comeP_same h.1)
def outN (G : List Pn) (p : Nat) : List Nat := (outAt G p).map Int.toNat
theorem outN_lt {G : List Pn} {s : Int} (h : Holds G s) {p : Nat} (hp : p < G.length) : ∀ q ∈ outN G p, q < G.length := fun q hq => by
  obtain ⟨t, ht, rfl⟩ := List.mem_map.1 hq
  have := h.out hp ht
  omega
def lookP (G : List Pn) (v : List Int) (m : Nat) (t : Sr) (p : Nat) : Sr := (outN G p).foldl (comeP G v m) ⟨t.ps, t.cm, t.od ++ [p]⟩
theorem lookP_od (G : List Pn) (v : List Int) (m : Nat) (t : Sr) (p : Nat) : (lookP G v m t p).od = t.od ++ [p] := comes_od G v m _ _
theorem OkS.look1 {G : List Pn} {v : List Int} {m : Nat} {t : Sr} (h : OkS G v m t) {p : Nat} (hp : p ∈ t.cm) (ho : p ∉ t.od) : OkS G v m ⟨t.ps, t.cm, t.od ++ [p]⟩ :=
  ⟨h.sub, h.lt, h.cmn, h.up, h.le, h.nd, by
    rw [List.nodup_append]
    exact ⟨h.odn, by simp, fun a ha b hb => by rw [List.mem_singleton] at hb; subst hb; exact fun e => ho (e ▸ ha)⟩, fun q hq => by
    rcases List.mem_append.1 hq with hq | hq
    · exact h.ods q hq
    · rw [List.mem_singleton] at hq; subst hq; exact hp⟩
theorem OkS.look {G : List Pn} {s : Int} {v : List Int} {m : Nat} {t : Sr} (h : OkS G v m t) (hG : Holds G s) (hN : (G.map (·.1)).Nodup) (hm : 0 < m) {p : Nat} (hp : p ∈ t.cm) (ho : p ∉ t.od) : OkS G v m (lookP G v m t p) :=
  OkS.comes (s := s) hN hm _ (h.look1 hp ho) (outN_lt hG (h.lt p hp))
/-- What is looked at next. -/
def nextP (t : Sr) : Option Nat := t.ps.find? fun p => !decide (p ∈ t.od)
theorem nextP_some {t : Sr} {p : Nat} (h : nextP t = some p) : p ∈ t.ps ∧ p ∉ t.od := by
  have h1 := List.mem_of_find?_eq_some h
  have h2 := List.find?_some h
  exact ⟨h1, by simpa using h2⟩
theorem nextP_none {t : Sr} (h : nextP t = none) : ∀ p ∈ t.ps, p ∈ t.od := fun p hp => by
  have := List.find?_eq_none.1 h p hp
  simpa using this
theorem nextP_at {t : Sr} {i : Nat} {p : Nat} (h : t.ps[i]? = some p) (ho : p ∉ t.od) (hb : ∀ j q, j < i → t.ps[j]? = some q → q ∈ t.od) : nextP t = some p := by
  unfold nextP
  rw [List.find?_eq_some_iff_getElem]
  obtain ⟨hi, e⟩ := List.getElem?_eq_some_iff.1 h
  refine ⟨by simpa using ho, i, hi, e, fun j hj => ?_⟩
  have := hb j (t.ps[j]'(by omega)) hj (List.getElem?_eq_getElem _)
  simpa using this
theorem nextP_all {t : Sr} (h : ∀ p ∈ t.ps, p ∈ t.od) : nextP t = none := by
  unfold nextP
  rw [List.find?_eq_none]
  intro p hp
  simpa using h p hp
def runP (G : List Pn) (v : List Int) (m : Nat) : Nat → Sr → Sr
  | 0, t => t
  | k + 1, t => match nextP t with
    | none => t
    | some p => runP G v m k (lookP G v m t p)
theorem runP_none {G : List Pn} {v : List Int} {m : Nat} {t : Sr} (h : nextP t = none) : ∀ k, runP G v m k t = t
  | 0 => rfl
  | k + 1 => by unfold runP; rw [h]
theorem nodup_lt_len {n : Nat} {l : List Nat} (h : l.Nodup) (hl : ∀ x ∈ l, x < n) : l.length ≤ n := by
  have := List.Nodup.length_le_of_subset h (l₂ := List.range n) (fun x hx => List.mem_range.2 (hl x hx))
  simpa using this
theorem OkS.room {G : List Pn} {v : List Int} {m : Nat} {t : Sr} (h : OkS G v m t) {p : Nat} (hp : p ∈ t.cm) (ho : p ∉ t.od) : t.od.length < G.length := by
  have h1 := h.look1 hp ho
  have := nodup_lt_len h1.odn (fun x hx => h1.lt x (h1.ods x hx))
  simp at this
  omega
theorem runP_step {G : List Pn} {v : List Int} {m : Nat} {t : Sr} (h : OkS G v m t) {p : Nat} (hp : nextP t = some p) : runP G v m (G.length - t.od.length) t = runP G v m (G.length - (lookP G v m t p).od.length) (lookP G v m t p) := by
  obtain ⟨h1, h2⟩ := nextP_some hp
  have := h.room (h.sub p h1) h2
  rw [lookP_od]
  obtain ⟨k, hk⟩ : ∃ k, G.length - t.od.length = k + 1 := ⟨G.length - t.od.length - 1, by omega⟩
  rw [hk]
  have e : G.length - (t.od ++ [p]).length = k := by simp; omega
  rw [e]
  conv => lhs; unfold runP
  rw [hp]
/-- A search at its end. -/
def finP (G : List Pn) (v : List Int) (m s : Nat) : Sr := if G.length = 0 then ⟨[], [], []⟩ else runP G v m G.length (comeP G v m ⟨[], [], []⟩ s)
theorem comeP_first (G : List Pn) (v : List Int) (m s : Nat) (hm : 0 < m) : comeP G v m ⟨[], [], []⟩ s = ⟨[s], [s], []⟩ := by
  have h1 : tookP G v m [] s = true := by
    unfold tookP tookH
    have : ¬ 0 = m := by omega
    simp [hlP, ids, this]
  have h2 : (insP G v [] s).take m = [s] := by
    show [s].take m = [s]
    rw [List.take_of_length_le (by simp only [List.length_singleton]; omega)]
  unfold comeP pushP
  rw [if_neg (by simp), if_pos h1, h2]; rfl
/-- The answers. -/
def beamB (G : List Pn) (s : Int) (v : List Int) (k m : Int) : Bool := mayS G s v && decide (1 ≤ m ∧ m ≤ 256 ∧ 1 ≤ k ∧ k ≤ m)
def beamF (G : List Pn) (s : Int) (v : List Int) (m : Int) : Sr := finP G v m.toNat s.toNat
def beamH (G : List Pn) (s : Int) (v : List Int) (k m : Int) : HL := if beamB G s v k m then (hlP G v (beamF G s v m).ps).take k.toNat else []
def beamO (G : List Pn) (s : Int) (v : List Int) (k m : Int) : List Int := if beamB G s v k m then (beamF G s v m).od.map (fun (x : Nat) => (x : Int)) else []
def exactB (G : List Pn) (s : Int) (v : List Int) (k : Int) : Bool := mayS G s v && decide (1 ≤ k ∧ k ≤ 256)
def exactH (G : List Pn) (s : Int) (v : List Int) (k : Int) : HL := if exactB G s v k then (srt (hlP G v (List.range G.length))).take k.toNat else []
/-- All come, one by one. -/
theorem all_come {G : List Pn} {v : List Int} {m : Nat} (hN : (G.map (·.1)).Nodup) (hm : 0 < m) : ∀ k, k ≤ G.length → ((List.range k).foldl (comeP G v m) ⟨[], [], []⟩).cm = List.range k ∧ hlP G v ((List.range k).foldl (comeP G v m) ⟨[], [], []⟩).ps = (srt (hlP G v (List.range k))).take m
  | 0, _ => ⟨rfl, by
    have : srt [] = [] := List.eq_nil_of_length_eq_zero (by rw [srt_len]; rfl)
    simp [hlP, this]⟩
  | k + 1, hk => by
    obtain ⟨h1, h2⟩ := all_come hN hm k (by omega)
    have ok := OkS.comes (G := G) (s := 0) (v := v) hN hm (List.range k) (OkS.nil G v m) (fun p hp => by have := List.mem_range.1 hp; omega)
    rw [List.range_succ, List.foldl_append]
    obtain ⟨t, et⟩ : ∃ t, (List.range k).foldl (comeP G v m) ⟨[], [], []⟩ = t := ⟨_, rfl⟩
    rw [et] at h1 h2 ok ⊢
    have hc : k ∉ t.cm := by rw [h1]; simp
    have hnew := ok.new (s := 0) hN (show k < G.length by omega) hc
    have e : List.foldl (comeP G v m) t [k] = ⟨pushP G v m t.ps k, t.cm ++ [k], t.od⟩ := by
      show comeP G v m t k = _
      unfold comeP
      rw [if_neg hc]
    rw [e]
    refine ⟨by show t.cm ++ [k] = _; rw [h1], ?_⟩
    show hlP G v (pushP G v m t.ps k) = _
    rw [pushP_srt hnew ok.up ok.le hm, srt_insL, srt_self ok.up, h2, ← insL_take]
    have e2 : hlP G v (List.range k ++ [k]) = hlP G v (List.range k) ++ [hitP G v k] := by simp [hlP]
    rw [e2, srt_insL]
end Go.Proofs.Ytkdepoaajhggiaa
