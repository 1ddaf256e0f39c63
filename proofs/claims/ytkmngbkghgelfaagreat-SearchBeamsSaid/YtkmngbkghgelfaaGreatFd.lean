/- Several texts in one. -/
import Derived.Test.YtkmngbkghgelfaaGreatHm
import Derived.Test.YtkmngbkghgelfaaGreatLb
import Derived.Test.YtkmngbkghgelfaaGreatVf
import Derived.Maps.Own
import Derived.Maps.OwnOps
import Derived.Maps.Views
/- Mathematics of a search through a graph: what comes, what is kept, what is looked at. -/
namespace Go.Proofs.YtkmngbkghgelfaaGreat
set_option linter.unusedVariables false
/-- A node's hit. -/
def hitP (G : List Pn) (v : List Int) (p : Nat) : Int × Int := ((nAt G p).1, far (nAt G p).2.1 v)
def hlP (G : List Pn) (v : List Int) (ps : List Nat) : HL := ps.map (hitP G v)
theorem hlP_len (G : List Pn) (v : List Int) (ps : List Nat) : (hlP G v ps).length = ps.length := by simp [hlP]
/-- A graph may be searched for a vector. -/
structure MaySearch (G : List Pn) (s : Int) (v : List Int) : Prop where
  ho : Holds G s
  dim : 1 ≤ v.length ∧ v.length ≤ 64
  same : ∀ x ∈ G, x.2.1.length = v.length
  nd : (G.map (·.1)).Nodup
def mayS (G : List Pn) (s : Int) (v : List Int) : Bool := holdsB G s && decide (1 ≤ v.length ∧ v.length ≤ 64) && decide (∀ x ∈ G, x.2.1.length = v.length) && decide ((G.map (·.1)).Nodup)
theorem mayS_yes {G : List Pn} {s : Int} {v : List Int} (h : mayS G s v = true) : MaySearch G s v := by
  unfold mayS at h
  simp only [Bool.and_eq_true, decide_eq_true_eq] at h
  exact ⟨holdsB_yes h.1.1.1, h.1.1.2, h.1.2, h.2⟩
theorem mayS_of {G : List Pn} {s : Int} {v : List Int} (h : MaySearch G s v) : mayS G s v = true := by
  unfold mayS
  rw [show holdsB G s = true from decide_eq_true h.ho, decide_eq_true h.dim, decide_eq_true h.same, decide_eq_true h.nd]; rfl
theorem ids_inj {G : List Pn} (h : (G.map (·.1)).Nodup) {p q : Nat} (hp : p < G.length) (hq : q < G.length) (e : (nAt G p).1 = (nAt G q).1) : p = q := by
  rw [List.nodup_iff_pairwise_ne, List.pairwise_iff_getElem] at h
  have key : ∀ i j (hi : i < G.length) (hj : j < G.length), i < j → (nAt G i).1 ≠ (nAt G j).1 := fun i j hi hj hij => by
    have := h i j (by simpa using hi) (by simpa using hj) hij
    simpa [nAt, List.getElem?_eq_getElem hi, List.getElem?_eq_getElem hj] using this
  rcases Nat.lt_trichotomy p q with h1 | h1 | h1
  · exact absurd e (key p q hp hq h1)
  · exact h1
  · exact absurd e.symm (key q p hq hp h1)
def insP (G : List Pn) (v : List Int) : List Nat → Nat → List Nat
  | [], p => [p]
  | q :: s, p => if ltH (hitP G v p) (hitP G v q) = true then p :: q :: s else q :: insP G v s p
theorem insP_hl (G : List Pn) (v : List Int) (p : Nat) : ∀ ps, hlP G v (insP G v ps p) = insL (hlP G v ps) (hitP G v p)
  | [] => rfl
  | q :: s => by
    show (insP G v (q :: s) p).map (hitP G v) = insL (hitP G v q :: hlP G v s) (hitP G v p)
    unfold insP insL
    split
    · rfl
    · rw [List.map_cons]; congr 1; exact insP_hl G v p s
theorem insP_perm (G : List Pn) (v : List Int) (p : Nat) : ∀ ps, (insP G v ps p).Perm (p :: ps)
  | [] => List.Perm.refl _
  | q :: s => by
    unfold insP
    split
    · exact List.Perm.refl _
    · exact ((insP_perm G v p s).cons q).trans (List.Perm.swap _ _ _)
def tookP (G : List Pn) (v : List Int) (m : Nat) (ps : List Nat) (p : Nat) : Bool := tookH m (hlP G v ps) (hitP G v p)
def pushP (G : List Pn) (v : List Int) (m : Nat) (ps : List Nat) (p : Nat) : List Nat := if tookP G v m ps p = true then (insP G v ps p).take m else ps
theorem pushP_hl {G : List Pn} {v : List Int} {m : Nat} {ps : List Nat} {p : Nat} (hx : (hitP G v p).1 ∉ ids (hlP G v ps)) (hu : Up (hlP G v ps)) (hl : ps.length ≤ m) (hm : 0 < m) : hlP G v (pushP G v m ps p) = pushH m (hlP G v ps) (hitP G v p) := by
  unfold pushP tookP
  split
  · rw [pushH_ins hx hu (by rw [hlP_len]; exact hl) hm, ← insP_hl]
    unfold hlP
    rw [List.map_take]
  · rename_i h
    unfold pushH
    rw [if_neg h]
theorem pushP_srt {G : List Pn} {v : List Int} {m : Nat} {ps : List Nat} {p : Nat} (hx : (hitP G v p).1 ∉ ids (hlP G v ps)) (hu : Up (hlP G v ps)) (hl : ps.length ≤ m) (hm : 0 < m) : hlP G v (pushP G v m ps p) = (srt (hlP G v ps ++ [hitP G v p])).take m := by
  rw [pushP_hl hx hu hl hm, pushH_ins hx hu (by rw [hlP_len]; exact hl) hm, srt_insL, srt_self hu]
theorem pushP_mem {G : List Pn} {v : List Int} {m : Nat} {ps : List Nat} {p q : Nat} (h : q ∈ pushP G v m ps p) : q = p ∨ q ∈ ps := by
  unfold pushP at h
  split at h
  · simpa using (insP_perm G v p ps).subset (List.mem_of_mem_take h)
  · exact .inr h
/-- A search under way: the places kept, the nearest first; those that came, in order; those that were looked at, in order. -/
structure Sr where
  ps : List Nat
  cm : List Nat
  od : List Nat
def comeP (G : List Pn) (v : List Int) (m : Nat) (t : Sr) (p : Nat) : Sr := if p ∈ t.cm then t else ⟨pushP G v m t.ps p, t.cm ++ [p], t.od⟩
/-- Does the list keep it? -/
def chgP (G : List Pn) (v : List Int) (m : Nat) (t : Sr) (p : Nat) : Bool := !decide (p ∈ t.cm) && tookP G v m t.ps p
structure OkS (G : List Pn) (v : List Int) (m : Nat) (t : Sr) : Prop where
  sub : ∀ p ∈ t.ps, p ∈ t.cm
  lt : ∀ p ∈ t.cm, p < G.length
  cmn : t.cm.Nodup
  up : Up (hlP G v t.ps)
  le : t.ps.length ≤ m
  nd : t.ps.Nodup
  odn : t.od.Nodup
  ods : ∀ p ∈ t.od, p ∈ t.cm
theorem OkS.nil (G : List Pn) (v : List Int) (m : Nat) : OkS G v m ⟨[], [], []⟩ :=
  ⟨by simp, by simp, List.nodup_nil, List.Pairwise.nil, Nat.zero_le _, List.nodup_nil, List.nodup_nil, by simp⟩
theorem OkS.new {G : List Pn} {s : Int} {v : List Int} {m : Nat} {t : Sr} (h : OkS G v m t) (hN : (G.map (·.1)).Nodup) {p : Nat} (hp : p < G.length) (hc : p ∉ t.cm) : (hitP G v p).1 ∉ ids (hlP G v t.ps) := fun hm => by
  obtain ⟨x, hx, e⟩ := List.mem_map.1 hm
  obtain ⟨q, hq, rfl⟩ := List.mem_map.1 hx
  exact hc (ids_inj hN (h.lt q (h.sub q hq)) hp e ▸ h.sub q hq)
theorem OkS.come {G : List Pn} {s : Int} {v : List Int} {m : Nat} {t : Sr} (h : OkS G v m t) (hN : (G.map (·.1)).Nodup) (hm : 0 < m) {p : Nat} (hp : p < G.length) : OkS G v m (comeP G v m t p) := by
  unfold comeP
  split
  · exact h
  · rename_i hc
    have hnew := h.new (s := s) hN hp hc
    have hpp : p ∉ t.ps := fun hq => hc (h.sub p hq)
    refine ⟨fun q hq => ?_, fun q hq => ?_, ?_, ?_, ?_, ?_, h.odn, fun q hq => List.mem_append_left _ (h.ods q hq)⟩
    · rcases pushP_mem hq with rfl | hq
      · simp
      · exact List.mem_append_left _ (h.sub q hq)
    · rcases List.mem_append.1 hq with hq | hq
      · exact h.lt q hq
      · rw [List.mem_singleton] at hq; omega
    · rw [List.nodup_append]
      exact ⟨h.cmn, by simp, fun a ha b hb => by rw [List.mem_singleton] at hb; subst hb; exact fun e => hc (e ▸ ha)⟩
    · show Up (hlP G v (pushP G v m t.ps p))
      rw [pushP_srt hnew h.up h.le hm]
      exact (up_srt _).sublist (List.take_sublist _ _)
    · show (pushP G v m t.ps p).length ≤ m
      unfold pushP
      split
      · rw [List.length_take]; omega
      · exact h.le
    · show (pushP G v m t.ps p).Nodup
      unfold pushP
      split
      · exact ((insP_perm G v p t.ps).nodup_iff.2 (List.nodup_cons.2 ⟨hpp, h.nd⟩)).sublist (List.take_sublist _ _)
      · exact h.nd
theorem OkS.comes {G : List Pn} {s : Int} {v : List Int} {m : Nat} (hN : (G.map (·.1)).Nodup) (hm : 0 < m) : ∀ (l : List Nat) {t : Sr}, OkS G v m t → (∀ p ∈ l, p < G.length) → OkS G v m (l.foldl (comeP G v m) t)
  | [], t, h, _ => h
  | p :: l, t, h, hl => OkS.comes (s := s) hN hm l (h.come (s := s) hN hm (hl p (by simp))) (fun q hq => hl q (List.mem_cons_of_mem _ hq))
theorem comeP_od (G : List Pn) (v : List Int) (m : Nat) (t : Sr) (p : Nat) : (comeP G v m t p).od = t.od := by unfold comeP; split <;> rfl
theorem comes_od (G : List Pn) (v : List Int) (m : Nat) : ∀ (l : List Nat) (t : Sr), (l.foldl (comeP G v m) t).od = t.od
  | [], t => rfl
  | p :: l, t => (comes_od G v m l _).trans (comeP_od G v m t p)
theorem comeP_cm {G : List Pn} {v : List Int} {m : Nat} {t : Sr} {p q : Nat} : q ∈ (comeP G v m t p).cm ↔ q ∈ t.cm ∨ q = p := by
  unfold comeP
  split
  · rename_i h
    constructor
    · exact .inl
    · rintro (h1 | rfl)
      · exact h1
      · exact h
  · simp
theorem comes_cm {G : List Pn} {v : List Int} {m : Nat} {q : Nat} : ∀ (l : List Nat) {t : Sr}, q ∈ (l.foldl (comeP G v m) t).cm ↔ q ∈ t.cm ∨ q ∈ l
  | [], t => by simp
  | p :: l, t => by
    rw [List.foldl_cons, comes_cm l, comeP_cm]
    simp only [List.mem_cons]
    constructor
    · rintro ((h | h) | h)
      · exact .inl h
      · exact .inr (.inl h)
      · exact .inr (.inr h)
    · rintro (h | h | h)
      · exact .inl (.inl h)
      · exact .inl (.inr h)
      · exact .inr h
/-- Was one of them kept? -/
def chgL (G : List Pn) (v : List Int) (m : Nat) : Sr → List Nat → Bool
  | _, [] => false
  | t, p :: l => chgP G v m t p || chgL G v m (comeP G v m t p) l
theorem chgL_snoc (G : List Pn) (v : List Int) (m : Nat) (p : Nat) : ∀ (l : List Nat) (t : Sr), chgL G v m t (l ++ [p]) = (chgL G v m t l || chgP G v m (l.foldl (comeP G v m) t) p)
  | [], t => by simp [chgL]
  | q :: l, t => by
    rw [List.cons_append]
    show (chgP G v m t q || chgL G v m (comeP G v m t q) (l ++ [p])) = ((chgP G v m t q || chgL G v m (comeP G v m t q) l) || _)
    rw [chgL_snoc G v m p l]
    rw [Bool.or_assoc]; rfl
theorem comeP_same {G : List Pn} {v : List Int} {m : Nat} {t : Sr} {p : Nat} (h : chgP G v m t p = false) : (comeP G v m t p).ps = t.ps := by
  unfold comeP
  split
  · rfl
  · rename_i hc
    unfold chgP at h
    rw [decide_eq_false hc] at h
    show pushP G v m t.ps p = t.ps
    unfold pushP
    rw [if_neg (by simpa using h)]
theorem chgL_same {G : List Pn} {v : List Int} {m : Nat} : ∀ (l : List Nat) {t : Sr}, chgL G v m t l = false → (l.foldl (comeP G v m) t).ps = t.ps
  | [], t, _ => rfl
  | p :: l, t, h => by
    unfold chgL at h
    rw [Bool.or_eq_false_iff] at h
    exact (chgL_same l h.2).trans (comeP_same h.1)
def outN (G : List Pn) (p : Nat) : List Nat := (outAt G p).map Int.toNat
theorem outN_lt {G : List Pn} {s : Int} (h : Holds G s) {p : Nat} (hp : p < G.length) : ∀ q ∈ outN G p, q < G.length := fun q hq => by
  obtain ⟨t, ht, rfl⟩ := List.mem_map.1 hq
  have := h.out hp ht
  omega
def lookP (G : List Pn) (v : List Int) (m : Nat) (t : Sr) (p : Nat) : Sr := (outN G p).foldl (comeP G v m) ⟨t.ps, t.cm, t.od ++ [p]⟩
theorem lookP_od (G : List Pn) (v : List Int) (m : Nat) (t : Sr) (p : Nat) : (lookP G v m t p).od = t.od ++ [p] := comes_od G v m _ _
theorem OkS.look1 {G : List Pn} {v : List Int} {m : Nat} {t : Sr} (h : OkS G v m t) {p : Nat} (hp : p ∈ t.cm) (ho : p ∉ t.od) : OkS G v m ⟨t.ps, t.cm, t.od ++ [p]⟩ :=
  ⟨h.sub, h.lt, h.cmn, h.up, h.le, h.nd, by
    rw [List.nodup_append]
    exact ⟨h.odn, by simp, fun a ha b hb => by rw [List.mem_singleton] at hb; subst hb; exact fun e => ho (e ▸ ha)⟩, fun q hq => by
    rcases List.mem_append.1 hq with hq | hq
    · exact h.ods q hq
    · rw [List.mem_singleton] at hq; subst hq; exact hp⟩
theorem OkS.look {G : List Pn} {s : Int} {v : List Int} {m : Nat} {t : Sr} (h : OkS G v m t) (hG : Holds G s) (hN : (G.map (·.1)).Nodup) (hm : 0 < m) {p : Nat} (hp : p ∈ t.cm) (ho : p ∉ t.od) : OkS G v m (lookP G v m t p) :=
  OkS.comes (s := s) hN hm _ (h.look1 hp ho) (outN_lt hG (h.lt p hp))
/-- What is looked at next. -/
def nextP (t : Sr) : Option Nat := t.ps.find? fun p => !decide (p ∈ t.od)
theorem nextP_some {t : Sr} {p : Nat} (h : nextP t = some p) : p ∈ t.ps ∧ p ∉ t.od := by
  have h1 := List.mem_of_find?_eq_some h
  have h2 := List.find?_some h
  exact ⟨h1, by simpa using h2⟩
theorem nextP_none {t : Sr} (h : nextP t = none) : ∀ p ∈ t.ps, p ∈ t.od := fun p hp => by
  have := List.find?_eq_none.1 h p hp
  simpa using this
theorem nextP_at {t : Sr} {i : Nat} {p : Nat} (h : t.ps[i]? = some p) (ho : p ∉ t.od) (hb : ∀ j q, j < i → t.ps[j]? = some q → q ∈ t.od) : nextP t = some p := by
  unfold nextP
  rw [List.find?_eq_some_iff_getElem]
  obtain ⟨hi, e⟩ := List.getElem?_eq_some_iff.1 h
  refine ⟨by simpa using ho, i, hi, e, fun j hj => ?_⟩
  have := hb j (t.ps[j]'(by omega)) hj (List.getElem?_eq_getElem _)
  simpa using this
theorem nextP_all {t : Sr} (h : ∀ p ∈ t.ps, p ∈ t.od) : nextP t = none := by
  unfold nextP
  rw [List.find?_eq_none]
  intro p hp
  simpa using h p hp
def runP (G : List Pn) (v : List Int) (m : Nat) : Nat → Sr → Sr
  | 0, t => t
  | k + 1, t => match nextP t with
    | none => t
    | some p => runP G v m k (lookP G v m t p)
theorem runP_none {G : List Pn} {v : List Int} {m : Nat} {t : Sr} (h : nextP t = none) : ∀ k, runP G v m k t = t
  | 0 => rfl
  | k + 1 => by unfold runP; rw [h]
theorem nodup_lt_len {n : Nat} {l : List Nat} (h : l.Nodup) (hl : ∀ x ∈ l, x < n) : l.length ≤ n := by
  have := List.Nodup.length_le_of_subset h (l₂ := List.range n) (fun x hx => List.mem_range.2 (hl x hx))
  simpa using this
theorem OkS.room {G : List Pn} {v : List Int} {m : Nat} {t : Sr} (h : OkS G v m t) {p : Nat} (hp : p ∈ t.cm) (ho : p ∉ t.od) : t.od.length < G.length := by
  have h1 := h.look1 hp ho
  have := nodup_lt_len h1.odn (fun x hx => h1.lt x (h1.ods x hx))
  simp at this
  omega
theorem runP_step {G : List Pn} {v : List Int} {m : Nat} {t : Sr} (h : OkS G v m t) {p : Nat} (hp : nextP t = some p) : runP G v m (G.length - t.od.length) t = runP G v m (G.length - (lookP G v m t p).od.length) (lookP G v m t p) := by
  obtain ⟨h1, h2⟩ := nextP_some hp
  have := h.room (h.sub p h1) h2
  rw [lookP_od]
  obtain ⟨k, hk⟩ : ∃ k, G.length - t.od.length = k + 1 := ⟨G.length - t.od.length - 1, by omega⟩
  rw [hk]
  have e : G.length - (t.od ++ [p]).length = k := by simp; omega
  rw [e]
  conv => lhs; unfold runP
  rw [hp]
/-- A search at its end. -/
def finP (G : List Pn) (v : List Int) (m s : Nat) : Sr := if G.length = 0 then ⟨[], [], []⟩ else runP G v m G.length (comeP G v m ⟨[], [], []⟩ s)
theorem comeP_first (G : List Pn) (v : List Int) (m s : Nat) (hm : 0 < m) : comeP G v m ⟨[], [], []⟩ s = ⟨[s], [s], []⟩ := by
  have h1 : tookP G v m [] s = true := by
    unfold tookP tookH
    have : ¬ 0 = m := by omega
    simp [hlP, ids, this]
  have h2 : (insP G v [] s).take m = [s] := by
    show [s].take m = [s]
    rw [List.take_of_length_le (by simp only [List.length_singleton]; omega)]
  unfold comeP pushP
  rw [if_neg (by simp), if_pos h1, h2]; rfl
/-- The answers. -/
def beamB (G : List Pn) (s : Int) (v : List Int) (k m : Int) : Bool := mayS G s v && decide (1 ≤ m ∧ m ≤ 256 ∧ 1 ≤ k ∧ k ≤ m)
def beamF (G : List Pn) (s : Int) (v : List Int) (m : Int) : Sr := finP G v m.toNat s.toNat
def beamH (G : List Pn) (s : Int) (v : List Int) (k m : Int) : HL := if beamB G s v k m then (hlP G v (beamF G s v m).ps).take k.toNat else []
def beamO (G : List Pn) (s : Int) (v : List Int) (k m : Int) : List Int := if beamB G s v k m then (beamF G s v m).od.map (fun (x : Nat) => (x : Int)) else []
def exactB (G : List Pn) (s : Int) (v : List Int) (k : Int) : Bool := mayS G s v && decide (1 ≤ k ∧ k ≤ 256)
def exactH (G : List Pn) (s : Int) (v : List Int) (k : Int) : HL := if exactB G s v k then (srt (hlP G v (List.range G.length))).take k.toNat else []
/-- All come, one by one. -/
theorem all_come {G : List Pn} {v : List Int} {m : Nat} (hN : (G.map (·.1)).Nodup) (hm : 0 < m) : ∀ k, k ≤ G.length → ((List.range k).foldl (comeP G v m) ⟨[], [], []⟩).cm = List.range k ∧ hlP G v ((List.range k).foldl (comeP G v m) ⟨[], [], []⟩).ps = (srt (hlP G v (List.range k))).take m
  | 0, _ => ⟨rfl, by
    have : srt [] = [] := List.eq_nil_of_length_eq_zero (by rw [srt_len]; rfl)
    simp [hlP, this]⟩
  | k + 1, hk => by
    obtain ⟨h1, h2⟩ := all_come hN hm k (by omega)
    have ok := OkS.comes (G := G) (s := 0) (v := v) hN hm (List.range k) (OkS.nil G v m) (fun p hp => by have := List.mem_range.1 hp; omega)
    rw [List.range_succ, List.foldl_append]
    obtain ⟨t, et⟩ : ∃ t, (List.range k).foldl (comeP G v m) ⟨[], [], []⟩ = t := ⟨_, rfl⟩
    rw [et] at h1 h2 ok ⊢
    have hc : k ∉ t.cm := by rw [h1]; simp
    have hnew := ok.new (s := 0) hN (show k < G.length by omega) hc
    have e : List.foldl (comeP G v m) t [k] = ⟨pushP G v m t.ps k, t.cm ++ [k], t.od⟩ := by
      show comeP G v m t k = _
      unfold comeP
      rw [if_neg hc]
    rw [e]
    refine ⟨by show t.cm ++ [k] = _; rw [h1], ?_⟩
    show hlP G v (pushP G v m t.ps k) = _
    rw [pushP_srt hnew ok.up ok.le hm, srt_insL, srt_self ok.up, h2, ← insL_take]
    have e2 : hlP G v (List.range k ++ [k]) = hlP G v (List.range k) ++ [hitP G v k] := by simp [hlP]
    rw [e2, srt_insL]
end Go.Proofs.YtkmngbkghgelfaaGreat
/- Places by IDs in a map; the walks of placesByID and allGoWith. -/
namespace Go.Proofs.YtkmngbkghgelfaaGreat
open Go.Shelf Go.RowKit Go.Lib
open Go.Sort hiding Below
set_option linter.unusedVariables false
set_option linter.unusedSimpArgs false
/-- Any value reads as itself. -/
def asV (v : Value) : Option (DataW Value × List MemPlace) := some (.held v, [])
/-- Block fm is a map with the keys l; where they are unlike it tells each one's place. -/
def PlAt (w : World) (fm : Nat) (l : List Int) : Prop :=
  ∃ (D : DataW Value) (q : Nat), w.ownsMap Tryz.prog 76 asV fm q D ∧ q ≤ l.length ∧ (∀ x, Maps.has D (.int .u64 x) = decide (x ∈ l)) ∧ Maps.size D ≤ l.length ∧ (Maps.size D = l.length ↔ l.Nodup) ∧
    (l.Nodup → ∀ (k : Nat) (x : Int), l[k]? = some x → ∀ z, D.atKey (.int .u64 x) z = .held (.int .i64 (k : Int)))
theorem PlAt.made (w : World) : PlAt (w.alloc (.map #[] 0)) w.heap.size [] := ⟨.map [], 0, World.ownsMap_made w _ _ _, Nat.le_refl _, fun x => by simp [Maps.has], Nat.le_refl _, by simp [Maps.size], fun _ k x h => by simp at h⟩
theorem PlAt.lt {w : World} {fm : Nat} {l : List Int} (h : PlAt w fm l) : fm < w.heap.size := by
  obtain ⟨D, q, h1, _⟩ := h; exact h1.lt
theorem PlAt.turn {w w' : World} {A : List Nat} {fm : Nat} {l : List Int} (h : PlAt w fm l) (k : Turn A w w') (hn : fm ∉ A) : PlAt w' fm l := by
  obtain ⟨D, q, ⟨es, clock, h1, r⟩, h2⟩ := h
  exact ⟨D, q, ⟨es, clock, (k.block fm (Array.getElem?_eq_some_iff.1 h1).1 hn).trans h1, r⟩, h2⟩
theorem PlAt.obj {w : World} {fm : Nat} {l : List Int} (h : PlAt w fm l) : ∃ es clock, w.heap[fm]? = some (.map es clock) := by
  obtain ⟨D, q, ⟨es, clock, h1, r⟩, h2⟩ := h
  exact ⟨es, clock, h1⟩
theorem PlAt.put {w : World} {fm : Nat} {l : List Int} (h : PlAt w fm l) {x : Int} (hx : (Lit.int .u64 x).wf = true) (hl : l.length ≤ 1000000) (p : Int) (hp : p = (l.length : Int)) :
    ∃ w', (Instr.mapUpdate 71 (.map (some fm)) (.int .u64 x) (.int .i64 p)).run Tryz.prog w = .ok () w' ∧ PlAt w' fm (l ++ [x]) ∧ Turn [fm] w w' := by
  subst hp
  obtain ⟨D, q, h1, h2, h3, h4, h5, h6⟩ := h
  obtain ⟨w', hr, ho, ht⟩ := h1.update kLaw Tryz.underlying71 (by unfold maxLen; omega) (val := .int .i64 (l.length : Int)) (d := .held (.int .i64 (l.length : Int))) (ps := []) (kOf hx) rfl
  have hD : Maps.IsMap D := h1.isMap
  have hsz := Maps.size_put (h1.tidy kLaw) (k := .int .u64 x) (d := (.held (.int .i64 (l.length : Int)) : DataW Value))
  have hk := kLaw.key (kOf hx)
  refine ⟨w', hr, ⟨_, _, ho, by rw [List.length_append, List.length_singleton]; omega, fun y => ?_, ?_, ?_, fun hn k y hy z => ?_⟩, Turn.of_grown ht⟩
  · by_cases e : y = x
    · subst e
      rw [Maps.has_put_same hD hk]
      simp
    · rw [Maps.has_put_other (by simpa using e), h3 y]
      simp [e]
  · rw [hsz, h3 x, List.length_append, List.length_singleton]
    split <;> omega
  · rw [hsz, h3 x, List.length_append, List.length_singleton, List.nodup_append]
    by_cases hm : x ∈ l
    · have : decide (x ∈ l) = true := decide_eq_true hm
      rw [this]
      constructor
      · intro q; simp at q; omega
      · rintro ⟨-, -, q⟩
        exact absurd rfl (q x hm x (by simp))
    · have : decide (x ∈ l) = false := decide_eq_false hm
      rw [this]
      constructor
      · intro q
        refine ⟨h5.1 (by simpa using q), by simp, fun a ha b hb e => ?_⟩
        rw [List.mem_singleton] at hb
        subst hb e
        exact hm ha
      · rintro ⟨q, -, -⟩
        have := h5.2 q
        simp; omega
  · rw [List.nodup_append] at hn
    rcases Nat.lt_or_ge k l.length with hlt | hge
    · rw [List.getElem?_append_left hlt] at hy
      have hne : y ≠ x := fun e => hn.2.2 y (List.mem_of_getElem? hy) x (by simp) e
      rw [Maps.atKey_put_other (by simpa using hne)]
      exact h6 hn.1 k y hy z
    · rw [List.getElem?_append_right hge] at hy
      have hk0 : k - l.length = 0 := by
        rcases Nat.eq_zero_or_pos (k - l.length) with h | h
        · exact h
        · rw [List.getElem?_eq_none (by simp; omega)] at hy; cases hy
      rw [hk0] at hy
      simp at hy
      obtain rfl : k = l.length := by omega
      subst hy
      exact Maps.atKey_put_same hD hk _ _
theorem PlAt.len {w : World} {fm : Nat} {l : List Int} (h : PlAt w fm l) : ∃ q : Nat, (∀ ty, (Builtin.len_ #[71] ty #[.map (some fm)]).run Tryz.prog w = .ok (.int .i64 (q : Int)) w) ∧ q ≤ l.length ∧ (q = l.length ↔ l.Nodup) := by
  obtain ⟨D, q, h1, h2, h3, h4, h5, h6⟩ := h
  exact ⟨_, fun ty => h1.len Tryz.underlying71 ty, h4, h5⟩
theorem zeroI9 (w : World) : (zeroValue 3).run Tryz.prog w = .ok (.int .i64 0) w := by kernel_rfl
theorem PlAt.look {w : World} {fm : Nat} {l : List Int} (h : PlAt w fm l) (hn : l.Nodup) {k : Nat} {x : Int} (hk : l[k]? = some x) (hx : (Lit.int .u64 x).wf = true) :
    (Instr.lookup 71 (.map (some fm)) (.int .u64 x) false).run Tryz.prog w = .ok (.int .i64 (k : Int)) w := by
  obtain ⟨D, q, h1, h2, h3, h4, h5, h6⟩ := h
  obtain ⟨v, ps, hrun, hR⟩ := h1.lookup kLaw Tryz.underlying71 (zeroI9 w) (zd := .held (.int .i64 0)) (zp := []) rfl (kOf hx)
  have h7 : (DataW.held v : DataW Value) = .held (.int .i64 (k : Int)) := (congrArg Prod.fst (Option.some.inj hR)).trans (h6 hn k x hk _)
  have h8 : v = .int .i64 (k : Int) := DataW.held.inj h7
  rw [hrun, h8]
theorem mkMapP (w : World) (n : Int) : (Instr.makeMap 71 (some (.int .i64 n))).run Tryz.prog w = .ok (.map (some w.heap.size)) (w.alloc (.map #[] 0)) := by
  simp [Instr.makeMap, run_underlying Tryz.underlying71, asInt, asIntOf, Result.andThen]
theorem u64_wf {x : Int} (h : 0 ≤ x ∧ x < 18446744073709551616) : (Lit.int .u64 x).wf = true := by
  have h1 : IntKind.u64.min = 0 := rfl
  have h2 : IntKind.u64.max = 18446744073709551615 := rfl
  obtain ⟨a, b⟩ := h
  have b' : x ≤ 18446744073709551615 := Int.le_of_lt_add_one b
  rw [← h2] at b'
  rw [← h1] at a
  simp only [Lit.wf, Bool.and_eq_true, decide_eq_true_eq]
  exact ⟨a, b'⟩
def idsG (G : List Pn) : List Int := G.map (·.1)
set_option maxRecDepth 100000 in
set_option maxHeartbeats 4000000 in
theorem placesByID_any (A : Option Addr) (c : Nat) (L : List Gn) (n : Nat) (hn : n = L.length) (w : World) (hx : RdG w w.heap.size A L) (hl : L.length ≤ 2048) (hok : ∀ x ∈ pns L, PnOk x) :
    Calls Tryz.prog 76 #[.slice A n c] w fun e w' => e = .returned (.map (some w.heap.size)) ∧ PlAt w' w.heap.size (idsG (pns L)) ∧ Below w.heap.size w w' := by
  subst hn
  have HX := Lib.hid hx
  have HL := Lib.hid (pns_len L)
  have HOK := Lib.hid hok
  have HM := Lib.hid (PlAt.made w)
  have HB0 := Lib.hid (below_one (Below.refl w.heap.size w) (.map #[] 0))
  clear hx hok
  have hmk := fun W => mkMapP W (L.length : Int)
  go_enter Tryz.func76, Tryz.ntmps76
  go_wp2
  obtain ⟨w1, ew1⟩ : ∃ w1, w.alloc (.map #[] 0) = w1 := ⟨_, rfl⟩
  obtain ⟨fm, efm⟩ : ∃ fm, w.heap.size = fm := ⟨_, rfl⟩
  have HFM := Lib.hid efm
  rw [ew1, efm] at HM
  rw [ew1] at HB0
  rw [ew1, efm]
  clear ew1 efm hmk
  go_loopw [4, 5, 11] (fun _ _ i wr => ∃ k : Nat, k ≤ L.length ∧ i = .int .i64 k ∧ Hid (Below fm w wr) ∧ Hid (PlAt wr fm (idsG ((pns L).take k)))) (fun _ _ i _ => L.length - (intOf i).toNat)
  case atStart => exact ⟨0, by omega, rfl, Lib.hid (by rw [← HFM.out]; exact HB0.out), HM⟩
  case round =>
    clear HB0 HM
    obtain ⟨k, hk, rfl, HB, HM⟩ := hrel
    by_cases hlt : k < L.length
    · have e1 : decide ((k : Int) < (L.length : Int)) = true := decide_eq_true (by omega)
      obtain ⟨b, off, id', a1, c1, v, a2, c2, o, rfl, hBb, h1, h2, h3, hr1, hr2, hv⟩ := HX.out.at_ hlt
      rw [HFM.out] at hBb
      have h1' : wr.cell? ⟨b, off + k * 3, none⟩ = some (.int .u64 id') := (HB.out.cell (p := ⟨b, off + k * 3, none⟩) hBb).trans h1
      have h2' : wr.cell? ⟨b, off + k * 3 + 1, none⟩ = some (.slice a1 v.length c1) := (HB.out.cell (p := ⟨b, off + k * 3 + 1, none⟩) hBb).trans h2
      have h3' : wr.cell? ⟨b, off + k * 3 + 2, none⟩ = some (.slice a2 o.length c2) := (HB.out.cell (p := ⟨b, off + k * 3 + 2, none⟩) hBb).trans h3
      have x1 : (0 : Int) ≤ (k : Int) := by omega
      have x2 : (k : Int) < (L.length : Int) := by omega
      have hp := pns_at hv.out
      have HT := Lib.hid (pns_take hv.out)
      have hok' := (HOK.out _ (List.mem_of_getElem? hp)).1
      have HBX := Lib.hid (below_one (Below.refl wr.heap.size wr) (.cells #[.int .u64 id', .slice a1 v.length c1, .slice a2 o.length c2] 87))
      obtain ⟨w3, hput, hM3, ht3⟩ := (HM.out.turn (Turn.of_below HBX.out) (by simp)).put (u64_wf hok') (by unfold idsG; rw [List.length_map, List.length_take]; omega) (k : Int) (by unfold idsG; rw [List.length_map, List.length_take, HL.out]; omega)
      have HM3 : Hid (PlAt w3 fm (idsG ((pns L).take (k + 1)))) := Lib.hid (by rw [HT.out]; unfold idsG at hM3 ⊢; rw [List.map_append]; exact hM3)
      have HB3 : Hid (Below fm w w3) := Lib.hid ((HB.out.trans (HBX.out.mono (by have := HB.out.size; rw [HFM.out] at this; exact this))).trans (ht3.below (by simp) (by have := HB.out.size; have := HBX.out.size; rw [HFM.out] at *; omega)))
      clear h1 h2 h3 hr1 hr2 hv hp hok' hM3 ht3 HM
      go_wp2
      go_roundw
      case rel => exact ⟨k + 1, by omega, by go_num, HB3, HM3⟩
      case measure => simp [intOf]; omega
    · obtain rfl : k = L.length := by omega
      have e1 : decide ((L.length : Int) < (L.length : Int)) = false := decide_eq_false (by omega)
      have HM3 : Hid (PlAt wr fm (idsG (pns L))) := Lib.hid (by have := HM.out; rwa [List.take_of_length_le (by rw [HL.out]; exact Nat.le_refl _)] at this)
      go_wp2
      go_ret
      rw [HFM.out]
      exact ⟨rfl, HM3.out, HB.out⟩
def goB (G : List Pn) (m : Nat) : Bool := decide (∀ x ∈ G, x.2.1.length = m) && decide (1 ≤ m ∧ m ≤ 64)
set_option maxRecDepth 100000 in
set_option maxHeartbeats 4000000 in
theorem allGoWith_any (A B : Option Addr) (c q : Nat) (L : List Gn) (n : Nat) (hn : n = L.length) (m : Nat) (w : World) (hx : RdG w w.heap.size A L) (hl : L.length ≤ 20000) :
    Calls Tryz.prog 77 #[.slice A n c, .slice B m q] w fun e w' => e = .returned (.bool (goB (pns L) m)) ∧ Below w.heap.size w w' := by
  subst hn
  have HX := Lib.hid hx
  have HL := Lib.hid (pns_len L)
  clear hx
  go_enter Tryz.func77, Tryz.ntmps77
  go_wp2
  go_loopw [6, 9] (fun _ i wr => ∃ k : Nat, k ≤ L.length ∧ i = .int .i64 k ∧ Hid (Below w.heap.size w wr) ∧ Hid (∀ x ∈ (pns L).take k, x.2.1.length = m)) (fun _ i _ => L.length - (intOf i).toNat)
  case atStart => exact ⟨0, by omega, rfl, Lib.hid (Below.refl _ _), Lib.hid (by simp)⟩
  case round =>
    obtain ⟨k, hk, rfl, HB, HI⟩ := hrel
    by_cases hlt : k < L.length
    · have e1 : decide ((k : Int) < (L.length : Int)) = true := decide_eq_true (by omega)
      obtain ⟨b, off, id', a1, c1, v, a2, c2, o, rfl, hBb, h1, h2, h3, hr1, hr2, hv⟩ := HX.out.at_ hlt
      have h1' : wr.cell? ⟨b, off + k * 3, none⟩ = some (.int .u64 id') := (HB.out.cell (p := ⟨b, off + k * 3, none⟩) hBb).trans h1
      have h2' : wr.cell? ⟨b, off + k * 3 + 1, none⟩ = some (.slice a1 v.length c1) := (HB.out.cell (p := ⟨b, off + k * 3 + 1, none⟩) hBb).trans h2
      have h3' : wr.cell? ⟨b, off + k * 3 + 2, none⟩ = some (.slice a2 o.length c2) := (HB.out.cell (p := ⟨b, off + k * 3 + 2, none⟩) hBb).trans h3
      have x1 : (0 : Int) ≤ (k : Int) := by omega
      have x2 : (k : Int) < (L.length : Int) := by omega
      have hp := pns_at hv.out
      have HT := Lib.hid (pns_take hv.out)
      have HP := Lib.hid (List.mem_of_getElem? hp)
      have HBX := Lib.hid (HB.out.trans ((below_one (Below.refl wr.heap.size wr) (.cells #[.int .u64 id', .slice a1 v.length c1, .slice a2 o.length c2] 87)).mono HB.out.size))
      by_cases he : v.length = m
      · have HI3 : Hid (∀ x ∈ (pns L).take (k + 1), x.2.1.length = m) := Lib.hid (fun x hx => by
          rw [HT.out] at hx
          rcases List.mem_append.1 hx with h | h
          · exact HI.out x h
          · rw [List.mem_singleton] at h; subst h; exact he)
        obtain ⟨vl, evl⟩ : ∃ vl, v.length = vl := ⟨_, rfl⟩
        rw [evl] at he h2' HBX
        subst he
        have e2 : ((vl : Int) != (vl : Int)) = false := by simp
        clear h1 h2 h3 hr1 hr2 hv hp
        go_wp2
        go_roundw
        case rel => exact ⟨k + 1, by omega, by go_num, HBX, HI3⟩
        case measure => simp [intOf]; omega
      · have HF : Hid (goB (pns L) m = false) := Lib.hid (by
          unfold goB
          rw [decide_eq_false (fun q => he (q _ HP.out))]; rfl)
        have e2 : ((v.length : Int) != (m : Int)) = true := by simp; omega
        clear h1 h2 h3 hr1 hr2 hv hp
        go_wp2
        go_ret
        exact ⟨retb HF.out.symm, HBX.out⟩
    · obtain rfl : k = L.length := by omega
      have e1 : decide ((L.length : Int) < (L.length : Int)) = false := decide_eq_false (by omega)
      have HF : Hid (goB (pns L) m = decide (1 ≤ m ∧ m ≤ 64)) := Lib.hid (by
        have h2 := HI.out
        rw [List.take_of_length_le (by rw [HL.out]; exact Nat.le_refl _)] at h2
        unfold goB
        rw [decide_eq_true h2]; rfl)
      by_cases m1 : 1 ≤ m
      · by_cases m2 : m ≤ 64
        · have e2 : decide ((1 : Int) ≤ (m : Int)) = true := decide_eq_true (by omega)
          have e3 : decide ((m : Int) ≤ 64) = true := decide_eq_true (by omega)
          have HF2 := Lib.hid (HF.out.trans (decide_eq_true ⟨m1, m2⟩))
          go_wp2
          go_ret
          exact ⟨retb HF2.out.symm, HB.out⟩
        · have e2 : decide ((1 : Int) ≤ (m : Int)) = true := decide_eq_true (by omega)
          have e3 : decide ((m : Int) ≤ 64) = false := decide_eq_false (by omega)
          have HF2 := Lib.hid (HF.out.trans (decide_eq_false (fun q => m2 q.2)))
          go_wp2
          go_ret
          exact ⟨retb HF2.out.symm, HB.out⟩
      · have e2 : decide ((1 : Int) ≤ (m : Int)) = false := decide_eq_false (by omega)
        have HF2 := Lib.hid (HF.out.trans (decide_eq_false (fun q => m1 q.1)))
        go_wp2
        go_ret
        exact ⟨retb HF2.out.symm, HB.out⟩
end Go.Proofs.YtkmngbkghgelfaaGreat
