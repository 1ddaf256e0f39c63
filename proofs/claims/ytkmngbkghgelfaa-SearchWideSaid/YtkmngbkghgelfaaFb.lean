/- Several texts in one. -/
import Derived.Test.YtkmngbkghgelfaaHm
import Derived.Test.YtkmngbkghgelfaaLb
import Derived.Test.YtkmngbkghgelfaaVf
import Derived.Deep.Cut
/- Mathematics of a search through a graph: what comes, what is kept, what is looked at. -/
namespace Go.Proofs.Ytkmngbkghgelfaa
set_option linter.unusedVariables false
/-- A node's hit. -/
def hitP (G : List Pn) (v : List Int) (p : Nat) : Int × Int := ((nAt G p).1, far (nAt G p).2.1 v)
def hlP (G : List Pn) (v : List Int) (ps : List Nat) : HL := ps.map (hitP G v)
theorem hlP_len (G : List Pn) (v : List Int) (ps : List Nat) : (hlP G v ps).length = ps.length := by simp [hlP]
/-- A graph may be searched for a vector. -/
structure MaySearch (G : List Pn) (s : Int) (v : List Int) : Prop where
  ho : Holds G s
  dim : 1 ≤ v.length ∧ v.length ≤ 64
  same : ∀ x ∈ G, x.2.1.length = v.length
  nd : (G.map (·.1)).Nodup
def mayS (G : List Pn) (s : Int) (v : List Int) : Bool := holdsB G s && decide (1 ≤ v.length ∧ v.length ≤ 64) && decide (∀ x ∈ G, x.2.1.length = v.length) && decide ((G.map (·.1)).Nodup)
theorem mayS_yes {G : List Pn} {s : Int} {v : List Int} (h : mayS G s v = true) : MaySearch G s v := by
  unfold mayS at h
  simp only [Bool.and_eq_true, decide_eq_true_eq] at h
  exact ⟨holdsB_yes h.1.1.1, h.1.1.2, h.1.2, h.2⟩
theorem mayS_of {G : List Pn} {s : Int} {v : List Int} (h : MaySearch G s v) : mayS G s v = true := by
  unfold mayS
  rw [show holdsB G s = true from decide_eq_true h.ho, decide_eq_true h.dim, decide_eq_true h.same, decide_eq_true h.nd]; rfl
theorem ids_inj {G : List Pn} (h : (G.map (·.1)).Nodup) {p q : Nat} (hp : p < G.length) (hq : q < G.length) (e : (nAt G p).1 = (nAt G q).1) : p = q := by
  rw [List.nodup_iff_pairwise_ne, List.pairwise_iff_getElem] at h
  have key : ∀ i j (hi : i < G.length) (hj : j < G.length), i < j → (nAt G i).1 ≠ (nAt G j).1 := fun i j hi hj hij => by
    have := h i j (by simpa using hi) (by simpa using hj) hij
    simpa [nAt, List.getElem?_eq_getElem hi, List.getElem?_eq_getElem hj] using this
  rcases Nat.lt_trichotomy p q with h1 | h1 | h1
  · exact absurd e (key p q hp hq h1)
  · exact h1
  · exact absurd e.symm (key q p hq hp h1)
def insP (G : List Pn) (v : List Int) : List Nat → Nat → List Nat
  | [], p => [p]
  | q :: s, p => if ltH (hitP G v p) (hitP G v q) = true then p :: q :: s else q :: insP G v s p
theorem insP_hl (G : List Pn) (v : List Int) (p : Nat) : ∀ ps, hlP G v (insP G v ps p) = insL (hlP G v ps) (hitP G v p)
  | [] => rfl
  | q :: s => by
    show (insP G v (q :: s) p).map (hitP G v) = insL (hitP G v q :: hlP G v s) (hitP G v p)
    unfold insP insL
    split
    · rfl
    · rw [List.map_cons]; congr 1; exact insP_hl G v p s
theorem insP_perm (G : List Pn) (v : List Int) (p : Nat) : ∀ ps, (insP G v ps p).Perm (p :: ps)
  | [] => List.Perm.refl _
  | q :: s => by
    unfold insP
    split
    · exact List.Perm.refl _
    · exact ((insP_perm G v p s).cons q).trans (List.Perm.swap _ _ _)
def tookP (G : List Pn) (v : List Int) (m : Nat) (ps : List Nat) (p : Nat) : Bool := tookH m (hlP G v ps) (hitP G v p)
def pushP (G : List Pn) (v : List Int) (m : Nat) (ps : List Nat) (p : Nat) : List Nat := if tookP G v m ps p = true then (insP G v ps p).take m else ps
theorem pushP_hl {G : List Pn} {v : List Int} {m : Nat} {ps : List Nat} {p : Nat} (hx : (hitP G v p).1 ∉ ids (hlP G v ps)) (hu : Up (hlP G v ps)) (hl : ps.length ≤ m) (hm : 0 < m) : hlP G v (pushP G v m ps p) = pushH m (hlP G v ps) (hitP G v p) := by
  unfold pushP tookP
  split
  · rw [pushH_ins hx hu (by rw [hlP_len]; exact hl) hm, ← insP_hl]
    unfold hlP
    rw [List.map_take]
  · rename_i h
    unfold pushH
    rw [if_neg h]
theorem pushP_srt {G : List Pn} {v : List Int} {m : Nat} {ps : List Nat} {p : Nat} (hx : (hitP G v p).1 ∉ ids (hlP G v ps)) (hu : Up (hlP G v ps)) (hl : ps.length ≤ m) (hm : 0 < m) : hlP G v (pushP G v m ps p) = (srt (hlP G v ps ++ [hitP G v p])).take m := by
  rw [pushP_hl hx hu hl hm, pushH_ins hx hu (by rw [hlP_len]; exact hl) hm, srt_insL, srt_self hu]
theorem pushP_mem {G : List Pn} {v : List Int} {m : Nat} {ps : List Nat} {p q : Nat} (h : q ∈ pushP G v m ps p) : q = p ∨ q ∈ ps := by
  unfold pushP at h
  split at h
  · simpa using (insP_perm G v p ps).subset (List.mem_of_mem_take h)
  · exact .inr h
/-- A search under way: the places kept, the nearest first; those that came, in order; those that were looked at, in order. -/
structure Sr where
  ps : List Nat
  cm : List Nat
  od : List Nat
def comeP (G : List Pn) (v : List Int) (m : Nat) (t : Sr) (p : Nat) : Sr := if p ∈ t.cm then t else ⟨pushP G v m t.ps p, t.cm ++ [p], t.od⟩
/-- Does the list keep it? -/
def chgP (G : List Pn) (v : List Int) (m : Nat) (t : Sr) (p : Nat) : Bool := !decide (p ∈ t.cm) && tookP G v m t.ps p
structure OkS (G : List Pn) (v : List Int) (m : Nat) (t : Sr) : Prop where
  sub : ∀ p ∈ t.ps, p ∈ t.cm
  lt : ∀ p ∈ t.cm, p < G.length
  cmn : t.cm.Nodup
  up : Up (hlP G v t.ps)
  le : t.ps.length ≤ m
  nd : t.ps.Nodup
  odn : t.od.Nodup
  ods : ∀ p ∈ t.od, p ∈ t.cm
theorem OkS.nil (G : List Pn) (v : List Int) (m : Nat) : OkS G v m ⟨[], [], []⟩ :=
  ⟨by simp, by simp, List.nodup_nil, List.Pairwise.nil, Nat.zero_le _, List.nodup_nil, List.nodup_nil, by simp⟩
theorem OkS.new {G : List Pn} {s : Int} {v : List Int} {m : Nat} {t : Sr} (h : OkS G v m t) (hN : (G.map (·.1)).Nodup) {p : Nat} (hp : p < G.length) (hc : p ∉ t.cm) : (hitP G v p).1 ∉ ids (hlP G v t.ps) := fun hm => by
  obtain ⟨x, hx, e⟩ := List.mem_map.1 hm
  obtain ⟨q, hq, rfl⟩ := List.mem_map.1 hx
  exact hc (ids_inj hN (h.lt q (h.sub q hq)) hp e ▸ h.sub q hq)
theorem OkS.come {G : List Pn} {s : Int} {v : List Int} {m : Nat} {t : Sr} (h : OkS G v m t) (hN : (G.map (·.1)).Nodup) (hm : 0 < m) {p : Nat} (hp : p < G.length) : OkS G v m (comeP G v m t p) := by
  unfold comeP
  split
  · exact h
  · rename_i hc
    have hnew := h.new (s := s) hN hp hc
    have hpp : p ∉ t.ps := fun hq => hc (h.sub p hq)
    refine ⟨fun q hq => ?_, fun q hq => ?_, ?_, ?_, ?_, ?_, h.odn, fun q hq => List.mem_append_left _ (h.ods q hq)⟩
    · rcases pushP_mem hq with rfl | hq
      · simp
      · exact List.mem_append_left _ (h.sub q hq)
    · rcases List.mem_append.1 hq with hq | hq
      · exact h.lt q hq
      · rw [List.mem_singleton] at hq; omega
    · rw [List.nodup_append]
      exact ⟨h.cmn, by simp, fun a ha b hb => by rw [List.mem_singleton] at hb; subst hb; exact fun e => hc (e ▸ ha)⟩
    · show Up (hlP G v (pushP G v m t.ps p))
      rw [pushP_srt hnew h.up h.le hm]
      exact (up_srt _).sublist (List.take_sublist _ _)
    · show (pushP G v m t.ps p).length ≤ m
      unfold pushP
      split
      · rw [List.length_take]; omega
      · exact h.le
    · show (pushP G v m t.ps p).Nodup
      unfold pushP
      split
      · exact ((insP_perm G v p t.ps).nodup_iff.2 (List.nodup_cons.2 ⟨hpp, h.nd⟩)).sublist (List.take_sublist _ _)
      · exact h.nd
theorem OkS.comes {G : List Pn} {s : Int} {v : List Int} {m : Nat} (hN : (G.map (·.1)).Nodup) (hm : 0 < m) : ∀ (l : List Nat) {t : Sr}, OkS G v m t → (∀ p ∈ l, p < G.length) → OkS G v m (l.foldl (comeP G v m) t)
  | [], t, h, _ => h
  | p :: l, t, h, hl => OkS.comes (s := s) hN hm l (h.come (s := s) hN hm (hl p (by simp))) (fun q hq => hl q (List.mem_cons_of_mem _ hq))
theorem comeP_od (G : List Pn) (v : List Int) (m : Nat) (t : Sr) (p : Nat) : (comeP G v m t p).od = t.od := by unfold comeP; split <;> rfl
theorem comes_od (G : List Pn) (v : List Int) (m : Nat) : ∀ (l : List Nat) (t : Sr), (l.foldl (comeP G v m) t).od = t.od
  | [], t => rfl
  | p :: l, t => (comes_od G v m l _).trans (comeP_od G v m t p)
theorem comeP_cm {G : List Pn} {v : List Int} {m : Nat} {t : Sr} {p q : Nat} : q ∈ (comeP G v m t p).cm ↔ q ∈ t.cm ∨ q = p := by
  unfold comeP
  split
  · rename_i h
    constructor
    · exact .inl
    · rintro (h1 | rfl)
      · exact h1
      · exact h
  · simp
theorem comes_cm {G : List Pn} {v : List Int} {m : Nat} {q : Nat} : ∀ (l : List Nat) {t : Sr}, q ∈ (l.foldl (comeP G v m) t).cm ↔ q ∈ t.cm ∨ q ∈ l
  | [], t => by simp
  | p :: l, t => by
    rw [List.foldl_cons, comes_cm l, comeP_cm]
    simp only [List.mem_cons]
    constructor
    · rintro ((h | h) | h)
      · exact .inl h
      · exact .inr (.inl h)
      · exact .inr (.inr h)
    · rintro (h | h | h)
      · exact .inl (.inl h)
      · exact .inl (.inr h)
      · exact .inr h
/-- Was one of them kept? -/
def chgL (G : List Pn) (v : List Int) (m : Nat) : Sr → List Nat → Bool
  | _, [] => false
  | t, p :: l => chgP G v m t p || chgL G v m (comeP G v m t p) l
theorem chgL_snoc (G : List Pn) (v : List Int) (m : Nat) (p : Nat) : ∀ (l : List Nat) (t : Sr), chgL G v m t (l ++ [p]) = (chgL G v m t l || chgP G v m (l.foldl (comeP G v m) t) p)
  | [], t => by simp [chgL]
  | q :: l, t => by
    rw [List.cons_append]
    show (chgP G v m t q || chgL G v m (comeP G v m t q) (l ++ [p])) = ((chgP G v m t q || chgL G v m (comeP G v m t q) l) || _)
    rw [chgL_snoc G v m p l]
    rw [Bool.or_assoc]; rfl
theorem comeP_same {G : List Pn} {v : List Int} {m : Nat} {t : Sr} {p : Nat} (h : chgP G v m t p = false) : (comeP G v m t p).ps = t.ps := by
  unfold comeP
  split
  · rfl
  · rename_i hc
    unfold chgP at h
    rw [decide_eq_false hc] at h
    show pushP G v m t.ps p = t.ps
    unfold pushP
    rw [if_neg (by simpa using h)]
theorem chgL_same {G : List Pn} {v : List Int} {m : Nat} : ∀ (l : List Nat) {t : Sr}, chgL G v m t l = false → (l.foldl (comeP G v m) t).ps = t.ps
  | [], t, _ => rfl
  | p :: l, t, h => by
    unfold chgL at h
    rw [Bool.or_eq_false_iff] at h
    exact (chgL_same l h.2).trans (comeP_same h.1)
def outN (G : List Pn) (p : Nat) : List Nat := (outAt G p).map Int.toNat
theorem outN_lt {G : List Pn} {s : Int} (h : Holds G s) {p : Nat} (hp : p < G.length) : ∀ q ∈ outN G p, q < G.length := fun q hq => by
  obtain ⟨t, ht, rfl⟩ := List.mem_map.1 hq
  have := h.out hp ht
  omega
def lookP (G : List Pn) (v : List Int) (m : Nat) (t : Sr) (p : Nat) : Sr := (outN G p).foldl (comeP G v m) ⟨t.ps, t.cm, t.od ++ [p]⟩
theorem lookP_od (G : List Pn) (v : List Int) (m : Nat) (t : Sr) (p : Nat) : (lookP G v m t p).od = t.od ++ [p] := comes_od G v m _ _
theorem OkS.look1 {G : List Pn} {v : List Int} {m : Nat} {t : Sr} (h : OkS G v m t) {p : Nat} (hp : p ∈ t.cm) (ho : p ∉ t.od) : OkS G v m ⟨t.ps, t.cm, t.od ++ [p]⟩ :=
  ⟨h.sub, h.lt, h.cmn, h.up, h.le, h.nd, by
    rw [List.nodup_append]
    exact ⟨h.odn, by simp, fun a ha b hb => by rw [List.mem_singleton] at hb; subst hb; exact fun e => ho (e ▸ ha)⟩, fun q hq => by
    rcases List.mem_append.1 hq with hq | hq
    · exact h.ods q hq
    · rw [List.mem_singleton] at hq; subst hq; exact hp⟩
theorem OkS.look {G : List Pn} {s : Int} {v : List Int} {m : Nat} {t : Sr} (h : OkS G v m t) (hG : Holds G s) (hN : (G.map (·.1)).Nodup) (hm : 0 < m) {p : Nat} (hp : p ∈ t.cm) (ho : p ∉ t.od) : OkS G v m (lookP G v m t p) :=
  OkS.comes (s := s) hN hm _ (h.look1 hp ho) (outN_lt hG (h.lt p hp))
/-- What is looked at next. -/
def nextP (t : Sr) : Option Nat := t.ps.find? fun p => !decide (p ∈ t.od)
theorem nextP_some {t : Sr} {p : Nat} (h : nextP t = some p) : p ∈ t.ps ∧ p ∉ t.od := by
  have h1 := List.mem_of_find?_eq_some h
  have h2 := List.find?_some h
  exact ⟨h1, by simpa using h2⟩
theorem nextP_none {t : Sr} (h : nextP t = none) : ∀ p ∈ t.ps, p ∈ t.od := fun p hp => by
  have := List.find?_eq_none.1 h p hp
  simpa using this
theorem nextP_at {t : Sr} {i : Nat} {p : Nat} (h : t.ps[i]? = some p) (ho : p ∉ t.od) (hb : ∀ j q, j < i → t.ps[j]? = some q → q ∈ t.od) : nextP t = some p := by
  unfold nextP
  rw [List.find?_eq_some_iff_getElem]
  obtain ⟨hi, e⟩ := List.getElem?_eq_some_iff.1 h
  refine ⟨by simpa using ho, i, hi, e, fun j hj => ?_⟩
  have := hb j (t.ps[j]'(by omega)) hj (List.getElem?_eq_getElem _)
  simpa using this
theorem nextP_all {t : Sr} (h : ∀ p ∈ t.ps, p ∈ t.od) : nextP t = none := by
  unfold nextP
  rw [List.find?_eq_none]
  intro p hp
  simpa using h p hp
def runP (G : List Pn) (v : List Int) (m : Nat) : Nat → Sr → Sr
  | 0, t => t
  | k + 1, t => match nextP t with
    | none => t
    | some p => runP G v m k (lookP G v m t p)
theorem runP_none {G : List Pn} {v : List Int} {m : Nat} {t : Sr} (h : nextP t = none) : ∀ k, runP G v m k t = t
  | 0 => rfl
  | k + 1 => by unfold runP; rw [h]
theorem nodup_lt_len {n : Nat} {l : List Nat} (h : l.Nodup) (hl : ∀ x ∈ l, x < n) : l.length ≤ n := by
  have := List.Nodup.length_le_of_subset h (l₂ := List.range n) (fun x hx => List.mem_range.2 (hl x hx))
  simpa using this
theorem OkS.room {G : List Pn} {v : List Int} {m : Nat} {t : Sr} (h : OkS G v m t) {p : Nat} (hp : p ∈ t.cm) (ho : p ∉ t.od) : t.od.length < G.length := by
  have h1 := h.look1 hp ho
  have := nodup_lt_len h1.odn (fun x hx => h1.lt x (h1.ods x hx))
  simp at this
  omega
theorem runP_step {G : List Pn} {v : List Int} {m : Nat} {t : Sr} (h : OkS G v m t) {p : Nat} (hp : nextP t = some p) : runP G v m (G.length - t.od.length) t = runP G v m (G.length - (lookP G v m t p).od.length) (lookP G v m t p) := by
  obtain ⟨h1, h2⟩ := nextP_some hp
  have := h.room (h.sub p h1) h2
  rw [lookP_od]
  obtain ⟨k, hk⟩ : ∃ k, G.length - t.od.length = k + 1 := ⟨G.length - t.od.length - 1, by omega⟩
  rw [hk]
  have e : G.length - (t.od ++ [p]).length = k := by simp; omega
  rw [e]
  conv => lhs; unfold runP
  rw [hp]
/-- A search at its end. -/
def finP (G : List Pn) (v : List Int) (m s : Nat) : Sr := if G.length = 0 then ⟨[], [], []⟩ else runP G v m G.length (comeP G v m ⟨[], [], []⟩ s)
theorem comeP_first (G : List Pn) (v : List Int) (m s : Nat) (hm : 0 < m) : comeP G v m ⟨[], [], []⟩ s = ⟨[s], [s], []⟩ := by
  have h1 : tookP G v m [] s = true := by
    unfold tookP tookH
    have : ¬ 0 = m := by omega
    simp [hlP, ids, this]
  have h2 : (insP G v [] s).take m = [s] := by
    show [s].take m = [s]
    rw [List.take_of_length_le (by simp only [List.length_singleton]; omega)]
  unfold comeP pushP
  rw [if_neg (by simp), if_pos h1, h2]; rfl
/-- The answers. -/
def beamB (G : List Pn) (s : Int) (v : List Int) (k m : Int) : Bool := mayS G s v && decide (1 ≤ m ∧ m ≤ 256 ∧ 1 ≤ k ∧ k ≤ m)
def beamF (G : List Pn) (s : Int) (v : List Int) (m : Int) : Sr := finP G v m.toNat s.toNat
def beamH (G : List Pn) (s : Int) (v : List Int) (k m : Int) : HL := if beamB G s v k m then (hlP G v (beamF G s v m).ps).take k.toNat else []
def beamO (G : List Pn) (s : Int) (v : List Int) (k m : Int) : List Int := if beamB G s v k m then (beamF G s v m).od.map (fun (x : Nat) => (x : Int)) else []
def exactB (G : List Pn) (s : Int) (v : List Int) (k : Int) : Bool := mayS G s v && decide (1 ≤ k ∧ k ≤ 256)
def exactH (G : List Pn) (s : Int) (v : List Int) (k : Int) : HL := if exactB G s v k then (srt (hlP G v (List.range G.length))).take k.toNat else []
/-- All come, one by one. -/
theorem all_come {G : List Pn} {v : List Int} {m : Nat} (hN : (G.map (·.1)).Nodup) (hm : 0 < m) : ∀ k, k ≤ G.length → ((List.range k).foldl (comeP G v m) ⟨[], [], []⟩).cm = List.range k ∧ hlP G v ((List.range k).foldl (comeP G v m) ⟨[], [], []⟩).ps = (srt (hlP G v (List.range k))).take m
  | 0, _ => ⟨rfl, by
    have : srt [] = [] := List.eq_nil_of_length_eq_zero (by rw [srt_len]; rfl)
    simp [hlP, this]⟩
  | k + 1, hk => by
    obtain ⟨h1, h2⟩ := all_come hN hm k (by omega)
    have ok := OkS.comes (G := G) (s := 0) (v := v) hN hm (List.range k) (OkS.nil G v m) (fun p hp => by have := List.mem_range.1 hp; omega)
    rw [List.range_succ, List.foldl_append]
    obtain ⟨t, et⟩ : ∃ t, (List.range k).foldl (comeP G v m) ⟨[], [], []⟩ = t := ⟨_, rfl⟩
    rw [et] at h1 h2 ok ⊢
    have hc : k ∉ t.cm := by rw [h1]; simp
    have hnew := ok.new (s := 0) hN (show k < G.length by omega) hc
    have e : List.foldl (comeP G v m) t [k] = ⟨pushP G v m t.ps k, t.cm ++ [k], t.od⟩ := by
      show comeP G v m t k = _
      unfold comeP
      rw [if_neg hc]
    rw [e]
    refine ⟨by show t.cm ++ [k] = _; rw [h1], ?_⟩
    show hlP G v (pushP G v m t.ps k) = _
    rw [pushP_srt hnew ok.up ok.le hm, srt_insL, srt_self ok.up, h2, ← insL_take]
    have e2 : hlP G v (List.range k ++ [k]) = hlP G v (List.range k) ++ [hitP G v k] := by simp [hlP]
    rw [e2, srt_insL]
end Go.Proofs.Ytkmngbkghgelfaa
/- How many IDs two lists share: the mathematics, the map's laws, the program's Shared and the document's. -/
namespace Go.Proofs.Ytkmngbkghgelfaa
open Go.Shelf Go.RowKit Go.Lib
open Go.Sort hiding Below
set_option linter.unusedVariables false
set_option linter.unusedSimpArgs false
def addU (s : List Int) (x : Int) : List Int := if x ∈ s then s else s ++ [x]
def uniqI (l : List Int) : List Int := l.foldl addU []
theorem uniqI_snoc (l : List Int) (x : Int) : uniqI (l ++ [x]) = addU (uniqI l) x := by unfold uniqI; rw [List.foldl_append]; rfl
theorem addU_mem {s : List Int} {x y : Int} : y ∈ addU s x ↔ y ∈ s ∨ y = x := by
  unfold addU
  split
  · rename_i h
    constructor
    · exact .inl
    · rintro (h1 | rfl)
      · exact h1
      · exact h
  · simp
theorem addU_nd {s : List Int} (h : s.Nodup) (x : Int) : (addU s x).Nodup := by
  unfold addU
  split
  · exact h
  · rename_i hc
    rw [List.nodup_append]
    exact ⟨h, by simp, fun a ha b hb => by rw [List.mem_singleton] at hb; subst hb; exact fun e => hc (e ▸ ha)⟩
theorem uniq_mem (y : Int) : ∀ (l s : List Int), y ∈ l.foldl addU s ↔ y ∈ s ∨ y ∈ l
  | [], s => by simp
  | x :: l, s => by
    rw [List.foldl_cons, uniq_mem y l, addU_mem]
    simp only [List.mem_cons, or_assoc]
theorem uniq_nd : ∀ (l s : List Int), s.Nodup → (l.foldl addU s).Nodup
  | [], s, h => h
  | x :: l, s, h => uniq_nd l _ (addU_nd h x)
theorem uniqI_mem {y : Int} {l : List Int} : y ∈ uniqI l ↔ y ∈ l := by unfold uniqI; rw [uniq_mem]; simp
theorem uniqI_nd (l : List Int) : (uniqI l).Nodup := uniq_nd l [] List.nodup_nil
theorem addU_len (s : List Int) (x : Int) : (addU s x).length ≤ s.length + 1 := by unfold addU; split <;> simp
theorem uniq_len : ∀ (l s : List Int), (l.foldl addU s).length ≤ s.length + l.length
  | [], s => by simp
  | x :: l, s => by have := uniq_len l (addU s x); have := addU_len s x; simp at *; omega
theorem uniqI_len (l : List Int) : (uniqI l).length ≤ l.length := by have := uniq_len l []; unfold uniqI; simpa using this
/-- How many numbers stand in both lists. -/
def shN (a b : List Int) : Nat := ((uniqI a).filter (fun x => decide (x ∈ b))).length
theorem shN_comm (a b : List Int) : shN a b = shN b a := by
  unfold shN
  refine (List.Perm.length_eq ((List.perm_ext_iff_of_nodup ((uniqI_nd a).sublist List.filter_sublist) ((uniqI_nd b).sublist List.filter_sublist)).2 fun x => ?_))
  simp only [List.mem_filter, uniqI_mem, decide_eq_true_eq]
  exact And.comm
theorem fl_split {α : Type} (p : α → Bool) : ∀ l : List α, (l.filter p).length + (l.filter (fun x => !p x)).length = l.length
  | [] => rfl
  | x :: l => by
    have := fl_split p l
    cases h : p x <;> simp [h] <;> omega
theorem shN_rest (a b : List Int) : (uniqI a).length - ((uniqI a).filter (fun x => !decide (x ∈ b))).length = shN a b := by
  have := fl_split (fun x => decide (x ∈ b)) (uniqI a)
  unfold shN; omega
theorem shN_snoc (a b : List Int) (x : Int) : shN (a ++ [x]) b = shN a b + if x ∉ a ∧ x ∈ b then 1 else 0 := by
  unfold shN
  rw [uniqI_snoc]
  unfold addU
  by_cases h : x ∈ a
  · rw [if_pos (uniqI_mem.2 h), if_neg (by simp [h])]; rfl
  · rw [if_neg (by rw [uniqI_mem]; exact h), List.filter_append, List.length_append]
    by_cases hb : x ∈ b <;> simp [h, hb]
theorem shN_le (a b : List Int) : shN a b ≤ a.length := Nat.le_trans (List.length_filter_le _ _) (uniqI_len a)
theorem MapIs.add {w : World} {fm : Nat} {l : List Int} (h : MapIs w fm l) {x : Int} (hx : (Lit.int .u64 x).wf = true) (hs : l.length < 1000000) :
    ∃ w', (Instr.mapUpdate 65 (.map (some fm)) (.int .u64 x) (.agg #[])).run Try.prog w = .ok () w' ∧ MapIs w' fm (addU l x) ∧ Turn [fm] w w' := by
  unfold addU
  by_cases hm : x ∈ l
  · rw [if_pos hm]
    obtain ⟨D, h1, h2, h3⟩ := h
    obtain ⟨w', hr, ho, ht⟩ := h1.store kLaw Try.underlying65 (by unfold maxLen; omega) (kOf hx) (unitElem_mk (H := Unit))
    have hsz : Maps.size (D.put (.int .u64 x) (.agg [])) = l.length := by rw [Maps.size_put (h1.tidy kLaw), h2 x, h3]; simp [hm]
    refine ⟨w', hr, ⟨_, by rw [← hsz]; exact own_tight ho, fun y => ?_, hsz⟩, turn_map ht⟩
    by_cases e : y = x
    · subst e
      rw [Maps.has_put_same h1.isMap (kLaw.key (kOf hx))]
      simp [hm]
    · rw [Maps.has_put_other (by simpa using e), h2 y]
  · rw [if_neg hm]; exact h.store hx hm hs
theorem MapIs.del {w : World} {fm : Nat} {l : List Int} (h : MapIs w fm l) {x : Int} (hx : (Lit.int .u64 x).wf = true) (hn : l.Nodup) (ty : TypeId) :
    ∃ w', (Builtin.delete_ #[65, 44] ty #[.map (some fm), .int .u64 x]).run Try.prog w = .ok (.tuple #[]) w' ∧ MapIs w' fm (l.filter (fun y => !decide (y = x))) ∧ Turn [fm] w w' := by
  by_cases hm : x ∈ l
  · refine h.drop hx ?_ hn ty
    have e : l.filter (fun y => !decide (y = x)) = l.erase x := by
      rw [hn.erase_eq_filter]
      congr 1
    rw [e]
    exact (List.perm_cons_erase hm).symm
  · have e : l.filter (fun y => !decide (y = x)) = l := by
      rw [List.filter_eq_self]
      intro y hy
      have : y ≠ x := fun q => hm (q ▸ hy)
      simp [this]
    rw [e]
    obtain ⟨D, h1, h2, h3⟩ := h
    obtain ⟨w', hr, ho, ht⟩ := h1.drop kLaw Try.underlying65 (kOf hx) ty
    have hsz : Maps.size (D.del (.int .u64 x)) = l.length := by
      have := Maps.size_del (h1.tidy kLaw) (k := .int .u64 x)
      rw [h2 x, h3] at this
      simp [hm] at this
      exact this
    refine ⟨w', hr, ⟨_, by rw [← hsz]; exact own_tight ho, fun y => ?_, hsz⟩, turn_map ht⟩
    by_cases e : y = x
    · subst e
      rw [Maps.has_del_same]
      simp [hm]
    · rw [Maps.has_del_other (by simpa using e), h2 y]
theorem MapIs.len {w : World} {fm : Nat} {l : List Int} (h : MapIs w fm l) (ty : TypeId) : (Builtin.len_ #[65] ty #[.map (some fm)]).run Try.prog w = .ok (.int .i64 (l.length : Int)) w := by
  obtain ⟨D, h1, h2, h3⟩ := h
  rw [← h3]
  exact h1.len Try.underlying65 ty
theorem ids_tk {xs : HL} {k : Nat} {x y : Int} (h : xs[k]? = some (x, y)) : ids (xs.take (k + 1)) = ids (xs.take k) ++ [x] := by
  rw [List.take_add_one, h]; simp [ids]
theorem filter_tk (l b : List Int) (x : Int) : (l.filter (fun y => !decide (y ∈ b))).filter (fun y => !decide (y = x)) = l.filter (fun y => !decide (y ∈ b ++ [x])) := by
  rw [List.filter_filter]
  congr 1
  funext y
  by_cases h1 : y = x <;> by_cases h2 : y ∈ b <;> simp [h1, h2]
theorem turn_belowN {A : List Nat} {w0 w w' : World} {B : Nat} (hb : Below B w0 w) (h : Turn A w w') (hA : ∀ a ∈ A, B ≤ a) (hs : B ≤ w.heap.size) : Below B w0 w' := hb.trans (h.below hA hs)
set_option maxRecDepth 100000 in
set_option maxHeartbeats 4000000 in
theorem shared_any (A B : Option Addr) (c d : Nat) (xs ys : HL) (n m : Nat) (hn : n = xs.length) (hm : m = ys.length) (w : World) (hx : RdH w w.heap.size A xs) (hy : RdH w w.heap.size B ys) (ok : ∀ x ∈ xs, HitOk x) (ok2 : ∀ x ∈ ys, HitOk x) (hl : xs.length ≤ 100000) (hl2 : ys.length ≤ 100000) :
    Calls Try.prog 14 #[.slice A n c, .slice B m d] w fun e w' => e = .returned (.int .i64 ((shN (ids xs) (ids ys) : Nat) : Int)) ∧ Below w.heap.size w w' := by
  subst hn hm
  have HX := Lib.hid hx
  have HY := Lib.hid hy
  have HO := Lib.hid ok
  have HO2 := Lib.hid ok2
  have HM := Lib.hid (MapIs.made w)
  have HB0 := Lib.hid (below_one (Below.refl w.heap.size w) (.map #[] 0))
  clear hx hy ok ok2
  have hmk := @run_makeMap Try.prog
  go_enter Try.func14, Try.ntmps14
  go_wp2
  obtain ⟨w1, ew1⟩ : ∃ w1, w.alloc (.map #[] 0) = w1 := ⟨_, rfl⟩
  obtain ⟨fm, efm⟩ : ∃ fm, w.heap.size = fm := ⟨_, rfl⟩
  have HFM := Lib.hid efm
  rw [ew1, efm] at HM
  rw [ew1] at HB0
  rw [ew1, efm]
  clear ew1 efm hmk
  go_loopw [7, 14] (fun _ i wr => ∃ k : Nat, k ≤ xs.length ∧ i = .int .i64 k ∧ Hid (Below w.heap.size w wr) ∧ Hid (MapIs wr fm (uniqI (ids (xs.take k))))) (fun _ i _ => xs.length - (intOf i).toNat)
  case atStart => exact ⟨0, by omega, rfl, HB0, HM⟩
  case round =>
    clear HB0 HM
    obtain ⟨k, hk, rfl, HB, HM⟩ := hrel
    by_cases hlt : k < xs.length
    · have e1 : decide ((k : Int) < (xs.length : Int)) = true := decide_eq_true (by omega)
      obtain ⟨b, off, x, y, rfl, hBb, h1, h2, hv⟩ := HX.out.at_ hlt
      have h1' : wr.cell? ⟨b, off + k * 2, none⟩ = some (.int .u64 x) := (HB.out.cell (p := ⟨b, off + k * 2, none⟩) hBb).trans h1
      have h2' : wr.cell? ⟨b, off + k * 2 + 1, none⟩ = some (.int .i64 y) := (HB.out.cell (p := ⟨b, off + k * 2 + 1, none⟩) hBb).trans h2
      have x1 : (0 : Int) ≤ (k : Int) := by omega
      have x2 : (k : Int) < (xs.length : Int) := by omega
      have HT := Lib.hid (ids_tk hv.out)
      have HBX := Lib.hid (below_one (Below.refl wr.heap.size wr) (.cells #[.int .u64 x, .int .i64 y] 46))
      obtain ⟨w3, hput, hM3, ht3⟩ := (HM.out.turn (Turn.of_below HBX.out) (by simp)).add (HO.out _ (List.mem_of_getElem? hv.out)).1 (by have := uniqI_len (ids (xs.take k)); simp [ids] at this ⊢; omega)
      have HM3 : Hid (MapIs w3 fm (uniqI (ids (xs.take (k + 1))))) := Lib.hid (by rw [HT.out, uniqI_snoc]; exact hM3)
      have HB3 := Lib.hid (turn_belowN (HB.out.trans (HBX.out.mono HB.out.size)) ht3 (by simp [HFM.out]) (Nat.le_trans HB.out.size HBX.out.size))
      clear h1 h2 hv hM3 ht3 HM
      go_wp2
      go_roundw
      case rel => exact ⟨k + 1, by omega, by go_num, HB3, HM3⟩
      case measure => simp [intOf]; omega
    · obtain rfl : k = xs.length := by omega
      have e1 : decide ((xs.length : Int) < (xs.length : Int)) = false := decide_eq_false (by omega)
      rw [List.take_length] at HM
      have hlen := HM.out.len
      have hle : (uniqI (ids xs)).length ≤ 100000 := by have := uniqI_len (ids xs); simp [ids] at this ⊢; omega
      obtain ⟨U, eU⟩ : ∃ U, (uniqI (ids xs)).length = U := ⟨_, rfl⟩
      have HU := Lib.hid eU
      rw [eU] at hlen hle
      clear eU
      have HM2 : Hid (MapIs wr fm ((uniqI (ids xs)).filter (fun y => !decide (y ∈ ids (ys.take 0))))) := Lib.hid (by
        have : (uniqI (ids xs)).filter (fun y => !decide (y ∈ ids (ys.take 0))) = uniqI (ids xs) := by rw [List.filter_eq_self]; simp [ids]
        rw [this]; exact HM.out)
      have HBr := Lib.hid HB.out
      clear HM
      go_wp2
      go_loopw [10, 27] (fun _ i ws => ∃ k : Nat, k ≤ ys.length ∧ i = .int .i64 k ∧ Hid (Below w.heap.size w ws) ∧ Hid (MapIs ws fm ((uniqI (ids xs)).filter (fun y => !decide (y ∈ ids (ys.take k)))))) (fun _ i _ => ys.length - (intOf i).toNat)
      case atStart => exact ⟨0, by omega, rfl, HBr, HM2⟩
      case round =>
        clear HBr HM2 hlen
        obtain ⟨k, hk, rfl, HB, HM⟩ := hrel
        by_cases hlt : k < ys.length
        · have e2 : decide ((k : Int) < (ys.length : Int)) = true := decide_eq_true (by omega)
          obtain ⟨b, off, x, y, rfl, hBb, h1, h2, hv⟩ := HY.out.at_ hlt
          have h1' : wr.cell? ⟨b, off + k * 2, none⟩ = some (.int .u64 x) := (HB.out.cell (p := ⟨b, off + k * 2, none⟩) hBb).trans h1
          have h2' : wr.cell? ⟨b, off + k * 2 + 1, none⟩ = some (.int .i64 y) := (HB.out.cell (p := ⟨b, off + k * 2 + 1, none⟩) hBb).trans h2
          have x1 : (0 : Int) ≤ (k : Int) := by omega
          have x2 : (k : Int) < (ys.length : Int) := by omega
          have HT := Lib.hid (ids_tk hv.out)
          have HBX := Lib.hid (below_one (Below.refl wr.heap.size wr) (.cells #[.int .u64 x, .int .i64 y] 46))
          obtain ⟨w3, hdel, hM3, ht3⟩ := (HM.out.turn (Turn.of_below HBX.out) (by simp)).del (HO2.out _ (List.mem_of_getElem? hv.out)).1 ((uniqI_nd (ids xs)).sublist List.filter_sublist) 0
          have HM3 : Hid (MapIs w3 fm ((uniqI (ids xs)).filter (fun y => !decide (y ∈ ids (ys.take (k + 1)))))) := Lib.hid (by rw [HT.out, ← filter_tk]; exact hM3)
          have HB3 := Lib.hid (turn_belowN (HB.out.trans (HBX.out.mono HB.out.size)) ht3 (by simp [HFM.out]) (Nat.le_trans HB.out.size HBX.out.size))
          clear h1 h2 hv hM3 ht3 HM
          go_wp2_with (at_builtin; refine wpList_delete_run rfl _ _ 65 44 rfl _ _ rfl rfl w3 hdel ?_)
          go_roundw
          case rel => exact ⟨k + 1, by omega, by go_num, HB3, HM3⟩
          case measure => simp [intOf]; omega
        · obtain rfl : k = ys.length := by omega
          have e2 : decide ((ys.length : Int) < (ys.length : Int)) = false := decide_eq_false (by omega)
          rw [List.take_length] at HM
          have hlen2 := HM.out.len
          have HR := Lib.hid (shN_rest (ids xs) (ids ys))
          have hle2 := List.length_filter_le (fun y => !decide (y ∈ ids ys)) (uniqI (ids xs))
          rw [HU.out] at HR hle2
          obtain ⟨V, eV⟩ : ∃ V, ((uniqI (ids xs)).filter (fun y => !decide (y ∈ ids ys))).length = V := ⟨_, rfl⟩
          rw [eV] at hlen2 HR hle2
          clear eV
          go_wp2
          go_ret
          refine ⟨?_, HB.out⟩
          rw [← HR.out]
          go_num
end Go.Proofs.Ytkmngbkghgelfaa
