/- Several texts in one. -/
import Derived.Test.YtkmngbkghgelfaaGreatOw
import Derived.Laws.OwnMore
import Derived.Deep.Draws
import Derived.Laws.Rows
import Derived.OwnWalk
import Derived.WalkKit
import Derived.Test.YtkmngbkghgelfaaGreatProg
import Derived.WalkSpells
import Derived.WalkLawsBesides
import Derived.Below
import Derived.Lib.Hide
import Derived.Sort.Grow
/- Words for the Book of the statements: the entries of one kind, what a phase keeps, elements of any number of cells. Over any program. -/
namespace Go.Proofs.YtkmngbkghgelfaaGreat
open Go.RowKit
set_option linter.unusedVariables false
namespace Bk
/-- n times the cells m. -/
def reps (n : Nat) (m : List Value) : List Value := (List.replicate n m).flatten
theorem reps_len (n : Nat) (m : List Value) : (reps n m).length = n * m.length := by unfold reps; simp
theorem reps_succ (n : Nat) (m : List Value) : reps (n + 1) m = m ++ reps n m := by unfold reps; simp [List.replicate_succ]
theorem reps_get (m : List Value) : ∀ (n i : Nat), i < n * m.length → (reps n m)[i]? = m[i % m.length]?
  | 0, i, h => by simp at h
  | n + 1, i, h => by
    rw [reps_succ]
    rcases Nat.lt_or_ge i m.length with h1 | h1
    · rw [List.getElem?_append_left h1, Nat.mod_eq_of_lt h1]
    · rw [List.getElem?_append_right h1, reps_get m n (i - m.length) (by rw [Nat.add_mul] at h; omega), Nat.mod_eq_sub_mod h1]
theorem reps_snoc (n c : Nat) (m : List Value) : reps (n + c) m ++ m = reps (n + (c + 1)) m := by
  unfold reps
  rw [← Nat.add_assoc, List.replicate_succ', List.flatten_append]; simp
theorem reps_take (n c : Nat) (m : List Value) : (reps (n + c) m).take (n * m.length) = reps n m := by
  unfold reps
  rw [← List.replicate_append_replicate, List.flatten_append, List.take_left' (by simp)]
theorem reps_one (n : Nat) (v : Value) : reps n [v] = List.replicate n v := by
  induction n with
  | zero => rfl
  | succ n ih => rw [reps_succ, ih, List.replicate_succ]; rfl
/-- An entry: a list that is kept, and its number. -/
structure Ent where
  A : Option Addr
  len : Nat
  cap : Nat
  num : Nat
def Ent.val (e : Ent) : Value := .slice e.A e.len e.cap
def Ent.blk (e : Ent) : Option Nat := e.val.ownBlock

/-- Block k is cells of a type other than t. -/
def Other (w : World) (t : TypeId) (k : Nat) : Prop := ∃ cur T mk, w.heap[k]? = some (.cells cur T mk) ∧ T ≠ t
/-- Only blocks of the element type t, from base on, and new ones, may have turned. -/
structure Frm (base : Nat) (t : TypeId) (w w' : World) : Prop where
  below : Below base w w'
  block : ∀ k, k < w.heap.size → Other w t k → w'.heap[k]? = w.heap[k]?
theorem Frm.refl (base : Nat) (t : TypeId) (w : World) : Frm base t w w := ⟨Below.refl _ _, fun _ _ _ => rfl⟩
theorem Other.lt {w : World} {t : TypeId} {k : Nat} (h : Other w t k) : k < w.heap.size := by
  obtain ⟨cur, T, mk, h, _⟩ := h
  exact (Array.getElem?_eq_some_iff.1 h).1
theorem Other.of {w w' : World} {t : TypeId} {k : Nat} (h : Other w t k) (e : w'.heap[k]? = w.heap[k]?) : Other w' t k := by
  obtain ⟨cur, T, mk, h, n⟩ := h
  exact ⟨cur, T, mk, e.trans h, n⟩
theorem Frm.other {base : Nat} {t : TypeId} {w w' : World} (h : Frm base t w w') {k : Nat} (ho : Other w t k) : Other w' t k := ho.of (h.block k ho.lt ho)
theorem Frm.trans {base : Nat} {t : TypeId} {a b c : World} (h : Frm base t a b) (g : Frm base t b c) : Frm base t a c :=
  ⟨h.below.trans g.below, fun k hk ho => by
    have e := h.block k hk ho
    exact (g.block k (by have := h.below.size; omega) (ho.of e)).trans e⟩
theorem Frm.of_below {base : Nat} {t : TypeId} {w w' : World} (h : Below w.heap.size w w') (hb : base ≤ w.heap.size) : Frm base t w w' := ⟨h.mono hb, fun k hk _ => h.block k hk⟩
theorem Frm.of_grown {base : Nat} {t : TypeId} {w w' : World} {g : Nat} (h : w.grownBy w' (some g)) (hb : base ≤ w.heap.size) (hg : base ≤ g) (ht : ∃ cur mk, w.heap[g]? = some (.cells cur t mk)) : Frm base t w w' :=
  ⟨(Below.refl _ _).grown h hb (fun k e => by injection e with e; omega), fun k hk ho => h.block k hk (fun e => by
    injection e with e
    subst e
    obtain ⟨cur, mk, hc⟩ := ht
    obtain ⟨cur', T, mk', hc', hne⟩ := ho
    rw [hc] at hc'
    injection hc' with hc'
    injection hc' with _ hT
    exact hne hT.symm)⟩
theorem Frm.cell {base : Nat} {t : TypeId} {w w' : World} (h : Frm base t w w') {p : Addr} (ho : Other w t p.block) : w'.cell? p = w.cell? p := World.cell?_of_block (h.block p.block ho.lt ho)
theorem Frm.drewN {base : Nat} {t : TypeId} {w w' : World} (h : Frm base t w w') (n : Nat) : Frm base t w (w'.drewN n) := ⟨⟨h.below.os, h.below.tape, h.below.output, h.below.size, h.below.block⟩, h.block⟩
/-- A store. -/
theorem grown_set (w : World) (g c : Nat) (v : Value) : w.grownBy (w.setCell ⟨g, c, none⟩ v) (some g) := ⟨rfl, rfl, rfl, by simp [World.setCell], fun i _ hi => Below.heap_setCell _ _ _ _ (fun e => hi (by rw [e]))⟩
theorem type_set {w : World} {g : Nat} {t : TypeId} (c : Nat) (v : Value) (h : ∃ cur, w.heap[g]? = some (.cells cur t (0, 0))) : ∃ cur, (w.setCell ⟨g, c, none⟩ v).heap[g]? = some (.cells cur t (0, 0)) := by
  obtain ⟨cur, h⟩ := h
  exact ⟨_, heap_setCell_same w g c cur t v h⟩
theorem Frm.set {base : Nat} {t : TypeId} {w w' : World} (h : Frm base t w w') (hb : base ≤ w.heap.size) {g : Nat} (hg : base ≤ g) (ht : ∃ cur, w'.heap[g]? = some (.cells cur t (0, 0))) (c : Nat) (v : Value) : Frm base t w (w'.setCell ⟨g, c, none⟩ v) := by
  obtain ⟨cur, ht⟩ := ht
  exact h.trans (Frm.of_grown (grown_set _ _ _ _) (by have := h.below.size; omega) hg ⟨_, _, ht⟩)

/-- A row of the call's own, its block. -/
theorem own_parts {w : World} {base e size n cap : Nat} {A : Option Addr} {xs : List Value} (h : w.ownsRow base e size (.slice A n cap) n xs) (hn : 0 < n) : ∃ g cur, A = some ⟨g, 0, none⟩ ∧ base ≤ g ∧ w.heap[g]? = some (.cells cur e (0, 0)) := by
  rcases h.2 with ⟨_, h0⟩ | ⟨g, cap', cur, hv, hb, hg, _⟩
  · omega
  · injection hv with h1
    exact ⟨g, cur, h1, hb, hg⟩
/-- What an entry's list holds: all its elements are the cells m. -/
def Full (w : World) (base : Nat) (t : TypeId) (s : Nat) (e : Ent) (m : List Value) : Prop := w.ownsRow base t s e.val e.len (reps e.len m)
/-- The entries' lists are the call's own, and apart; those ahead of k are filled. -/
structure Lists (w : World) (base : Nat) (t : TypeId) (s : Nat) (es : List Ent) (mk : Nat → List Value) (k : Nat) : Prop where
  own : ∀ j e, es[j]? = some e → ∃ xs, w.ownsRow base t s e.val e.len xs ∧ (j < k → xs = reps e.len (mk e.num))
  apart : ∀ (i j : Nat) (e e' : Ent), i ≠ j → es[i]? = some e → es[j]? = some e' → e.blk = none ∨ e.blk ≠ e'.blk
theorem Lists.kept {w w' : World} {base : Nat} {t : TypeId} {s : Nat} {es : List Ent} {mk : Nat → List Value} {k : Nat} (h : Lists w base t s es mk k) (hb : Below w.heap.size w w') : Lists w' base t s es mk k :=
  ⟨fun j e hj => by
    obtain ⟨xs, h1, h2⟩ := h.own j e hj
    refine ⟨xs, h1.kept (row := none) ⟨hb.os, hb.tape, hb.output, hb.size, fun k hk _ => hb.block k hk⟩ ?_, h2⟩
    cases hv : e.val.ownBlock with
    | none => exact .inl rfl
    | some g => exact .inr (by simp), h.apart⟩
theorem Lists.drewN {w : World} {base : Nat} {t : TypeId} {s : Nat} {es : List Ent} {mk : Nat → List Value} {k : Nat} (h : Lists w base t s es mk k) (n : Nat) : Lists (w.drewN n) base t s es mk k := ⟨h.own, h.apart⟩
/-- A store into the k-th list: the others stay. -/
theorem Lists.stored {w : World} {base : Nat} {t : TypeId} {s : Nat} {es : List Ent} {mk : Nat → List Value} {k : Nat} {e : Ent} {g c : Nat} {m : Value} (h : Lists w base t s es mk k) (hk : es[k]? = some e) (hA : e.A = some ⟨g, 0, none⟩) :
    Lists (w.setCell ⟨g, c, none⟩ m) base t s es mk k := by
  refine ⟨fun j e' hj => ?_, h.apart⟩
  obtain ⟨xs, h1, h2⟩ := h.own j e' hj
  by_cases hjk : j = k
  · subst hjk
    rw [hk] at hj
    injection hj with hj
    subst hj
    have hv : e.val = .slice (some ⟨g, 0, none⟩) e.len e.cap := by unfold Ent.val; rw [hA]
    rw [hv] at h1 ⊢
    exact ⟨_, (h1.stored c m).1, fun hlt => by omega⟩
  · refine ⟨xs, h1.kept (grown_set _ _ _ _) ?_, h2⟩
    have := h.apart j k e' e hjk hj hk
    rcases this with h3 | h3
    · exact .inl h3
    · refine .inr fun h4 => h3 ?_
      have : e.blk = some g := by unfold Ent.blk Ent.val; rw [hA]; rfl
      rw [this]
      exact h4
theorem Lists.next {w : World} {base : Nat} {t : TypeId} {s : Nat} {es : List Ent} {mk : Nat → List Value} {k : Nat} {e : Ent} (h : Lists w base t s es mk k) (hk : es[k]? = some e) (hf : Full w base t s e (mk e.num)) : Lists w base t s es mk (k + 1) := by
  refine ⟨fun j e' hj => ?_, h.apart⟩
  by_cases hjk : j = k
  · subst hjk
    rw [hk] at hj
    injection hj with hj
    subst hj
    exact ⟨_, hf, fun _ => rfl⟩
  · obtain ⟨xs, h1, h2⟩ := h.own j e' hj
    exact ⟨xs, h1, fun hlt => h2 (by omega)⟩
/-- A list whose cells ahead of k are filled. -/
def Upto (w : World) (base : Nat) (t : TypeId) (s : Nat) (e : Ent) (m : List Value) (k : Nat) : Prop := ∃ xs, w.ownsRow base t s e.val e.len xs ∧ ∀ i, i < k → xs[i]? = m[i % m.length]?
theorem Upto.step {w : World} {base : Nat} {t : TypeId} {s : Nat} {e : Ent} {m : List Value} {k g : Nat} {v : Value} (h : Upto w base t s e m k) (hk : k < e.len * s) (hA : e.A = some ⟨g, 0, none⟩) (hv : m[k % m.length]? = some v) : Upto (w.setCell ⟨g, k, none⟩ v) base t s e m (k + 1) := by
  obtain ⟨xs, h1, h2⟩ := h
  have hw : e.val = .slice (some ⟨g, 0, none⟩) e.len e.cap := by unfold Ent.val; rw [hA]
  have hlen : xs.length = e.len * s := h1.1
  unfold Upto
  rw [hw] at h1 ⊢
  refine ⟨_, (h1.stored k v).1, fun i hi => ?_⟩
  rw [List.getElem?_set]
  by_cases e' : k = i
  · rw [if_pos e']; subst e'; rw [if_pos (by omega), hv]
  · rw [if_neg e']; exact h2 i (by omega)
theorem Upto.full {w : World} {base : Nat} {t : TypeId} {s : Nat} {e : Ent} {m : List Value} (h : Upto w base t s e m (e.len * s)) (hs : m.length = s) : Full w base t s e m := by
  obtain ⟨xs, h1, h2⟩ := h
  have hlen : xs.length = e.len * s := h1.1
  have : xs = reps e.len m := by
    apply List.ext_getElem?
    intro i
    by_cases hi : i < e.len * s
    · rw [h2 i hi, reps_get m _ _ (by rw [hs]; exact hi)]
    · rw [List.getElem?_eq_none (by omega), List.getElem?_eq_none (by rw [reps_len, hs]; omega)]
  unfold Full
  rw [← this]
  exact h1
/-- The row of a kind's entries: each has its list, what it grew to, and its number. -/
def Held (w : World) (h : Nat) (es : List Ent) (lg : Nat → Ent) : Prop :=
  ∀ i e, es[i]? = some e → w.cell? ⟨h, i * 3, none⟩ = some (.slice e.A e.len e.cap) ∧ w.cell? ⟨h, i * 3 + 1, none⟩ = some (.slice (lg i).A (lg i).len (lg i).cap) ∧ w.cell? ⟨h, i * 3 + 2, none⟩ = some (.int .i64 e.num)
/-- Block h is cells of the type T, none frozen. -/
def HB (w : World) (h : Nat) (T : TypeId) : Prop := ∃ cur, w.heap[h]? = some (.cells cur T (0, 0))
theorem HB.lt {w : World} {h : Nat} {T : TypeId} (hb : HB w h T) : h < w.heap.size := by
  obtain ⟨cur, hc⟩ := hb
  exact (Array.getElem?_eq_some_iff.1 hc).1
theorem HB.other {w : World} {h : Nat} {T t : TypeId} (hb : HB w h T) (hne : T ≠ t) : Other w t h := by
  obtain ⟨cur, hc⟩ := hb
  exact ⟨cur, T, _, hc, hne⟩
theorem HB.same {w w' : World} {h : Nat} {T : TypeId} (hb : HB w h T) (e : w'.heap[h]? = w.heap[h]?) : HB w' h T := by
  obtain ⟨cur, hc⟩ := hb
  exact ⟨cur, e.trans hc⟩
theorem HB.frozen {w : World} {h : Nat} {T : TypeId} (hb : HB w h T) (i : Nat) : w.frozen? ⟨h, i, none⟩ = false := by
  obtain ⟨cur, hc⟩ := hb
  simp [World.frozen?, hc]
theorem HB.setCell {w : World} {h : Nat} {T : TypeId} (hb : HB w h T) (i : Nat) (v : Value) : HB (w.setCell ⟨h, i, none⟩ v) h T := by
  obtain ⟨cur, hc⟩ := hb
  exact ⟨cur.setIfInBounds i v, heap_setCell_same w h i cur T v hc⟩
/-- Two blocks of unlike types are two. -/
theorem HB.ne {w : World} {h g : Nat} {T t : TypeId} {cur : Array Value} (hb : HB w h T) (hg : w.heap[g]? = some (.cells cur t (0, 0))) (hne : T ≠ t) : h ≠ g := by
  rintro rfl
  obtain ⟨c, hc⟩ := hb
  rw [hc] at hg
  injection hg with hg
  injection hg with _ hT
  exact hne hT
theorem Held.same {w w' : World} {h : Nat} {es : List Ent} {lg : Nat → Ent} (hh : Held w h es lg) (e : w'.heap[h]? = w.heap[h]?) : Held w' h es lg := by
  intro i x hi
  obtain ⟨a, b, c⟩ := hh i x hi
  exact ⟨(World.cell?_of_block (w := w) e).trans a, (World.cell?_of_block (w := w) e).trans b, (World.cell?_of_block (w := w) e).trans c⟩
/-- Only blocks of the types t and T, from base on, and new ones, may have turned. -/
structure Frm2 (base : Nat) (t T : TypeId) (w w' : World) : Prop where
  below : Below base w w'
  block : ∀ k, k < w.heap.size → Other w t k → Other w T k → w'.heap[k]? = w.heap[k]?
theorem Frm2.refl (base : Nat) (t T : TypeId) (w : World) : Frm2 base t T w w := ⟨Below.refl _ _, fun _ _ _ _ => rfl⟩
theorem Frm2.trans {base : Nat} {t T : TypeId} {a b c : World} (h : Frm2 base t T a b) (g : Frm2 base t T b c) : Frm2 base t T a c :=
  ⟨h.below.trans g.below, fun k hk h1 h2 => by
    have e := h.block k hk h1 h2
    exact (g.block k (by have := h.below.size; omega) (h1.of e) (h2.of e)).trans e⟩
theorem Frm2.of_grown {base : Nat} {t T : TypeId} {w w' : World} {row : Option Nat} (h : w.grownBy w' row) (hb : base ≤ w.heap.size) (hg : ∀ r, row = some r → base ≤ r ∧ (HB w r t ∨ HB w r T)) : Frm2 base t T w w' :=
  ⟨(Below.refl _ _).grown h hb (fun k e => (hg k e).1), fun k hk h1 h2 => h.block k hk (fun e => by
    rcases (hg k e.symm).2 with ⟨cur, hc⟩ | ⟨cur, hc⟩
    · obtain ⟨cur', T', mk', hc', hne⟩ := h1
      rw [hc] at hc'; injection hc' with hc'; injection hc' with _ hT; exact hne hT.symm
    · obtain ⟨cur', T', mk', hc', hne⟩ := h2
      rw [hc] at hc'; injection hc' with hc'; injection hc' with _ hT; exact hne hT.symm)⟩
theorem Frm2.cell {base : Nat} {t T : TypeId} {w w' : World} (h : Frm2 base t T w w') {p : Addr} (h1 : Other w t p.block) (h2 : Other w T p.block) : w'.cell? p = w.cell? p := World.cell?_of_block (h.block p.block h1.lt h1 h2)
/-- While the lists grow: each is full; those ahead of k have grown by 40. -/
structure Grown3 (W0 w : World) (base : Nat) (t : TypeId) (s : Nat) (es : List Ent) (mk : Nat → List Value) (lg : Nat → Ent) (k : Nat) : Prop where
  full : ∀ (j : Nat) (e : Ent), es[j]? = some e → Full w base t s e (mk e.num)
  long : ∀ (j : Nat) (e : Ent), es[j]? = some e → j < k → (lg j).len = e.len + 40 ∧ w.ownsRow base t s (lg j).val (e.len + 40) (reps (e.len + 40) (mk e.num)) ∧ ((lg j).blk = e.blk ∨ ∃ b, (lg j).blk = some b ∧ W0.heap.size ≤ b)
  apart : ∀ (i j : Nat) (e e' : Ent), i ≠ j → es[i]? = some e → es[j]? = some e' → e.blk = none ∨ e.blk ≠ e'.blk
  old : ∀ (j : Nat) (e : Ent), es[j]? = some e → ∀ b, e.blk = some b → b < W0.heap.size
theorem Grown3.step {W0 w w' : World} {base : Nat} {t : TypeId} {s : Nat} {es : List Ent} {mk : Nat → List Value} {lg : Nat → Ent} {k : Nat} {row : Option Nat} (h : Grown3 W0 w base t s es mk lg k) (hg : w.grownBy w' row)
    (h1 : ∀ (j : Nat) (e : Ent), es[j]? = some e → j ≠ k → e.blk = none ∨ e.blk ≠ row) (h2 : ∀ (e : Ent), es[k]? = some e → Full w' base t s e (mk e.num)) (h3 : ∀ (j : Nat) (e : Ent), es[j]? = some e → j < k → (lg j).blk = none ∨ (lg j).blk ≠ row) :
    Grown3 W0 w' base t s es mk lg k := by
  refine ⟨fun j e hj => ?_, fun j e hj hjk => ?_, h.apart, h.old⟩
  · by_cases hjk : j = k
    · subst hjk; exact h2 e hj
    · exact (h.full j e hj).kept hg (h1 j e hj hjk)
  · obtain ⟨a, b, c⟩ := h.long j e hj hjk
    exact ⟨a, b.kept hg (h3 j e hj hjk), c⟩
theorem Grown3.below {W0 w w' : World} {base : Nat} {t : TypeId} {s : Nat} {es : List Ent} {mk : Nat → List Value} {lg : Nat → Ent} {k : Nat} (h : Grown3 W0 w base t s es mk lg k) (hg : w.grownBy w' none) : Grown3 W0 w' base t s es mk lg k := by
  have aux : ∀ o : Option Nat, o = none ∨ o ≠ none := fun o => by cases o <;> simp
  exact h.step hg (fun j e _ _ => aux _) (fun e he => (h.full k e he).kept hg (aux _)) (fun j e _ _ => aux _)
/-- A store into a block of another type: all rows stay. -/
theorem own_other {w : World} {base : Nat} {t T : TypeId} {size n h i : Nat} {v u : Value} {xs : List Value} (ho : w.ownsRow base t size v n xs) (hb : HB w h T) (hne : T ≠ t) : (w.setCell ⟨h, i, none⟩ u).ownsRow base t size v n xs := by
  refine ho.kept (grown_set _ _ _ _) ?_
  rcases ho.2 with ⟨rfl, _⟩ | ⟨g, cap, cur, rfl, _, hg, _⟩
  · exact .inl rfl
  · refine .inr fun e => ?_
    have : g = h := by simpa [Value.ownBlock] using e
    exact hb.ne hg hne this.symm
theorem Grown3.stored {W0 w : World} {base : Nat} {t T : TypeId} {s : Nat} {es : List Ent} {mk : Nat → List Value} {lg : Nat → Ent} {k h i : Nat} {u : Value} (hG : Grown3 W0 w base t s es mk lg k) (hb : HB w h T) (hne : T ≠ t) : Grown3 W0 (w.setCell ⟨h, i, none⟩ u) base t s es mk lg k :=
  ⟨fun j e hj => own_other (hG.full j e hj) hb hne, fun j e hj hjk => by
    obtain ⟨a, b, c⟩ := hG.long j e hj hjk
    exact ⟨a, own_other b hb hne, c⟩, hG.apart, hG.old⟩
theorem Grown3.next {W0 w : World} {base : Nat} {t : TypeId} {s : Nat} {es : List Ent} {mk : Nat → List Value} {lg : Nat → Ent} {k : Nat} {e L : Ent} (hG : Grown3 W0 w base t s es mk lg k) (he : es[k]? = some e) (hl : L.len = e.len + 40)
    (ho : w.ownsRow base t s L.val (e.len + 40) (reps (e.len + 40) (mk e.num))) (hb : L.blk = e.blk ∨ ∃ b, L.blk = some b ∧ W0.heap.size ≤ b) :
    Grown3 W0 w base t s es mk (fun j => if j = k then L else lg j) (k + 1) := by
  refine ⟨hG.full, fun j e' hj hjk => ?_, hG.apart, hG.old⟩
  by_cases h : j = k
  · subst h
    rw [he] at hj
    injection hj with hj
    subst hj
    simp only [if_pos]
    exact ⟨hl, ho, hb⟩
  · simp only [if_neg h]
    exact hG.long j e' hj (by omega)
theorem Held.stored {w : World} {h : Nat} {es : List Ent} {lg : Nat → Ent} {k : Nat} {e L : Ent} (hh : Held w h es lg) (he : es[k]? = some e) : Held (w.setCell ⟨h, k * 3 + 1, none⟩ (.slice L.A L.len L.cap)) h es (fun j => if j = k then L else lg j) := by
  intro i x hi
  obtain ⟨a, b, c⟩ := hh i x hi
  refine ⟨?_, ?_, ?_⟩
  · rw [World.cell?_setCell_other _ _ _ _ (fun e => by injection e with _ e; omega)]; exact a
  · by_cases hik : i = k
    · subst hik
      simp only [if_pos]
      exact World.cell?_setCell_same' _ _ _ (by rw [b]; rfl)
    · simp only [if_neg hik]
      rw [World.cell?_setCell_other _ _ _ _ (fun e => by injection e with _ e; omega)]; exact b
  · rw [World.cell?_setCell_other _ _ _ _ (fun e => by injection e with _ e; omega)]; exact c
/-- A longer row's beginning. -/
theorem own_shrink {w : World} {base : Nat} {t : TypeId} {s : Nat} {A : Option Addr} {n c cap : Nat} {m : List Value} (hs : m.length = s) (h : w.ownsRow base t s (.slice A (n + c) cap) (n + c) (reps (n + c) m)) : w.ownsRow base t s (.slice A n cap) n (reps n m) := by
  refine ⟨by rw [reps_len, hs], ?_⟩
  rcases h.2 with ⟨hv, h0⟩ | ⟨g, cap', cur, hv, hb, hg, h1, h2, h3, h4⟩
  · injection hv with q1 q2 q3
    exact .inl ⟨by rw [q1, q3, show n = 0 by omega], by omega⟩
  · injection hv with q1 _ q3
    refine .inr ⟨g, cap', cur, by rw [q1, q3], hb, hg, by omega, h2, h3, ?_⟩
    have := congrArg (List.take (n * s)) h4
    rw [List.take_take, Nat.min_eq_left (by rw [Nat.add_mul]; omega)] at this
    rw [this, ← hs, reps_take]
/-- A row's first c elements. -/
theorem own_take {w : World} {base : Nat} {t : TypeId} {s : Nat} {A : Option Addr} {n c cap : Nat} {xs : List Value} (hx : c ≤ n) (h : w.ownsRow base t s (.slice A n cap) n xs) : w.ownsRow base t s (.slice A c cap) c (xs.take (c * s)) := by
  have hcs : c * s ≤ n * s := Nat.mul_le_mul_right s hx
  refine ⟨by rw [List.length_take, h.1]; omega, ?_⟩
  rcases h.2 with ⟨hv, h0⟩ | ⟨g, cap', cur, hv, hb, hg, h1, h2, h3, h4⟩
  · injection hv with q1 q2 q3
    exact .inl ⟨by rw [q1, q3]; simp; omega, by omega⟩
  · injection hv with q1 q2 q3
    subst q1 q3
    refine .inr ⟨g, cap, cur, rfl, hb, hg, by omega, h2, h3, ?_⟩
    rw [← h4, List.take_take, Nat.min_eq_left hcs]
theorem own_parts' {w : World} {base e size n cap : Nat} {A : Option Addr} {xs : List Value} (h : w.ownsRow base e size (.slice A n cap) n xs) (hn : 0 < cap) : ∃ g cur, A = some ⟨g, 0, none⟩ ∧ base ≤ g ∧ w.heap[g]? = some (.cells cur e (0, 0)) := by
  rcases h.2 with ⟨hv, h0⟩ | ⟨g, cap', cur, hv, hb, hg, _⟩
  · injection hv with _ _ h3; omega
  · injection hv with h1
    exact ⟨g, cur, h1, hb, hg⟩
theorem own_base {w : World} {b b' e size n : Nat} {v : Value} {xs : List Value} (h : w.ownsRow b e size v n xs) (hb : b' ≤ b) : w.ownsRow b' e size v n xs := by
  refine ⟨h.1, ?_⟩
  rcases h.2 with h1 | ⟨g, cap, cur, h1, h2, r⟩
  · exact .inl h1
  · exact .inr ⟨g, cap, cur, h1, by omega, r⟩
theorem own_nil {w : World} {base e size n cap : Nat} {A : Option Addr} {xs : List Value} (h : w.ownsRow base e size (.slice A n cap) n xs) : A = none → n = 0 ∧ cap = 0 := by
  rintro rfl
  rcases h.2 with ⟨hv, h0⟩ | ⟨g, cap', cur, hv, _⟩
  · injection hv with _ _ h3; exact ⟨h0, h3⟩
  · cases hv
theorem own_olds {w : World} {base e n s cap : Nat} {A : Option Addr} {xs : List Value} (h : w.ownsRow base e s (.slice A n cap) n xs) : ∀ b, A = some b → ∀ j u, xs[j]? = some u → w.cell? (b.add j) = some u := by
  rintro b rfl j u hu
  rcases h.2 with ⟨hv, h0⟩ | ⟨g, cap', cur, hv, _⟩
  · cases hv
  · injection hv with h1 _ h3
    injection h1 with h1
    subst h1 h3
    have hj : j < n * s := by
      rcases Nat.lt_or_ge j (n * s) with h2 | h2
      · exact h2
      · rw [List.getElem?_eq_none (by rw [h.1]; exact h2)] at hu; cases hu
    have := h.cellAt j hj
    have ea : (⟨g, 0, none⟩ : Addr).add j = ⟨g, j, none⟩ := by unfold Addr.add; split <;> simp_all
    rw [ea, this, hu]
/-- A cell of a row that is full. -/
theorem reps_cell {w : World} {base t s n cap : Nat} {A : Option Addr} {m : List Value} (hs : m.length = s) (h : w.ownsRow base t s (.slice A n cap) n (reps n m)) {c : Nat} (hc : c < n) :
    ∃ b, A = some ⟨b, 0, none⟩ ∧ b < w.heap.size ∧ ∀ j, j < s → w.cell? ⟨b, c * s + j, none⟩ = m[j]? := by
  obtain ⟨g, cur, rfl, hb, hg⟩ := own_parts h (by omega)
  refine ⟨g, rfl, (Array.getElem?_eq_some_iff.1 hg).1, fun j hj => ?_⟩
  have hlt : c * s + j < n * s := by
    have : (c + 1) * s ≤ n * s := Nat.mul_le_mul_right s (by omega)
    rw [Nat.add_mul] at this; omega
  rw [h.cellAt _ hlt, reps_get m n _ (by rw [hs]; exact hlt), hs, Nat.mul_comm c s, Nat.mul_add_mod, Nat.mod_eq_of_lt hj]
/-- What stands between two rounds of growing one list. -/
structure Mid (base : Nat) (t T : TypeId) (s : Nat) (es : List Ent) (mk : Nat → List Value) (lg : Nat → Ent) (k h B : Nat) (box : Obj) (w w2 : World) : Prop where
  frm : Frm2 base t T w w2
  hb : HB w2 h T
  held : Held w2 h es lg
  grown : Grown3 w w2 base t s es mk lg k
  bx : w2.heap[B]? = some box
/-- New blocks alone. -/
theorem Mid.fresh {base : Nat} {t T : TypeId} {s : Nat} {es : List Ent} {mk : Nat → List Value} {lg : Nat → Ent} {k h B : Nat} {box : Obj} {w w2 w3 : World} (m : Mid base t T s es mk lg k h B box w w2) (hg : w2.grownBy w3 none) (hb : base ≤ w.heap.size) : Mid base t T s es mk lg k h B box w w3 := by
  have hB : B < w2.heap.size := (Array.getElem?_eq_some_iff.1 m.bx).1
  exact ⟨m.frm.trans (Frm2.of_grown hg (by have := m.frm.below.size; omega) (fun r e => by cases e)), m.hb.same (hg.block h m.hb.lt (by simp)), m.held.same (hg.block h m.hb.lt (by simp)), m.grown.below hg, (hg.block B hB (by simp)).trans m.bx⟩
/-- A write into the list's own block, or the one that it grew into. -/
theorem Mid.row {base : Nat} {t T : TypeId} {s : Nat} {es : List Ent} {mk : Nat → List Value} {lg : Nat → Ent} {k h B g so : Nat} {cur : Array Value} {e : Ent} {cs : Array Value} {w w2 w3 : World}
    (m : Mid base t T s es mk lg k h B (.cells cs T) w w2) (hg : w2.grownBy w3 (some g)) (hb : base ≤ w.heap.size) (hgb : base ≤ g) (hgt : w2.heap[g]? = some (.cells cur t (0, 0))) (hne : T ≠ t) (he : es[k]? = some e)
    (hso : w.heap.size ≤ so) (hlong : ∀ (j : Nat) (e : Ent), es[j]? = some e → j < k → ∀ b, (lg j).blk = some b → b < so) (hloc : e.blk = some g ∨ so ≤ g) (hf : Full w3 base t s e (mk e.num)) : Mid base t T s es mk lg k h B (.cells cs T) w w3 := by
  have hB : B < w2.heap.size := (Array.getElem?_eq_some_iff.1 m.bx).1
  have hhg : h ≠ g := m.hb.ne hgt hne
  have hBg : B ≠ g := HB.ne ⟨cs, m.bx⟩ hgt hne
  refine ⟨m.frm.trans (Frm2.of_grown hg (by have := m.frm.below.size; omega) (fun r e => by injection e with e; subst e; exact ⟨hgb, .inl ⟨_, hgt⟩⟩)), m.hb.same (hg.block h m.hb.lt (fun e => hhg (by injection e))), m.held.same (hg.block h m.hb.lt (fun e => hhg (by injection e))), ?_, (hg.block B hB (fun e => hBg (by injection e))).trans m.bx⟩
  refine m.grown.step hg (fun j e' hj hjk => ?_) (fun e' he' => ?_) (fun j e' hj hjk => ?_)
  · rcases hloc with h1 | h1
    · rw [← h1]; exact m.grown.apart j k e' e hjk hj he
    · cases hbk : e'.blk with
      | none => exact .inl rfl
      | some b => exact .inr (fun e => by injection e with e; have := m.grown.old j e' hj b hbk; omega)
  · rw [he] at he'; injection he' with he'; subst he'; exact hf
  · cases hbk : (lg j).blk with
    | none => exact .inl rfl
    | some b =>
      refine .inr (fun e2 => ?_)
      injection e2 with e2
      subst e2
      rcases hloc with h1 | h1
      · rcases (m.grown.long j e' hj hjk).2.2 with h2 | ⟨b', h2, h3⟩
        · have := m.grown.apart j k e' e (by omega) hj he
          rw [h1, ← h2, hbk] at this
          rcases this with h4 | h4
          · cases h4
          · exact h4 rfl
        · rw [hbk] at h2; injection h2 with h2
          have := m.grown.old k e he b h1
          omega
      · have := hlong j e' hj hjk b hbk
        omega
/-- The cells of a kind's row, ahead of growing. -/
def rowCells (es : List Ent) : List Value := es.flatMap (fun e => [.slice e.A e.len e.cap, .slice none 0 0, .int .i64 e.num])
theorem rowCells_len : ∀ es : List Ent, (rowCells es).length = es.length * 3
  | [] => rfl
  | e :: r => by
    have := rowCells_len r
    simp only [rowCells, List.flatMap_cons, List.length_append, List.length_cons, List.length_nil] at *
    omega
theorem rowCells_snoc (es : List Ent) (e : Ent) : rowCells (es ++ [e]) = rowCells es ++ [.slice e.A e.len e.cap, .slice none 0 0, .int .i64 e.num] := by
  unfold rowCells; rw [List.flatMap_append]; simp
theorem rowCells_at : ∀ (es : List Ent) (i : Nat) (e : Ent), es[i]? = some e → (rowCells es)[i * 3]? = some (.slice e.A e.len e.cap) ∧ (rowCells es)[i * 3 + 1]? = some (.slice none 0 0) ∧ (rowCells es)[i * 3 + 2]? = some (.int .i64 e.num)
  | [], i, e, h => by simp at h
  | x :: r, 0, e, h => by simp at h; subst h; simp [rowCells]
  | x :: r, i + 1, e, h => by
    have := rowCells_at r i e (by simpa using h)
    have e1 : (i + 1) * 3 = i * 3 + 3 := by omega
    simp only [rowCells, List.flatMap_cons] at *
    rw [e1]
    exact ⟨this.1, this.2.1, this.2.2⟩
theorem held_own {w : World} {base h cap : Nat} {T : TypeId} {es : List Ent} (ho : w.ownsRow base T 3 (.slice (some ⟨h, 0, none⟩) es.length cap) es.length (rowCells es)) : Held w h es (fun _ => ⟨none, 0, 0, 0⟩) := by
  intro i e hi
  have hlt : i < es.length := (List.getElem?_eq_some_iff.1 hi).1
  obtain ⟨a, b, c⟩ := rowCells_at es i e hi
  exact ⟨(ho.cellAt (i * 3) (by omega)).trans a, (ho.cellAt (i * 3 + 1) (by omega)).trans b, (ho.cellAt (i * 3 + 2) (by omega)).trans c⟩
theorem own_hb {w : World} {base e size n h : Nat} {T : TypeId} {v : Value} {xs : List Value} (ho : w.ownsRow base e size v n xs) (hb : HB w h T) (hne : T ≠ e) : v.ownBlock ≠ some h := by
  rcases ho.2 with ⟨rfl, _⟩ | ⟨g, cap, cur, rfl, _, hg, _⟩
  · simp [Value.ownBlock]
  · intro e'
    have : g = h := by simpa [Value.ownBlock] using e'
    exact hb.ne hg hne this.symm
theorem own_frm {w w' : World} {base b2 : Nat} {t T : TypeId} {size n : Nat} {v : Value} {xs : List Value} (ho : w.ownsRow b2 T size v n xs) (hf : Frm base t w w') (hne : T ≠ t) : w'.ownsRow b2 T size v n xs := by
  refine ⟨ho.1, ?_⟩
  rcases ho.2 with h1 | ⟨g, cap, cur, h1, h2, hg, r⟩
  · exact .inl h1
  · have o : Other w t g := ⟨cur, T, _, hg, hne⟩
    exact .inr ⟨g, cap, cur, h1, h2, (hf.block g o.lt o).trans hg, r⟩
theorem own_frm2 {w w' : World} {base b2 : Nat} {t t2 T : TypeId} {size n : Nat} {v : Value} {xs : List Value} (ho : w.ownsRow b2 T size v n xs) (hf : Frm2 base t t2 w w') (hne : T ≠ t) (hne2 : T ≠ t2) : w'.ownsRow b2 T size v n xs := by
  refine ⟨ho.1, ?_⟩
  rcases ho.2 with h1 | ⟨g, cap, cur, h1, h2, hg, r⟩
  · exact .inl h1
  · have o : Other w t g := ⟨cur, T, _, hg, hne⟩
    exact .inr ⟨g, cap, cur, h1, h2, (hf.block g o.lt o ⟨cur, T, _, hg, hne2⟩).trans hg, r⟩
theorem own_bel {w w' : World} {b2 : Nat} {T : TypeId} {size n : Nat} {v : Value} {xs : List Value} (ho : w.ownsRow b2 T size v n xs) (hb : Below w.heap.size w w') : w'.ownsRow b2 T size v n xs := by
  refine ⟨ho.1, ?_⟩
  rcases ho.2 with h1 | ⟨g, cap, cur, h1, h2, hg, r⟩
  · exact .inl h1
  · exact .inr ⟨g, cap, cur, h1, h2, (hb.block g (Array.getElem?_eq_some_iff.1 hg).1).trans hg, r⟩
theorem HB.frm {w w' : World} {base h : Nat} {t T : TypeId} (hb : HB w h T) (hf : Frm base t w w') (hne : T ≠ t) : HB w' h T := hb.same (hf.block h hb.lt (hb.other hne))
theorem HB.frm2 {w w' : World} {base h : Nat} {t t2 T : TypeId} (hb : HB w h T) (hf : Frm2 base t t2 w w') (hne : T ≠ t) (hne2 : T ≠ t2) : HB w' h T := hb.same (hf.block h hb.lt (hb.other hne) (hb.other hne2))
theorem Lists.map {w w' : World} {base : Nat} {t : TypeId} {s : Nat} {es : List Ent} {mk : Nat → List Value} {k : Nat} (h : Lists w base t s es mk k) (f : ∀ {v : Value} {n : Nat} {xs : List Value}, w.ownsRow base t s v n xs → w'.ownsRow base t s v n xs) : Lists w' base t s es mk k :=
  ⟨fun j e hj => by obtain ⟨xs, h1, h2⟩ := h.own j e hj; exact ⟨xs, f h1, h2⟩, h.apart⟩
/-- A kind ahead of Apart. -/
structure KIn (w : World) (base : Nat) (t T : TypeId) (s : Nat) (es : List Ent) (mk : Nat → List Value) (k : Nat) (sv : Value) : Prop where
  lists : Lists w base t s es mk k
  row : (es = [] ∧ sv = .slice none 0 0) ∨ ∃ h c, sv = .slice (some ⟨h, 0, none⟩) es.length c ∧ w.ownsRow base T 3 sv es.length (rowCells es)
  num : ∀ e ∈ es, e.num ≤ 1000000 ∧ e.len ≤ 10000000
  len : es.length ≤ 1000000
theorem KIn.map {w w' : World} {base : Nat} {t T : TypeId} {s : Nat} {es : List Ent} {mk : Nat → List Value} {k : Nat} {sv : Value} (h : KIn w base t T s es mk k sv) (f : ∀ {v : Value} {n : Nat} {xs : List Value}, w.ownsRow base t s v n xs → w'.ownsRow base t s v n xs) (g : ∀ {v : Value} {n : Nat} {xs : List Value}, w.ownsRow base T 3 v n xs → w'.ownsRow base T 3 v n xs) : KIn w' base t T s es mk k sv :=
  ⟨h.lists.map f, by
    rcases h.row with h1 | ⟨b, c, h1, h2⟩
    · exact .inl h1
    · exact .inr ⟨b, c, h1, g h2⟩, h.num, h.len⟩
/-- A kind behind growing. -/
structure KOut (w : World) (base : Nat) (t T : TypeId) (s : Nat) (es : List Ent) (mk : Nat → List Value) (sv : Value) : Prop where
  row : (es = [] ∧ sv = .slice none 0 0) ∨ ∃ h c lg W0, sv = .slice (some ⟨h, 0, none⟩) es.length c ∧ es.length ≤ c ∧ HB w h T ∧ Held w h es lg ∧ Grown3 W0 w base t s es mk lg es.length
  num : ∀ e ∈ es, e.num ≤ 1000000 ∧ e.len ≤ 10000000
  len : es.length ≤ 1000000
theorem KOut.map {w w' : World} {base : Nat} {t T : TypeId} {s : Nat} {es : List Ent} {mk : Nat → List Value} {sv : Value} (h : KOut w base t T s es mk sv) (f : ∀ {v : Value} {n : Nat} {xs : List Value}, w.ownsRow base t s v n xs → w'.ownsRow base t s v n xs) (g : ∀ {b : Nat}, HB w b T → w'.heap[b]? = w.heap[b]?) : KOut w' base t T s es mk sv :=
  ⟨by
    rcases h.row with h1 | ⟨b, c, lg, W0, h1, h2, h3, h4, h5⟩
    · exact .inl h1
    · exact .inr ⟨b, c, lg, W0, h1, h2, h3.same (g h3), h4.same (g h3), ⟨fun j e hj => f (h5.full j e hj), fun j e hj hk => by obtain ⟨x, y, z⟩ := h5.long j e hj hk; exact ⟨x, f y, z⟩, h5.apart, h5.old⟩⟩, h.num, h.len⟩
theorem own_capv {w : World} {base e size n cap : Nat} {A : Option Addr} {xs : List Value} (h : w.ownsRow base e size (.slice A n cap) n xs) : n ≤ cap ∧ cap ≤ maxLen := by
  rcases h.2 with ⟨h1, h0⟩ | ⟨g', cap', cur, h1, _, _, h2, h3, _⟩
  · injection h1 with _ _ h4; unfold maxLen; omega
  · injection h1 with _ _ h4; subst h4; exact ⟨h2, h3⟩
theorem own_HB {w : World} {base e size n cap g : Nat} {xs : List Value} (h : w.ownsRow base e size (.slice (some ⟨g, 0, none⟩) n cap) n xs) : HB w g e := by
  rcases h.2 with ⟨h1, _⟩ | ⟨g', cap', cur, h1, _, hg, _⟩
  · cases h1
  · injection h1 with h1; injection h1 with h1; injection h1 with h1; subst h1; exact ⟨cur, hg⟩
theorem own_val {w : World} {base e size n : Nat} {v : Value} {xs : List Value} (h : w.ownsRow base e size v n xs) : ∃ A c, v = .slice A n c := by
  rcases h.2 with ⟨rfl, h0⟩ | ⟨g, cap, cur, rfl, _⟩
  · exact ⟨none, 0, by rw [h0]⟩
  · exact ⟨_, _, rfl⟩
/-- One more entry: the lists stay apart where the new one lies apart from all. -/
theorem Lists.snoc {w : World} {base : Nat} {t : TypeId} {s : Nat} {es : List Ent} {mk : Nat → List Value} {e : Ent} {xs : List Value} (h : Lists w base t s es mk 0) (ho : w.ownsRow base t s e.val e.len xs) (hap : ∀ e' ∈ es, e'.blk = none ∨ e'.blk ≠ e.blk) : Lists w base t s (es ++ [e]) mk 0 := by
  refine ⟨fun j e' hj => ?_, fun i j e1 e2 hij h1 h2 => ?_⟩
  · rcases Nat.lt_or_ge j es.length with hl | hl
    · rw [List.getElem?_append_left hl] at hj; exact h.own j e' hj
    · rw [List.getElem?_append_right hl] at hj
      have hm := List.mem_of_getElem? hj
      simp only [List.mem_singleton] at hm
      subst hm
      exact ⟨xs, ho, fun h => by omega⟩
  · have at' : ∀ j e', (es ++ [e])[j]? = some e' → (j < es.length ∧ es[j]? = some e') ∨ (j = es.length ∧ e' = e) := fun j e' hj => by
      rcases Nat.lt_or_ge j es.length with hl | hl
      · rw [List.getElem?_append_left hl] at hj; exact .inl ⟨hl, hj⟩
      · rw [List.getElem?_append_right hl] at hj
        have hm := List.mem_of_getElem? hj
        have hj' := (List.getElem?_eq_some_iff.1 hj).1
        simp only [List.mem_singleton] at hm
        simp at hj'
        exact .inr ⟨by omega, hm⟩
    have flip : ∀ a b : Option Nat, a = none ∨ a ≠ b → b = none ∨ b ≠ a := fun a b h => by
      rcases h with h | h
      · subst h; cases b <;> simp
      · exact .inr (Ne.symm h)
    rcases at' i e1 h1 with ⟨l1, k1⟩ | ⟨l1, k1⟩ <;> rcases at' j e2 h2 with ⟨l2, k2⟩ | ⟨l2, k2⟩
    · exact h.apart i j e1 e2 hij k1 k2
    · subst k2; exact hap e1 (List.mem_of_getElem? k1)
    · subst k1; exact flip _ _ (hap e2 (List.mem_of_getElem? k2))
    · omega
theorem Lists.nil (w : World) (base : Nat) (t : TypeId) (s : Nat) (mk : Nat → List Value) (k : Nat) : Lists w base t s [] mk k := ⟨fun j e hj => by simp at hj, fun i j e e' _ hi => by simp at hi⟩
theorem KIn.nil (w : World) (base : Nat) (t T : TypeId) (s : Nat) (mk : Nat → List Value) (k : Nat) : KIn w base t T s [] mk k (.slice none 0 0) := ⟨Lists.nil _ _ _ _ _ _, .inl ⟨rfl, rfl⟩, fun e he => by simp at he, by simp⟩
end Bk
end Go.Proofs.YtkmngbkghgelfaaGreat
/- The Book of the statements: what it is; kinds that have no lists: filling, growing and looking do nothing. -/
namespace Go.Proofs.YtkmngbkghgelfaaGreat
open Go.RowKit
set_option linter.unusedVariables false
set_option linter.unusedSimpArgs false
namespace Bk
/-- A book: its number, its kinds' lists. -/
def BookAt (w : World) (bk : Nat) (n : Int) (sv : Nat → Value) : Prop :=
  w.heap[bk]? = some (.cells #[.int .i64 n, sv 1, sv 2, sv 3, sv 4, sv 5, sv 6, sv 7, sv 8, sv 9, sv 10, sv 11, sv 12] 50 (0, 0))
theorem BookAt.cell {w : World} {bk : Nat} {n : Int} {sv : Nat → Value} (h : BookAt w bk n sv) (i : Nat) : w.cell? ⟨bk, i, none⟩ = #[.int .i64 n, sv 1, sv 2, sv 3, sv 4, sv 5, sv 6, sv 7, sv 8, sv 9, sv 10, sv 11, sv 12][i]? := cell_of_row w bk i _ _ _ h
theorem BookAt.hb {w : World} {bk : Nat} {n : Int} {sv : Nat → Value} (h : BookAt w bk n sv) : HB w bk 50 := ⟨_, h⟩
theorem BookAt.frm {w w' : World} {base bk : Nat} {t : TypeId} {n : Int} {sv : Nat → Value} (h : BookAt w bk n sv) (hf : Frm base t w w') (hne : 50 ≠ t) : BookAt w' bk n sv := (hf.block bk h.hb.lt (h.hb.other hne)).trans h
theorem BookAt.frm2 {w w' : World} {base bk : Nat} {t t2 : TypeId} {n : Int} {sv : Nat → Value} (h : BookAt w bk n sv) (hf : Frm2 base t t2 w w') (hne : 50 ≠ t) (hne2 : 50 ≠ t2) : BookAt w' bk n sv := (hf.block bk h.hb.lt (h.hb.other hne) (h.hb.other hne2)).trans h
theorem BookAt.bel {w w' : World} {bk : Nat} {n : Int} {sv : Nat → Value} (h : BookAt w bk n sv) (hb : Below w.heap.size w w') : BookAt w' bk n sv := (hb.block bk h.hb.lt).trans h
def updB (sv : Nat → Value) (c : Nat) (v : Value) : Nat → Value := fun j => if j = c then v else sv j
/-- What keeping a list leaves. -/
def Kept (c : Nat) (T t : TypeId) (s : Nat) (mk : Nat → List Value) (w : World) (bk base n : Nat) (sv : Nat → Value) (es : List Ent) (e : Ending) (w' : World) : Prop :=
  e = .returned (.tuple #[]) ∧ ∃ sv', (∀ j, j ≠ c → sv' j = sv j) ∧ BookAt w' bk ((n : Int) + 1) sv' ∧ KIn w' base t T s es mk 0 (sv' c) ∧ Frm2 base T 50 w w' ∧ (∀ g, (sv' c).ownBlock = some g → (sv c).ownBlock = some g ∨ w.heap.size ≤ g) ∧ ∀ k, k < w.heap.size → k ≠ bk → (sv c).ownBlock ≠ some k → w'.heap[k]? = w.heap[k]?
theorem grow_below (w : World) (n : Nat) (os : Array Obj) : Below w.heap.size w (Sort.grow (w.drewN n) os) :=
  ⟨rfl, rfl, rfl, by rw [Sort.size_grow]; show w.heap.size ≤ w.heap.size + _; omega, fun k hk => by rw [Sort.heap_grow_old _ _ (show k < (w.drewN n).heap.size from hk)]; rfl⟩
theorem Upto.alloc {w : World} {base : Nat} {t : TypeId} {s : Nat} {e : Ent} {m : List Value} {k : Nat} (h : Upto w base t s e m k) (o : Obj) : Upto (w.alloc o) base t s e m k := by
  obtain ⟨xs, h1, h2⟩ := h
  exact ⟨xs, h1.alloc o, h2⟩
theorem fillByte_nil (bk : Nat) (w : World) (hc : w.cell? ⟨bk, 1, none⟩ = some (.slice none 0 0)) :
    Calls Tryz.prog 34 #[.pointer (some ⟨bk, 0, none⟩)] w fun e w' => e = .returned (.tuple #[]) ∧ w = w' := by
  go_enter Tryz.func34, Tryz.ntmps34
  go_wp2
  go_loop [2] (fun i => i = .int .i64 0) (fun _ => 0)
  case atStart => rfl
  case round =>
    subst hrel
    go_wp2
    go_end0
    exact ⟨rfl, rfl⟩
theorem growByte_nil (bk : Nat) (w : World) (hc : w.cell? ⟨bk, 1, none⟩ = some (.slice none 0 0)) :
    Calls Tryz.prog 46 #[.pointer (some ⟨bk, 0, none⟩)] w fun e w' => e = .returned (.tuple #[]) ∧ w = w' := by
  go_enter Tryz.func46, Tryz.ntmps46
  go_wp2
  go_loop [2] (fun i => i = .int .i64 0) (fun _ => 0)
  case atStart => rfl
  case round =>
    subst hrel
    go_wp2
    go_end0
    exact ⟨rfl, rfl⟩
theorem lookByte_nil (bk : Nat) (w : World) (hc : w.cell? ⟨bk, 1, none⟩ = some (.slice none 0 0)) :
    Calls Tryz.prog 58 #[.pointer (some ⟨bk, 0, none⟩)] w fun e w' => e = .returned (.bool true) ∧ w = w' := by
  go_enter Tryz.func58, Tryz.ntmps58
  go_wp2
  go_loop [3] (fun i => i = .int .i64 0) (fun _ => 0)
  case atStart => rfl
  case round =>
    subst hrel
    go_wp2
    go_ret
    exact ⟨rfl, rfl⟩
theorem fillInt_nil (bk : Nat) (w : World) (hc : w.cell? ⟨bk, 2, none⟩ = some (.slice none 0 0)) :
    Calls Tryz.prog 35 #[.pointer (some ⟨bk, 0, none⟩)] w fun e w' => e = .returned (.tuple #[]) ∧ w = w' := by
  go_enter Tryz.func35, Tryz.ntmps35
  go_wp2
  go_loop [2] (fun i => i = .int .i64 0) (fun _ => 0)
  case atStart => rfl
  case round =>
    subst hrel
    go_wp2
    go_end0
    exact ⟨rfl, rfl⟩
theorem growInt_nil (bk : Nat) (w : World) (hc : w.cell? ⟨bk, 2, none⟩ = some (.slice none 0 0)) :
    Calls Tryz.prog 47 #[.pointer (some ⟨bk, 0, none⟩)] w fun e w' => e = .returned (.tuple #[]) ∧ w = w' := by
  go_enter Tryz.func47, Tryz.ntmps47
  go_wp2
  go_loop [2] (fun i => i = .int .i64 0) (fun _ => 0)
  case atStart => rfl
  case round =>
    subst hrel
    go_wp2
    go_end0
    exact ⟨rfl, rfl⟩
theorem lookInt_nil (bk : Nat) (w : World) (hc : w.cell? ⟨bk, 2, none⟩ = some (.slice none 0 0)) :
    Calls Tryz.prog 59 #[.pointer (some ⟨bk, 0, none⟩)] w fun e w' => e = .returned (.bool true) ∧ w = w' := by
  go_enter Tryz.func59, Tryz.ntmps59
  go_wp2
  go_loop [3] (fun i => i = .int .i64 0) (fun _ => 0)
  case atStart => rfl
  case round =>
    subst hrel
    go_wp2
    go_ret
    exact ⟨rfl, rfl⟩
theorem fillInt8_nil (bk : Nat) (w : World) (hc : w.cell? ⟨bk, 3, none⟩ = some (.slice none 0 0)) :
    Calls Tryz.prog 36 #[.pointer (some ⟨bk, 0, none⟩)] w fun e w' => e = .returned (.tuple #[]) ∧ w = w' := by
  go_enter Tryz.func36, Tryz.ntmps36
  go_wp2
  go_loop [2] (fun i => i = .int .i64 0) (fun _ => 0)
  case atStart => rfl
  case round =>
    subst hrel
    go_wp2
    go_end0
    exact ⟨rfl, rfl⟩
theorem growInt8_nil (bk : Nat) (w : World) (hc : w.cell? ⟨bk, 3, none⟩ = some (.slice none 0 0)) :
    Calls Tryz.prog 48 #[.pointer (some ⟨bk, 0, none⟩)] w fun e w' => e = .returned (.tuple #[]) ∧ w = w' := by
  go_enter Tryz.func48, Tryz.ntmps48
  go_wp2
  go_loop [2] (fun i => i = .int .i64 0) (fun _ => 0)
  case atStart => rfl
  case round =>
    subst hrel
    go_wp2
    go_end0
    exact ⟨rfl, rfl⟩
theorem lookInt8_nil (bk : Nat) (w : World) (hc : w.cell? ⟨bk, 3, none⟩ = some (.slice none 0 0)) :
    Calls Tryz.prog 60 #[.pointer (some ⟨bk, 0, none⟩)] w fun e w' => e = .returned (.bool true) ∧ w = w' := by
  go_enter Tryz.func60, Tryz.ntmps60
  go_wp2
  go_loop [3] (fun i => i = .int .i64 0) (fun _ => 0)
  case atStart => rfl
  case round =>
    subst hrel
    go_wp2
    go_ret
    exact ⟨rfl, rfl⟩
theorem fillNumber_nil (bk : Nat) (w : World) (hc : w.cell? ⟨bk, 4, none⟩ = some (.slice none 0 0)) :
    Calls Tryz.prog 37 #[.pointer (some ⟨bk, 0, none⟩)] w fun e w' => e = .returned (.tuple #[]) ∧ w = w' := by
  go_enter Tryz.func37, Tryz.ntmps37
  go_wp2
  go_loop [2] (fun i => i = .int .i64 0) (fun _ => 0)
  case atStart => rfl
  case round =>
    subst hrel
    go_wp2
    go_end0
    exact ⟨rfl, rfl⟩
theorem growNumber_nil (bk : Nat) (w : World) (hc : w.cell? ⟨bk, 4, none⟩ = some (.slice none 0 0)) :
    Calls Tryz.prog 49 #[.pointer (some ⟨bk, 0, none⟩)] w fun e w' => e = .returned (.tuple #[]) ∧ w = w' := by
  go_enter Tryz.func49, Tryz.ntmps49
  go_wp2
  go_loop [2] (fun i => i = .int .i64 0) (fun _ => 0)
  case atStart => rfl
  case round =>
    subst hrel
    go_wp2
    go_end0
    exact ⟨rfl, rfl⟩
theorem lookNumber_nil (bk : Nat) (w : World) (hc : w.cell? ⟨bk, 4, none⟩ = some (.slice none 0 0)) :
    Calls Tryz.prog 61 #[.pointer (some ⟨bk, 0, none⟩)] w fun e w' => e = .returned (.bool true) ∧ w = w' := by
  go_enter Tryz.func61, Tryz.ntmps61
  go_wp2
  go_loop [3] (fun i => i = .int .i64 0) (fun _ => 0)
  case atStart => rfl
  case round =>
    subst hrel
    go_wp2
    go_ret
    exact ⟨rfl, rfl⟩
theorem fillInt64_nil (bk : Nat) (w : World) (hc : w.cell? ⟨bk, 5, none⟩ = some (.slice none 0 0)) :
    Calls Tryz.prog 38 #[.pointer (some ⟨bk, 0, none⟩)] w fun e w' => e = .returned (.tuple #[]) ∧ w = w' := by
  go_enter Tryz.func38, Tryz.ntmps38
  go_wp2
  go_loop [2] (fun i => i = .int .i64 0) (fun _ => 0)
  case atStart => rfl
  case round =>
    subst hrel
    go_wp2
    go_end0
    exact ⟨rfl, rfl⟩
theorem growInt64_nil (bk : Nat) (w : World) (hc : w.cell? ⟨bk, 5, none⟩ = some (.slice none 0 0)) :
    Calls Tryz.prog 50 #[.pointer (some ⟨bk, 0, none⟩)] w fun e w' => e = .returned (.tuple #[]) ∧ w = w' := by
  go_enter Tryz.func50, Tryz.ntmps50
  go_wp2
  go_loop [2] (fun i => i = .int .i64 0) (fun _ => 0)
  case atStart => rfl
  case round =>
    subst hrel
    go_wp2
    go_end0
    exact ⟨rfl, rfl⟩
theorem lookInt64_nil (bk : Nat) (w : World) (hc : w.cell? ⟨bk, 5, none⟩ = some (.slice none 0 0)) :
    Calls Tryz.prog 62 #[.pointer (some ⟨bk, 0, none⟩)] w fun e w' => e = .returned (.bool true) ∧ w = w' := by
  go_enter Tryz.func62, Tryz.ntmps62
  go_wp2
  go_loop [3] (fun i => i = .int .i64 0) (fun _ => 0)
  case atStart => rfl
  case round =>
    subst hrel
    go_wp2
    go_ret
    exact ⟨rfl, rfl⟩
theorem fillVector_nil (bk : Nat) (w : World) (hc : w.cell? ⟨bk, 6, none⟩ = some (.slice none 0 0)) :
    Calls Tryz.prog 39 #[.pointer (some ⟨bk, 0, none⟩)] w fun e w' => e = .returned (.tuple #[]) ∧ w = w' := by
  go_enter Tryz.func39, Tryz.ntmps39
  go_wp2
  go_loop [2] (fun i => i = .int .i64 0) (fun _ => 0)
  case atStart => rfl
  case round =>
    subst hrel
    go_wp2
    go_end0
    exact ⟨rfl, rfl⟩
theorem growVector_nil (bk : Nat) (w : World) (hc : w.cell? ⟨bk, 6, none⟩ = some (.slice none 0 0)) :
    Calls Tryz.prog 51 #[.pointer (some ⟨bk, 0, none⟩)] w fun e w' => e = .returned (.tuple #[]) ∧ w = w' := by
  go_enter Tryz.func51, Tryz.ntmps51
  go_wp2
  go_loop [2] (fun i => i = .int .i64 0) (fun _ => 0)
  case atStart => rfl
  case round =>
    subst hrel
    go_wp2
    go_end0
    exact ⟨rfl, rfl⟩
theorem lookVector_nil (bk : Nat) (w : World) (hc : w.cell? ⟨bk, 6, none⟩ = some (.slice none 0 0)) :
    Calls Tryz.prog 63 #[.pointer (some ⟨bk, 0, none⟩)] w fun e w' => e = .returned (.bool true) ∧ w = w' := by
  go_enter Tryz.func63, Tryz.ntmps63
  go_wp2
  go_loop [3] (fun i => i = .int .i64 0) (fun _ => 0)
  case atStart => rfl
  case round =>
    subst hrel
    go_wp2
    go_ret
    exact ⟨rfl, rfl⟩
theorem fillRow_nil (bk : Nat) (w : World) (hc : w.cell? ⟨bk, 7, none⟩ = some (.slice none 0 0)) :
    Calls Tryz.prog 40 #[.pointer (some ⟨bk, 0, none⟩)] w fun e w' => e = .returned (.tuple #[]) ∧ w = w' := by
  go_enter Tryz.func40, Tryz.ntmps40
  go_wp2
  go_loop [2] (fun i => i = .int .i64 0) (fun _ => 0)
  case atStart => rfl
  case round =>
    subst hrel
    go_wp2
    go_end0
    exact ⟨rfl, rfl⟩
theorem growRow_nil (bk : Nat) (w : World) (hc : w.cell? ⟨bk, 7, none⟩ = some (.slice none 0 0)) :
    Calls Tryz.prog 52 #[.pointer (some ⟨bk, 0, none⟩)] w fun e w' => e = .returned (.tuple #[]) ∧ w = w' := by
  go_enter Tryz.func52, Tryz.ntmps52
  go_wp2
  go_loop [2] (fun i => i = .int .i64 0) (fun _ => 0)
  case atStart => rfl
  case round =>
    subst hrel
    go_wp2
    go_end0
    exact ⟨rfl, rfl⟩
theorem lookRow_nil (bk : Nat) (w : World) (hc : w.cell? ⟨bk, 7, none⟩ = some (.slice none 0 0)) :
    Calls Tryz.prog 64 #[.pointer (some ⟨bk, 0, none⟩)] w fun e w' => e = .returned (.bool true) ∧ w = w' := by
  go_enter Tryz.func64, Tryz.ntmps64
  go_wp2
  go_loop [3] (fun i => i = .int .i64 0) (fun _ => 0)
  case atStart => rfl
  case round =>
    subst hrel
    go_wp2
    go_ret
    exact ⟨rfl, rfl⟩
theorem fillPart_nil (bk : Nat) (w : World) (hc : w.cell? ⟨bk, 8, none⟩ = some (.slice none 0 0)) :
    Calls Tryz.prog 41 #[.pointer (some ⟨bk, 0, none⟩)] w fun e w' => e = .returned (.tuple #[]) ∧ w = w' := by
  go_enter Tryz.func41, Tryz.ntmps41
  go_wp2
  go_loop [2] (fun i => i = .int .i64 0) (fun _ => 0)
  case atStart => rfl
  case round =>
    subst hrel
    go_wp2
    go_end0
    exact ⟨rfl, rfl⟩
theorem growPart_nil (bk : Nat) (w : World) (hc : w.cell? ⟨bk, 8, none⟩ = some (.slice none 0 0)) :
    Calls Tryz.prog 53 #[.pointer (some ⟨bk, 0, none⟩)] w fun e w' => e = .returned (.tuple #[]) ∧ w = w' := by
  go_enter Tryz.func53, Tryz.ntmps53
  go_wp2
  go_loop [2] (fun i => i = .int .i64 0) (fun _ => 0)
  case atStart => rfl
  case round =>
    subst hrel
    go_wp2
    go_end0
    exact ⟨rfl, rfl⟩
theorem lookPart_nil (bk : Nat) (w : World) (hc : w.cell? ⟨bk, 8, none⟩ = some (.slice none 0 0)) :
    Calls Tryz.prog 65 #[.pointer (some ⟨bk, 0, none⟩)] w fun e w' => e = .returned (.bool true) ∧ w = w' := by
  go_enter Tryz.func65, Tryz.ntmps65
  go_wp2
  go_loop [3] (fun i => i = .int .i64 0) (fun _ => 0)
  case atStart => rfl
  case round =>
    subst hrel
    go_wp2
    go_ret
    exact ⟨rfl, rfl⟩
theorem fillItem_nil (bk : Nat) (w : World) (hc : w.cell? ⟨bk, 9, none⟩ = some (.slice none 0 0)) :
    Calls Tryz.prog 42 #[.pointer (some ⟨bk, 0, none⟩)] w fun e w' => e = .returned (.tuple #[]) ∧ w = w' := by
  go_enter Tryz.func42, Tryz.ntmps42
  go_wp2
  go_loop [2] (fun i => i = .int .i64 0) (fun _ => 0)
  case atStart => rfl
  case round =>
    subst hrel
    go_wp2
    go_end0
    exact ⟨rfl, rfl⟩
theorem growItem_nil (bk : Nat) (w : World) (hc : w.cell? ⟨bk, 9, none⟩ = some (.slice none 0 0)) :
    Calls Tryz.prog 54 #[.pointer (some ⟨bk, 0, none⟩)] w fun e w' => e = .returned (.tuple #[]) ∧ w = w' := by
  go_enter Tryz.func54, Tryz.ntmps54
  go_wp2
  go_loop [2] (fun i => i = .int .i64 0) (fun _ => 0)
  case atStart => rfl
  case round =>
    subst hrel
    go_wp2
    go_end0
    exact ⟨rfl, rfl⟩
theorem lookItem_nil (bk : Nat) (w : World) (hc : w.cell? ⟨bk, 9, none⟩ = some (.slice none 0 0)) :
    Calls Tryz.prog 66 #[.pointer (some ⟨bk, 0, none⟩)] w fun e w' => e = .returned (.bool true) ∧ w = w' := by
  go_enter Tryz.func66, Tryz.ntmps66
  go_wp2
  go_loop [3] (fun i => i = .int .i64 0) (fun _ => 0)
  case atStart => rfl
  case round =>
    subst hrel
    go_wp2
    go_ret
    exact ⟨rfl, rfl⟩
theorem fillHit_nil (bk : Nat) (w : World) (hc : w.cell? ⟨bk, 10, none⟩ = some (.slice none 0 0)) :
    Calls Tryz.prog 43 #[.pointer (some ⟨bk, 0, none⟩)] w fun e w' => e = .returned (.tuple #[]) ∧ w = w' := by
  go_enter Tryz.func43, Tryz.ntmps43
  go_wp2
  go_loop [2] (fun i => i = .int .i64 0) (fun _ => 0)
  case atStart => rfl
  case round =>
    subst hrel
    go_wp2
    go_end0
    exact ⟨rfl, rfl⟩
theorem growHit_nil (bk : Nat) (w : World) (hc : w.cell? ⟨bk, 10, none⟩ = some (.slice none 0 0)) :
    Calls Tryz.prog 55 #[.pointer (some ⟨bk, 0, none⟩)] w fun e w' => e = .returned (.tuple #[]) ∧ w = w' := by
  go_enter Tryz.func55, Tryz.ntmps55
  go_wp2
  go_loop [2] (fun i => i = .int .i64 0) (fun _ => 0)
  case atStart => rfl
  case round =>
    subst hrel
    go_wp2
    go_end0
    exact ⟨rfl, rfl⟩
theorem lookHit_nil (bk : Nat) (w : World) (hc : w.cell? ⟨bk, 10, none⟩ = some (.slice none 0 0)) :
    Calls Tryz.prog 67 #[.pointer (some ⟨bk, 0, none⟩)] w fun e w' => e = .returned (.bool true) ∧ w = w' := by
  go_enter Tryz.func67, Tryz.ntmps67
  go_wp2
  go_loop [3] (fun i => i = .int .i64 0) (fun _ => 0)
  case atStart => rfl
  case round =>
    subst hrel
    go_wp2
    go_ret
    exact ⟨rfl, rfl⟩
theorem fillNode_nil (bk : Nat) (w : World) (hc : w.cell? ⟨bk, 11, none⟩ = some (.slice none 0 0)) :
    Calls Tryz.prog 44 #[.pointer (some ⟨bk, 0, none⟩)] w fun e w' => e = .returned (.tuple #[]) ∧ w = w' := by
  go_enter Tryz.func44, Tryz.ntmps44
  go_wp2
  go_loop [2] (fun i => i = .int .i64 0) (fun _ => 0)
  case atStart => rfl
  case round =>
    subst hrel
    go_wp2
    go_end0
    exact ⟨rfl, rfl⟩
theorem growNode_nil (bk : Nat) (w : World) (hc : w.cell? ⟨bk, 11, none⟩ = some (.slice none 0 0)) :
    Calls Tryz.prog 56 #[.pointer (some ⟨bk, 0, none⟩)] w fun e w' => e = .returned (.tuple #[]) ∧ w = w' := by
  go_enter Tryz.func56, Tryz.ntmps56
  go_wp2
  go_loop [2] (fun i => i = .int .i64 0) (fun _ => 0)
  case atStart => rfl
  case round =>
    subst hrel
    go_wp2
    go_end0
    exact ⟨rfl, rfl⟩
theorem lookNode_nil (bk : Nat) (w : World) (hc : w.cell? ⟨bk, 11, none⟩ = some (.slice none 0 0)) :
    Calls Tryz.prog 68 #[.pointer (some ⟨bk, 0, none⟩)] w fun e w' => e = .returned (.bool true) ∧ w = w' := by
  go_enter Tryz.func68, Tryz.ntmps68
  go_wp2
  go_loop [3] (fun i => i = .int .i64 0) (fun _ => 0)
  case atStart => rfl
  case round =>
    subst hrel
    go_wp2
    go_ret
    exact ⟨rfl, rfl⟩
theorem fillUpdate_nil (bk : Nat) (w : World) (hc : w.cell? ⟨bk, 12, none⟩ = some (.slice none 0 0)) :
    Calls Tryz.prog 45 #[.pointer (some ⟨bk, 0, none⟩)] w fun e w' => e = .returned (.tuple #[]) ∧ w = w' := by
  go_enter Tryz.func45, Tryz.ntmps45
  go_wp2
  go_loop [2] (fun i => i = .int .i64 0) (fun _ => 0)
  case atStart => rfl
  case round =>
    subst hrel
    go_wp2
    go_end0
    exact ⟨rfl, rfl⟩
theorem growUpdate_nil (bk : Nat) (w : World) (hc : w.cell? ⟨bk, 12, none⟩ = some (.slice none 0 0)) :
    Calls Tryz.prog 57 #[.pointer (some ⟨bk, 0, none⟩)] w fun e w' => e = .returned (.tuple #[]) ∧ w = w' := by
  go_enter Tryz.func57, Tryz.ntmps57
  go_wp2
  go_loop [2] (fun i => i = .int .i64 0) (fun _ => 0)
  case atStart => rfl
  case round =>
    subst hrel
    go_wp2
    go_end0
    exact ⟨rfl, rfl⟩
theorem lookUpdate_nil (bk : Nat) (w : World) (hc : w.cell? ⟨bk, 12, none⟩ = some (.slice none 0 0)) :
    Calls Tryz.prog 69 #[.pointer (some ⟨bk, 0, none⟩)] w fun e w' => e = .returned (.bool true) ∧ w = w' := by
  go_enter Tryz.func69, Tryz.ntmps69
  go_wp2
  go_loop [3] (fun i => i = .int .i64 0) (fun _ => 0)
  case atStart => rfl
  case round =>
    subst hrel
    go_wp2
    go_ret
    exact ⟨rfl, rfl⟩
end Bk
end Go.Proofs.YtkmngbkghgelfaaGreat
