/- Words for the Book of the statements: the entries of one kind, what a phase keeps. Over any program. -/
import Derived.Test.YtlkkmeeijjaeiaaA
import Derived.Laws.OwnMore
import Derived.Deep.Draws
import Derived.Laws.Rows
import Derived.OwnWalk
import Derived.WalkKit
namespace Go.Proofs.Ytlkkmeeijjaeiaa
open Go.RowKit
set_option linter.unusedVariables false

/-- An entry: a list that is kept, and its number. -/
structure Ent where
  A : Option Addr
  len : Nat
  cap : Nat
  num : Nat
def Ent.val (e : Ent) : Value := .slice e.A e.len e.cap
def Ent.blk (e : Ent) : Option Nat := e.val.ownBlock

/-- Block k is cells of a type other than t. -/
def Other (w : World) (t : TypeId) (k : Nat) : Prop := ∃ cur T mk, w.heap[k]? = some (.cells cur T mk) ∧ T ≠ t
/-- Only blocks of the element type t, from base on, and new ones, may have turned. -/
structure Frm (base : Nat) (t : TypeId) (w w' : World) : Prop where
  below : Below base w w'
  block : ∀ k, k < w.heap.size → Other w t k → w'.heap[k]? = w.heap[k]?
theorem Frm.refl (base : Nat) (t : TypeId) (w : World) : Frm base t w w := ⟨Below.refl _ _, fun _ _ _ => rfl⟩
theorem Other.lt {w : World} {t : TypeId} {k : Nat} (h : Other w t k) : k < w.heap.size := by
  obtain ⟨cur, T, mk, h, _⟩ := h
  exact (Array.getElem?_eq_some_iff.1 h).1
theorem Other.of {w w' : World} {t : TypeId} {k : Nat} (h : Other w t k) (e : w'.heap[k]? = w.heap[k]?) : Other w' t k := by
  obtain ⟨cur, T, mk, h, n⟩ := h
  exact ⟨cur, T, mk, e.trans h, n⟩
theorem Frm.other {base : Nat} {t : TypeId} {w w' : World} (h : Frm base t w w') {k : Nat} (ho : Other w t k) : Other w' t k := ho.of (h.block k ho.lt ho)
theorem Frm.trans {base : Nat} {t : TypeId} {a b c : World} (h : Frm base t a b) (g : Frm base t b c) : Frm base t a c :=
  ⟨h.below.trans g.below, fun k hk ho => by
    have e := h.block k hk ho
    exact (g.block k (by have := h.below.size; omega) (ho.of e)).trans e⟩
theorem Frm.of_below {base : Nat} {t : TypeId} {w w' : World} (h : Below w.heap.size w w') (hb : base ≤ w.heap.size) : Frm base t w w' := ⟨h.mono hb, fun k hk _ => h.block k hk⟩
theorem Frm.of_grown {base : Nat} {t : TypeId} {w w' : World} {g : Nat} (h : w.grownBy w' (some g)) (hb : base ≤ w.heap.size) (hg : base ≤ g) (ht : ∃ cur mk, w.heap[g]? = some (.cells cur t mk)) : Frm base t w w' :=
  ⟨(Below.refl _ _).grown h hb (fun k e => by injection e with e; omega), fun k hk ho => h.block k hk (fun e => by
    injection e with e
    subst e
    obtain ⟨cur, mk, hc⟩ := ht
    obtain ⟨cur', T, mk', hc', hne⟩ := ho
    rw [hc] at hc'
    injection hc' with hc'
    injection hc' with _ hT
    exact hne hT.symm)⟩
theorem Frm.cell {base : Nat} {t : TypeId} {w w' : World} (h : Frm base t w w') {p : Addr} (ho : Other w t p.block) : w'.cell? p = w.cell? p := World.cell?_of_block (h.block p.block ho.lt ho)
theorem Frm.froz {base : Nat} {t : TypeId} {w w' : World} (h : Frm base t w w') {p : Addr} (ho : Other w t p.block) : w'.frozen? p = w.frozen? p := World.frozen?_of_block (h.block p.block ho.lt ho)
theorem Frm.drewN {base : Nat} {t : TypeId} {w w' : World} (h : Frm base t w w') (n : Nat) : Frm base t w (w'.drewN n) := ⟨⟨h.below.os, h.below.tape, h.below.output, h.below.size, h.below.block⟩, h.block⟩

/-- A row of the call's own, its block. -/
theorem own_parts {w : World} {base e size n cap : Nat} {A : Option Addr} {xs : List Value} (h : w.ownsRow base e size (.slice A n cap) n xs) (hn : 0 < n) : ∃ g cur, A = some ⟨g, 0, none⟩ ∧ base ≤ g ∧ w.heap[g]? = some (.cells cur e (0, 0)) := by
  rcases h.2 with ⟨_, h0⟩ | ⟨g, cap', cur, hv, hb, hg, _⟩
  · omega
  · injection hv with h1
    exact ⟨g, cur, h1, hb, hg⟩
/-- What an entry's list holds: all its cells are m. -/
def Full (w : World) (base : Nat) (t : TypeId) (e : Ent) (m : Value) : Prop := w.ownsRow base t 1 e.val e.len (List.replicate e.len m)
/-- The entries' lists are the call's own, and apart; those ahead of k are filled. -/
structure Lists (w : World) (base : Nat) (t : TypeId) (es : List Ent) (mk : Nat → Value) (k : Nat) : Prop where
  own : ∀ j e, es[j]? = some e → ∃ xs, w.ownsRow base t 1 e.val e.len xs ∧ (j < k → xs = List.replicate e.len (mk e.num))
  apart : ∀ (i j : Nat) (e e' : Ent), i ≠ j → es[i]? = some e → es[j]? = some e' → e.blk = none ∨ e.blk ≠ e'.blk
theorem Lists.kept {w w' : World} {base : Nat} {t : TypeId} {es : List Ent} {mk : Nat → Value} {k : Nat} (h : Lists w base t es mk k) (hb : Below w.heap.size w w') : Lists w' base t es mk k :=
  ⟨fun j e hj => by
    obtain ⟨xs, h1, h2⟩ := h.own j e hj
    refine ⟨xs, h1.kept (row := none) ⟨hb.os, hb.tape, hb.output, hb.size, fun k hk _ => hb.block k hk⟩ ?_, h2⟩
    cases hv : e.val.ownBlock with
    | none => exact .inl rfl
    | some g => exact .inr (by simp), h.apart⟩
theorem Lists.drewN {w : World} {base : Nat} {t : TypeId} {es : List Ent} {mk : Nat → Value} {k : Nat} (h : Lists w base t es mk k) (n : Nat) : Lists (w.drewN n) base t es mk k := ⟨h.own, h.apart⟩
/-- A store into the k-th list: the others stay. -/
theorem Lists.stored {w : World} {base : Nat} {t : TypeId} {es : List Ent} {mk : Nat → Value} {k : Nat} {e : Ent} {g c : Nat} {m : Value} (h : Lists w base t es mk k) (hk : es[k]? = some e) (hA : e.A = some ⟨g, 0, none⟩) :
    Lists (w.setCell ⟨g, c, none⟩ m) base t es mk k := by
  refine ⟨fun j e' hj => ?_, h.apart⟩
  obtain ⟨xs, h1, h2⟩ := h.own j e' hj
  by_cases hjk : j = k
  · subst hjk
    rw [hk] at hj
    injection hj with hj
    subst hj
    have hv : e.val = .slice (some ⟨g, 0, none⟩) e.len e.cap := by unfold Ent.val; rw [hA]
    rw [hv] at h1 ⊢
    exact ⟨_, (h1.stored c m).1, fun hlt => by omega⟩
  · refine ⟨xs, h1.kept (row := some g) ⟨rfl, rfl, rfl, by simp [World.setCell], fun i _ hi => Below.heap_setCell _ _ _ _ (fun e => hi (by rw [e]))⟩ ?_, h2⟩
    have := h.apart j k e' e hjk hj hk
    rcases this with h3 | h3
    · exact .inl h3
    · refine .inr fun h4 => h3 ?_
      have : e.blk = some g := by unfold Ent.blk Ent.val; rw [hA]; rfl
      rw [this]
      exact h4
theorem Lists.next {w : World} {base : Nat} {t : TypeId} {es : List Ent} {mk : Nat → Value} {k : Nat} {e : Ent} (h : Lists w base t es mk k) (hk : es[k]? = some e) (hf : Full w base t e (mk e.num)) : Lists w base t es mk (k + 1) := by
  refine ⟨fun j e' hj => ?_, h.apart⟩
  by_cases hjk : j = k
  · subst hjk
    rw [hk] at hj
    injection hj with hj
    subst hj
    exact ⟨_, hf, fun _ => rfl⟩
  · obtain ⟨xs, h1, h2⟩ := h.own j e' hj
    exact ⟨xs, h1, fun hlt => h2 (by omega)⟩
/-- Filled up to k, a list: the cell k filled too. -/
def Upto (w : World) (base : Nat) (t : TypeId) (e : Ent) (m : Value) (k : Nat) : Prop := ∃ xs, w.ownsRow base t 1 e.val e.len xs ∧ ∀ i, i < k → xs[i]? = some m
theorem Upto.step {w : World} {base : Nat} {t : TypeId} {e : Ent} {m : Value} {k g : Nat} (h : Upto w base t e m k) (hk : k < e.len) (hA : e.A = some ⟨g, 0, none⟩) : Upto (w.setCell ⟨g, k, none⟩ m) base t e m (k + 1) := by
  obtain ⟨xs, h1, h2⟩ := h
  have hv : e.val = .slice (some ⟨g, 0, none⟩) e.len e.cap := by unfold Ent.val; rw [hA]
  have hlen : xs.length = e.len := by have := h1.1; omega
  unfold Upto
  rw [hv] at h1 ⊢
  refine ⟨_, (h1.stored k m).1, fun i hi => ?_⟩
  rw [List.getElem?_set]
  by_cases e' : k = i
  · rw [if_pos e']; subst e'; rw [if_pos (by omega)]
  · rw [if_neg e']; exact h2 i (by omega)
theorem Upto.full {w : World} {base : Nat} {t : TypeId} {e : Ent} {m : Value} (h : Upto w base t e m e.len) : Full w base t e m := by
  obtain ⟨xs, h1, h2⟩ := h
  have hlen : xs.length = e.len := by have := h1.1; omega
  have : xs = List.replicate e.len m := by
    apply List.ext_getElem?
    intro i
    by_cases hi : i < e.len
    · rw [h2 i hi, List.getElem?_replicate, if_pos hi]
    · rw [List.getElem?_eq_none (by omega), List.getElem?_eq_none (by simp; omega)]
  unfold Full
  rw [← this]
  exact h1
end Go.Proofs.Ytlkkmeeijjaeiaa
