/- More words for the Book: frames that spare the blocks from lim on (marks with memory of their own), and kinds whose marks are such. Over any program. -/
import Derived.Test.YtkmngbkghgelfaaGreatBn
namespace Go.Proofs.YtkmngbkghgelfaaGreat
open Go.RowKit
set_option linter.unusedVariables false
namespace Bk
/-- Block k is cells of a type other than t, or one from lim on. -/
def OtherL (lim : Nat) (w : World) (t : TypeId) (k : Nat) : Prop := Other w t k ∨ (lim ≤ k ∧ k < w.heap.size)
theorem Other.l {lim : Nat} {w : World} {t : TypeId} {k : Nat} (h : Other w t k) : OtherL lim w t k := .inl h
theorem OtherL.lt {lim : Nat} {w : World} {t : TypeId} {k : Nat} (h : OtherL lim w t k) : k < w.heap.size := by
  rcases h with h | h
  · exact h.lt
  · exact h.2
theorem OtherL.of {lim : Nat} {w w' : World} {t : TypeId} {k : Nat} (h : OtherL lim w t k) (e : w'.heap[k]? = w.heap[k]?) (hs : w.heap.size ≤ w'.heap.size) : OtherL lim w' t k := by
  rcases h with h | h
  · exact .inl (h.of e)
  · exact .inr ⟨h.1, by omega⟩
/-- Only blocks of the element type t, from base on and below lim, and new ones, may have turned. -/
structure FrmL (base lim : Nat) (t : TypeId) (w w' : World) : Prop where
  below : Below base w w'
  block : ∀ k, k < w.heap.size → OtherL lim w t k → w'.heap[k]? = w.heap[k]?
theorem FrmL.refl (base lim : Nat) (t : TypeId) (w : World) : FrmL base lim t w w := ⟨Below.refl _ _, fun _ _ _ => rfl⟩
theorem FrmL.trans {base lim : Nat} {t : TypeId} {a b c : World} (h : FrmL base lim t a b) (g : FrmL base lim t b c) : FrmL base lim t a c :=
  ⟨h.below.trans g.below, fun k hk ho => by
    have e := h.block k hk ho
    exact (g.block k (by have := h.below.size; omega) (ho.of e h.below.size)).trans e⟩
theorem FrmL.of_below {base lim : Nat} {t : TypeId} {w w' : World} (h : Below w.heap.size w w') (hb : base ≤ w.heap.size) : FrmL base lim t w w' := ⟨h.mono hb, fun k hk _ => h.block k hk⟩
theorem FrmL.cell {base lim : Nat} {t : TypeId} {w w' : World} (h : FrmL base lim t w w') {p : Addr} (ho : OtherL lim w t p.block) : w'.cell? p = w.cell? p := World.cell?_of_block (h.block p.block ho.lt ho)
theorem FrmL.drewN {base lim : Nat} {t : TypeId} {w w' : World} (h : FrmL base lim t w w') (n : Nat) : FrmL base lim t w (w'.drewN n) := ⟨⟨h.below.os, h.below.tape, h.below.output, h.below.size, h.below.block⟩, h.block⟩
theorem FrmL.frm {base lim : Nat} {t : TypeId} {w w' : World} (h : FrmL base lim t w w') : Frm base t w w' := ⟨h.below, fun k hk ho => h.block k hk ho.l⟩
theorem FrmL.far {base lim : Nat} {t : TypeId} {w w' : World} (h : FrmL base lim t w w') : ∀ k, lim ≤ k → k < w.heap.size → w'.heap[k]? = w.heap[k]? := fun k h1 h2 => h.block k h2 (.inr ⟨h1, h2⟩)
theorem FrmL.set {base lim : Nat} {t : TypeId} {w w' : World} (h : FrmL base lim t w w') (hb : base ≤ w.heap.size) {g : Nat} (hg : base ≤ g) (hgl : g < lim) (ht : ∃ cur, w'.heap[g]? = some (.cells cur t (0, 0))) (c : Nat) (v : Value) : FrmL base lim t w (w'.setCell ⟨g, c, none⟩ v) := by
  obtain ⟨cur, ht⟩ := ht
  refine ⟨h.below.setCell (p := ⟨g, c, none⟩) hg v, fun k hk ho => ?_⟩
  have e := h.block k hk ho
  refine (Below.heap_setCell _ _ _ _ (fun e2 => ?_)).trans e
  have e3 : k = g := e2
  subst e3
  rcases ho with ⟨cur', T, mk, h1, h2⟩ | h1
  · rw [e, h1] at ht
    injection ht with ht
    injection ht with _ hT
    exact h2 hT
  · omega
theorem own_frmL {w w' : World} {base b2 lim : Nat} {t T : TypeId} {size n : Nat} {v : Value} {xs : List Value} (ho : w.ownsRow b2 T size v n xs) (hf : FrmL base lim t w w') (hne : T ≠ t) : w'.ownsRow b2 T size v n xs := own_frm ho hf.frm hne
/-- Only blocks of the types t and T, from base on and below lim, and new ones, may have turned. -/
structure Frm2L (base lim : Nat) (t T : TypeId) (w w' : World) : Prop where
  below : Below base w w'
  block : ∀ k, k < w.heap.size → OtherL lim w t k → OtherL lim w T k → w'.heap[k]? = w.heap[k]?
theorem Frm2L.refl (base lim : Nat) (t T : TypeId) (w : World) : Frm2L base lim t T w w := ⟨Below.refl _ _, fun _ _ _ _ => rfl⟩
theorem Frm2L.cell {base lim : Nat} {t T : TypeId} {w w' : World} (h : Frm2L base lim t T w w') {p : Addr} (h1 : OtherL lim w t p.block) (h2 : OtherL lim w T p.block) : w'.cell? p = w.cell? p := World.cell?_of_block (h.block p.block h1.lt h1 h2)
theorem Frm2L.frm {base lim : Nat} {t T : TypeId} {w w' : World} (h : Frm2L base lim t T w w') : Frm2 base t T w w' := ⟨h.below, fun k hk h1 h2 => h.block k hk h1.l h2.l⟩
theorem Frm2L.far {base lim : Nat} {t T : TypeId} {w w' : World} (h : Frm2L base lim t T w w') : ∀ k, lim ≤ k → k < w.heap.size → w'.heap[k]? = w.heap[k]? := fun k h1 h2 => h.block k h2 (.inr ⟨h1, h2⟩) (.inr ⟨h1, h2⟩)
theorem Frm2L.grown {base lim : Nat} {t T : TypeId} {w w2 w3 : World} {row : Option Nat} (h : Frm2L base lim t T w w2) (hg : w2.grownBy w3 row) (hb : base ≤ w.heap.size) (hr : ∀ r, row = some r → base ≤ r ∧ (HB w2 r t ∨ HB w2 r T) ∧ (r < lim ∨ w.heap.size ≤ r)) : Frm2L base lim t T w w3 := by
  refine ⟨h.below.grown hg (by have := h.below.size; omega) (fun k e => (hr k e).1), fun k hk h1 h2 => ?_⟩
  have e := h.block k hk h1 h2
  refine (hg.block k (by have := h.below.size; omega) (fun e2 => ?_)).trans e
  obtain ⟨_, r2, r3⟩ := hr k e2.symm
  have hkl : k < lim := by omega
  rcases h1 with ⟨c1, T1, m1, a1, b1⟩ | h1
  · rcases h2 with ⟨c2, T2, m2, a2, b2⟩ | h2
    · rcases r2 with ⟨cur, hc⟩ | ⟨cur, hc⟩
      · rw [e, a1] at hc
        injection hc with hc
        injection hc with _ hT
        exact b1 hT
      · rw [e, a2] at hc
        injection hc with hc
        injection hc with _ hT
        exact b2 hT
    · omega
  · omega
theorem own_frm2L {w w' : World} {base b2 lim : Nat} {t t2 T : TypeId} {size n : Nat} {v : Value} {xs : List Value} (ho : w.ownsRow b2 T size v n xs) (hf : Frm2L base lim t t2 w w') (hne : T ≠ t) (hne2 : T ≠ t2) : w'.ownsRow b2 T size v n xs := own_frm2 ho hf.frm hne hne2
/-- What stands between two rounds of growing one list. -/
structure MidL (base lim : Nat) (t T : TypeId) (s : Nat) (es : List Ent) (mk : Nat → List Value) (lg : Nat → Ent) (k h B : Nat) (box : Obj) (w w2 : World) : Prop where
  frm : Frm2L base lim t T w w2
  hb : HB w2 h T
  held : Held w2 h es lg
  grown : Grown3 w w2 base t s es mk lg k
  bx : w2.heap[B]? = some box
theorem MidL.fresh {base lim : Nat} {t T : TypeId} {s : Nat} {es : List Ent} {mk : Nat → List Value} {lg : Nat → Ent} {k h B : Nat} {box : Obj} {w w2 w3 : World} (m : MidL base lim t T s es mk lg k h B box w w2) (hg : w2.grownBy w3 none) (hb : base ≤ w.heap.size) : MidL base lim t T s es mk lg k h B box w w3 := by
  have hB : B < w2.heap.size := (Array.getElem?_eq_some_iff.1 m.bx).1
  exact ⟨m.frm.grown hg hb (fun r e => by cases e), m.hb.same (hg.block h m.hb.lt (by simp)), m.held.same (hg.block h m.hb.lt (by simp)), m.grown.below hg, (hg.block B hB (by simp)).trans m.bx⟩
theorem MidL.row {base lim : Nat} {t T : TypeId} {s : Nat} {es : List Ent} {mk : Nat → List Value} {lg : Nat → Ent} {k h B g so : Nat} {cur : Array Value} {e : Ent} {cs : Array Value} {w w2 w3 : World}
    (m : MidL base lim t T s es mk lg k h B (.cells cs T) w w2) (hg : w2.grownBy w3 (some g)) (hb : base ≤ w.heap.size) (hgb : base ≤ g) (hgt : w2.heap[g]? = some (.cells cur t (0, 0))) (hne : T ≠ t) (he : es[k]? = some e)
    (hso : w.heap.size ≤ so) (hlong : ∀ (j : Nat) (e : Ent), es[j]? = some e → j < k → ∀ b, (lg j).blk = some b → b < so) (hloc : e.blk = some g ∨ so ≤ g) (hf : Full w3 base t s e (mk e.num)) (hold : ∀ b, e.blk = some b → b < lim) : MidL base lim t T s es mk lg k h B (.cells cs T) w w3 := by
  have m0 : Mid base t T s es mk lg k h B (.cells cs T) w w2 := ⟨m.frm.frm, m.hb, m.held, m.grown, m.bx⟩
  have m3 := m0.row hg hb hgb hgt hne he hso hlong hloc hf
  exact ⟨m.frm.grown hg hb (fun r e' => by
    injection e' with e'
    subst e'
    refine ⟨hgb, .inl ⟨_, hgt⟩, ?_⟩
    rcases hloc with h1 | h1
    · exact .inl (hold _ h1)
    · exact .inr (by omega)), m3.hb, m3.held, m3.grown, m3.bx⟩
theorem KIn.old {w : World} {base : Nat} {t T : TypeId} {s : Nat} {es : List Ent} {mk : Nat → List Value} {k : Nat} {sv : Value} (h : KIn w base t T s es mk k sv) : (∀ (j : Nat) (e : Ent), es[j]? = some e → ∀ b, e.blk = some b → b < w.heap.size) ∧ ∀ g, sv.ownBlock = some g → g < w.heap.size := by
  refine ⟨fun j e hj b hb => ?_, fun g hg => ?_⟩
  · obtain ⟨xs, q1, _⟩ := h.lists.own j e hj
    exact (q1.lt b hb).2
  · rcases h.row with ⟨_, h2⟩ | ⟨b, c, h1, h2⟩
    · rw [h2] at hg; simp [Value.ownBlock] at hg
    · exact (h2.lt g hg).2
end Bk
end Go.Proofs.YtkmngbkghgelfaaGreat
