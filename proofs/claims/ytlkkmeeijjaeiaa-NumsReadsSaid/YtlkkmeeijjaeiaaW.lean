/- Words for the Book of the statements, more: what stands while the lists grow. Over any program. -/
import Derived.Test.YtlkkmeeijjaeiaaU
namespace Go.Proofs.Ytlkkmeeijjaeiaa
open Go.RowKit
set_option linter.unusedVariables false
/-- The row of a kind's entries: each has its list, what it grew to, and its number. -/
def Held (w : World) (h : Nat) (es : List Ent) (lg : Nat → Ent) : Prop :=
  ∀ i e, es[i]? = some e → w.cell? ⟨h, i * 3, none⟩ = some (.slice e.A e.len e.cap) ∧ w.cell? ⟨h, i * 3 + 1, none⟩ = some (.slice (lg i).A (lg i).len (lg i).cap) ∧ w.cell? ⟨h, i * 3 + 2, none⟩ = some (.int .i64 e.num)
/-- Block h is cells of the type T, none frozen. -/
def HB (w : World) (h : Nat) (T : TypeId) : Prop := ∃ cur, w.heap[h]? = some (.cells cur T (0, 0))
theorem HB.lt {w : World} {h : Nat} {T : TypeId} (hb : HB w h T) : h < w.heap.size := by
  obtain ⟨cur, hc⟩ := hb
  exact (Array.getElem?_eq_some_iff.1 hc).1
theorem HB.other {w : World} {h : Nat} {T t : TypeId} (hb : HB w h T) (hne : T ≠ t) : Other w t h := by
  obtain ⟨cur, hc⟩ := hb
  exact ⟨cur, T, _, hc, hne⟩
theorem HB.same {w w' : World} {h : Nat} {T : TypeId} (hb : HB w h T) (e : w'.heap[h]? = w.heap[h]?) : HB w' h T := by
  obtain ⟨cur, hc⟩ := hb
  exact ⟨cur, e.trans hc⟩
theorem HB.frozen {w : World} {h : Nat} {T : TypeId} (hb : HB w h T) (i : Nat) : w.frozen? ⟨h, i, none⟩ = false := by
  obtain ⟨cur, hc⟩ := hb
  simp [World.frozen?, hc]
theorem HB.setCell {w : World} {h : Nat} {T : TypeId} (hb : HB w h T) (i : Nat) (v : Value) : HB (w.setCell ⟨h, i, none⟩ v) h T := by
  obtain ⟨cur, hc⟩ := hb
  exact ⟨cur.setIfInBounds i v, heap_setCell_same w h i cur T v hc⟩
/-- Two blocks of unlike types are two. -/
theorem HB.ne {w : World} {h g : Nat} {T t : TypeId} {cur : Array Value} (hb : HB w h T) (hg : w.heap[g]? = some (.cells cur t (0, 0))) (hne : T ≠ t) : h ≠ g := by
  rintro rfl
  obtain ⟨c, hc⟩ := hb
  rw [hc] at hg
  injection hg with hg
  injection hg with _ hT
  exact hne hT
theorem Held.same {w w' : World} {h : Nat} {es : List Ent} {lg : Nat → Ent} (hh : Held w h es lg) (e : w'.heap[h]? = w.heap[h]?) : Held w' h es lg := by
  intro i x hi
  obtain ⟨a, b, c⟩ := hh i x hi
  exact ⟨(World.cell?_of_block (w := w) e).trans a, (World.cell?_of_block (w := w) e).trans b, (World.cell?_of_block (w := w) e).trans c⟩
/-- Only blocks of the types t and T, from base on, and new ones, may have turned. -/
structure Frm2 (base : Nat) (t T : TypeId) (w w' : World) : Prop where
  below : Below base w w'
  block : ∀ k, k < w.heap.size → Other w t k → Other w T k → w'.heap[k]? = w.heap[k]?
theorem Frm2.refl (base : Nat) (t T : TypeId) (w : World) : Frm2 base t T w w := ⟨Below.refl _ _, fun _ _ _ _ => rfl⟩
theorem Frm2.trans {base : Nat} {t T : TypeId} {a b c : World} (h : Frm2 base t T a b) (g : Frm2 base t T b c) : Frm2 base t T a c :=
  ⟨h.below.trans g.below, fun k hk h1 h2 => by
    have e := h.block k hk h1 h2
    exact (g.block k (by have := h.below.size; omega) (h1.of e) (h2.of e)).trans e⟩
theorem Frm2.of_grown {base : Nat} {t T : TypeId} {w w' : World} {row : Option Nat} (h : w.grownBy w' row) (hb : base ≤ w.heap.size) (hg : ∀ r, row = some r → base ≤ r ∧ (HB w r t ∨ HB w r T)) : Frm2 base t T w w' :=
  ⟨(Below.refl _ _).grown h hb (fun k e => (hg k e).1), fun k hk h1 h2 => h.block k hk (fun e => by
    rcases (hg k e.symm).2 with ⟨cur, hc⟩ | ⟨cur, hc⟩
    · obtain ⟨cur', T', mk', hc', hne⟩ := h1
      rw [hc] at hc'; injection hc' with hc'; injection hc' with _ hT; exact hne hT.symm
    · obtain ⟨cur', T', mk', hc', hne⟩ := h2
      rw [hc] at hc'; injection hc' with hc'; injection hc' with _ hT; exact hne hT.symm)⟩
theorem Frm2.cell {base : Nat} {t T : TypeId} {w w' : World} (h : Frm2 base t T w w') {p : Addr} (h1 : Other w t p.block) (h2 : Other w T p.block) : w'.cell? p = w.cell? p := World.cell?_of_block (h.block p.block h1.lt h1 h2)
/-- While the lists grow: each is full; those ahead of k have grown by 40. -/
structure Grown3 (W0 w : World) (base : Nat) (t : TypeId) (es : List Ent) (mk : Nat → Value) (lg : Nat → Ent) (k : Nat) : Prop where
  full : ∀ (j : Nat) (e : Ent), es[j]? = some e → Full w base t e (mk e.num)
  long : ∀ (j : Nat) (e : Ent), es[j]? = some e → j < k → (lg j).len = e.len + 40 ∧ w.ownsRow base t 1 (lg j).val (e.len + 40) (List.replicate (e.len + 40) (mk e.num)) ∧ ((lg j).blk = e.blk ∨ ∃ b, (lg j).blk = some b ∧ W0.heap.size ≤ b)
  apart : ∀ (i j : Nat) (e e' : Ent), i ≠ j → es[i]? = some e → es[j]? = some e' → e.blk = none ∨ e.blk ≠ e'.blk
  old : ∀ (j : Nat) (e : Ent), es[j]? = some e → ∀ b, e.blk = some b → b < W0.heap.size
theorem Grown3.step {W0 w w' : World} {base : Nat} {t : TypeId} {es : List Ent} {mk : Nat → Value} {lg : Nat → Ent} {k : Nat} {row : Option Nat} (h : Grown3 W0 w base t es mk lg k) (hg : w.grownBy w' row)
    (h1 : ∀ (j : Nat) (e : Ent), es[j]? = some e → j ≠ k → e.blk = none ∨ e.blk ≠ row) (h2 : ∀ (e : Ent), es[k]? = some e → Full w' base t e (mk e.num)) (h3 : ∀ (j : Nat) (e : Ent), es[j]? = some e → j < k → (lg j).blk = none ∨ (lg j).blk ≠ row) :
    Grown3 W0 w' base t es mk lg k := by
  refine ⟨fun j e hj => ?_, fun j e hj hjk => ?_, h.apart, h.old⟩
  · by_cases hjk : j = k
    · subst hjk; exact h2 e hj
    · exact (h.full j e hj).kept hg (h1 j e hj hjk)
  · obtain ⟨a, b, c⟩ := h.long j e hj hjk
    exact ⟨a, b.kept hg (h3 j e hj hjk), c⟩
theorem Grown3.below {W0 w w' : World} {base : Nat} {t : TypeId} {es : List Ent} {mk : Nat → Value} {lg : Nat → Ent} {k : Nat} (h : Grown3 W0 w base t es mk lg k) (hg : w.grownBy w' none) : Grown3 W0 w' base t es mk lg k := by
  have aux : ∀ o : Option Nat, o = none ∨ o ≠ none := fun o => by cases o <;> simp
  exact h.step hg (fun j e _ _ => aux _) (fun e he => (h.full k e he).kept hg (aux _)) (fun j e _ _ => aux _)
/-- A store into a block of another type: all rows stay. -/
theorem own_other {w : World} {base : Nat} {t T : TypeId} {size n h i : Nat} {v u : Value} {xs : List Value} (ho : w.ownsRow base t size v n xs) (hb : HB w h T) (hne : T ≠ t) : (w.setCell ⟨h, i, none⟩ u).ownsRow base t size v n xs := by
  refine ho.kept (row := some h) ⟨rfl, rfl, rfl, by simp [World.setCell], fun k _ hk => Below.heap_setCell _ _ _ _ (fun e => hk (by rw [e]))⟩ ?_
  rcases ho.2 with ⟨rfl, _⟩ | ⟨g, cap, cur, rfl, _, hg, _⟩
  · exact .inl rfl
  · refine .inr fun e => ?_
    have : g = h := by simpa [Value.ownBlock] using e
    exact hb.ne hg hne this.symm
theorem Grown3.stored {W0 w : World} {base : Nat} {t T : TypeId} {es : List Ent} {mk : Nat → Value} {lg : Nat → Ent} {k h i : Nat} {u : Value} (hG : Grown3 W0 w base t es mk lg k) (hb : HB w h T) (hne : T ≠ t) : Grown3 W0 (w.setCell ⟨h, i, none⟩ u) base t es mk lg k :=
  ⟨fun j e hj => own_other (hG.full j e hj) hb hne, fun j e hj hjk => by
    obtain ⟨a, b, c⟩ := hG.long j e hj hjk
    exact ⟨a, own_other b hb hne, c⟩, hG.apart, hG.old⟩
theorem Grown3.next {W0 w : World} {base : Nat} {t : TypeId} {es : List Ent} {mk : Nat → Value} {lg : Nat → Ent} {k : Nat} {e L : Ent} (hG : Grown3 W0 w base t es mk lg k) (he : es[k]? = some e) (hl : L.len = e.len + 40)
    (ho : w.ownsRow base t 1 L.val (e.len + 40) (List.replicate (e.len + 40) (mk e.num))) (hb : L.blk = e.blk ∨ ∃ b, L.blk = some b ∧ W0.heap.size ≤ b) :
    Grown3 W0 w base t es mk (fun j => if j = k then L else lg j) (k + 1) := by
  refine ⟨hG.full, fun j e' hj hjk => ?_, hG.apart, hG.old⟩
  by_cases h : j = k
  · subst h
    rw [he] at hj
    injection hj with hj
    subst hj
    simp only [if_pos]
    exact ⟨hl, ho, hb⟩
  · simp only [if_neg h]
    exact hG.long j e' hj (by omega)
theorem Held.stored {w : World} {h : Nat} {es : List Ent} {lg : Nat → Ent} {k : Nat} {e L : Ent} (hh : Held w h es lg) (he : es[k]? = some e) : Held (w.setCell ⟨h, k * 3 + 1, none⟩ (.slice L.A L.len L.cap)) h es (fun j => if j = k then L else lg j) := by
  intro i x hi
  obtain ⟨a, b, c⟩ := hh i x hi
  refine ⟨?_, ?_, ?_⟩
  · rw [World.cell?_setCell_other _ _ _ _ (fun e => by injection e with _ e; omega)]; exact a
  · by_cases hik : i = k
    · subst hik
      simp only [if_pos]
      exact World.cell?_setCell_same' _ _ _ (by rw [b]; rfl)
    · simp only [if_neg hik]
      rw [World.cell?_setCell_other _ _ _ _ (fun e => by injection e with _ e; omega)]; exact b
  · rw [World.cell?_setCell_other _ _ _ _ (fun e => by injection e with _ e; omega)]; exact c
/-- A longer row's beginning. -/
theorem own_shrink {w : World} {base : Nat} {t : TypeId} {A : Option Addr} {n c cap : Nat} {m : Value} (h : w.ownsRow base t 1 (.slice A (n + c) cap) (n + c) (List.replicate (n + c) m)) : w.ownsRow base t 1 (.slice A n cap) n (List.replicate n m) := by
  refine ⟨by simp, ?_⟩
  rcases h.2 with ⟨hv, h0⟩ | ⟨g, cap', cur, hv, hb, hg, h1, h2, h3, h4⟩
  · injection hv with q1 q2 q3
    exact .inl ⟨by rw [q1, q3, show n = 0 by omega], by omega⟩
  · injection hv with q1 _ q3
    refine .inr ⟨g, cap', cur, by rw [q1, q3], hb, hg, by omega, h2, h3, ?_⟩
    have := congrArg (List.take n) h4
    rw [List.take_take, Nat.min_eq_left (by omega), List.take_replicate, Nat.min_eq_left (by omega)] at this
    rwa [Nat.mul_one]
theorem rep_snoc (n c : Nat) (m : Value) : List.replicate (n + c) m ++ [m] = List.replicate (n + (c + 1)) m := by
  rw [← Nat.add_assoc, List.replicate_succ']
end Go.Proofs.Ytlkkmeeijjaeiaa
namespace Go.Proofs.Ytlkkmeeijjaeiaa
open Go.RowKit
theorem own_parts' {w : World} {base e size n cap : Nat} {A : Option Addr} {xs : List Value} (h : w.ownsRow base e size (.slice A n cap) n xs) (hn : 0 < cap) : ∃ g cur, A = some ⟨g, 0, none⟩ ∧ base ≤ g ∧ w.heap[g]? = some (.cells cur e (0, 0)) := by
  rcases h.2 with ⟨hv, h0⟩ | ⟨g, cap', cur, hv, hb, hg, _⟩
  · injection hv with _ _ h3; omega
  · injection hv with h1
    exact ⟨g, cur, h1, hb, hg⟩
theorem own_base' {w : World} {b b' e size n : Nat} {v : Value} {xs : List Value} (h : w.ownsRow b e size v n xs) (hb : b' ≤ b) : w.ownsRow b' e size v n xs := by
  refine ⟨h.1, ?_⟩
  rcases h.2 with h1 | ⟨g, cap, cur, h1, h2, r⟩
  · exact .inl h1
  · exact .inr ⟨g, cap, cur, h1, by omega, r⟩
theorem own_nil {w : World} {base e size n cap : Nat} {A : Option Addr} {xs : List Value} (h : w.ownsRow base e size (.slice A n cap) n xs) : A = none → n = 0 ∧ cap = 0 := by
  rintro rfl
  rcases h.2 with ⟨hv, h0⟩ | ⟨g, cap', cur, hv, _⟩
  · injection hv with _ _ h3; exact ⟨h0, h3⟩
  · cases hv
theorem own_olds {w : World} {base e n cap : Nat} {A : Option Addr} {xs : List Value} (h : w.ownsRow base e 1 (.slice A n cap) n xs) : ∀ b, A = some b → ∀ j u, xs[j]? = some u → w.cell? (b.add j) = some u := by
  rintro b rfl j u hu
  rcases h.2 with ⟨hv, h0⟩ | ⟨g, cap', cur, hv, _⟩
  · cases hv
  · injection hv with h1 _ h3
    injection h1 with h1
    subst h1 h3
    have hj : j < n * 1 := by
      rcases Nat.lt_or_ge j (n * 1) with h2 | h2
      · exact h2
      · rw [List.getElem?_eq_none (by rw [h.1]; exact h2)] at hu; cases hu
    have := h.cellAt j hj
    have ea : (⟨g, 0, none⟩ : Addr).add j = ⟨g, j, none⟩ := by unfold Addr.add; split <;> simp_all
    rw [ea, this, hu]
/-- What stands between two rounds of growing one list. -/
structure Mid (base : Nat) (t T : TypeId) (es : List Ent) (mk : Nat → Value) (lg : Nat → Ent) (k h B : Nat) (box : Obj) (w w2 : World) : Prop where
  frm : Frm2 base t T w w2
  hb : HB w2 h T
  held : Held w2 h es lg
  grown : Grown3 w w2 base t es mk lg k
  bx : w2.heap[B]? = some box
/-- New blocks alone. -/
theorem Mid.fresh {base : Nat} {t T : TypeId} {es : List Ent} {mk : Nat → Value} {lg : Nat → Ent} {k h B : Nat} {box : Obj} {w w2 w3 : World} (m : Mid base t T es mk lg k h B box w w2) (hg : w2.grownBy w3 none) (hb : base ≤ w.heap.size) : Mid base t T es mk lg k h B box w w3 := by
  have hB : B < w2.heap.size := (Array.getElem?_eq_some_iff.1 m.bx).1
  exact ⟨m.frm.trans (Frm2.of_grown hg (by have := m.frm.below.size; omega) (fun r e => by cases e)), m.hb.same (hg.block h m.hb.lt (by simp)), m.held.same (hg.block h m.hb.lt (by simp)), m.grown.below hg, (hg.block B hB (by simp)).trans m.bx⟩
/-- A write into the list's own block, or the one that it grew into. -/
theorem Mid.row {base : Nat} {t T : TypeId} {es : List Ent} {mk : Nat → Value} {lg : Nat → Ent} {k h B g so : Nat} {cur : Array Value} {e : Ent} {cs : Array Value} {w w2 w3 : World}
    (m : Mid base t T es mk lg k h B (.cells cs T) w w2) (hg : w2.grownBy w3 (some g)) (hb : base ≤ w.heap.size) (hgb : base ≤ g) (hgt : w2.heap[g]? = some (.cells cur t (0, 0))) (hne : T ≠ t) (he : es[k]? = some e)
    (hso : w.heap.size ≤ so) (hlong : ∀ (j : Nat) (e : Ent), es[j]? = some e → j < k → ∀ b, (lg j).blk = some b → b < so) (hloc : e.blk = some g ∨ so ≤ g) (hf : Full w3 base t e (mk e.num)) : Mid base t T es mk lg k h B (.cells cs T) w w3 := by
  have hB : B < w2.heap.size := (Array.getElem?_eq_some_iff.1 m.bx).1
  have hhg : h ≠ g := m.hb.ne hgt hne
  have hBg : B ≠ g := HB.ne ⟨cs, m.bx⟩ hgt hne
  refine ⟨m.frm.trans (Frm2.of_grown hg (by have := m.frm.below.size; omega) (fun r e => by injection e with e; subst e; exact ⟨hgb, .inl ⟨_, hgt⟩⟩)), m.hb.same (hg.block h m.hb.lt (fun e => hhg (by injection e))), m.held.same (hg.block h m.hb.lt (fun e => hhg (by injection e))), ?_, (hg.block B hB (fun e => hBg (by injection e))).trans m.bx⟩
  refine m.grown.step hg (fun j e' hj hjk => ?_) (fun e' he' => ?_) (fun j e' hj hjk => ?_)
  · rcases hloc with h1 | h1
    · rw [← h1]; exact m.grown.apart j k e' e hjk hj he
    · cases hbk : e'.blk with
      | none => exact .inl rfl
      | some b => exact .inr (fun e => by injection e with e; have := m.grown.old j e' hj b hbk; omega)
  · rw [he] at he'; injection he' with he'; subst he'; exact hf
  · cases hbk : (lg j).blk with
    | none => exact .inl rfl
    | some b =>
      refine .inr (fun e2 => ?_)
      injection e2 with e2
      subst e2
      rcases hloc with h1 | h1
      · rcases (m.grown.long j e' hj hjk).2.2 with h2 | ⟨b', h2, h3⟩
        · have := m.grown.apart j k e' e (by omega) hj he
          rw [h1, ← h2, hbk] at this
          rcases this with h4 | h4
          · cases h4
          · exact h4 rfl
        · rw [hbk] at h2; injection h2 with h2
          have := m.grown.old k e he b h1
          omega
      · have := hlong j e' hj hjk b hbk
        omega
end Go.Proofs.Ytlkkmeeijjaeiaa
