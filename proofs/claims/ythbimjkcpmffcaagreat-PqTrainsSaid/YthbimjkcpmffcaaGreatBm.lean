/- Kinds whose marks have memory of their own: M w n v: in w the value v is a mark of number n. Over any program. -/
import Derived.Test.YthbimjkcpmffcaaGreatBl
namespace Go.Proofs.YthbimjkcpmffcaaGreat
open Go.RowKit
set_option linter.unusedVariables false
namespace Bk
/-- A mark's memory lies from lim on, in blocks of other types than t. -/
def Stab (lim : Nat) (t : TypeId) (M : World → Nat → Value → Prop) : Prop := ∀ (w w' : World) (n : Nat) (v : Value), (∀ k, lim ≤ k → Other w t k → w'.heap[k]? = w.heap[k]?) → M w n v → M w' n v
theorem Stab.below {lim : Nat} {t : TypeId} {M : World → Nat → Value → Prop} (h : Stab lim t M) {w w' : World} (hb : Below w.heap.size w w') {n : Nat} {v : Value} (m : M w n v) : M w' n v := h w w' n v (fun k _ hk => hb.block k hk.lt) m
theorem Stab.grown {lim : Nat} {t : TypeId} {M : World → Nat → Value → Prop} (h : Stab lim t M) {w w' : World} {row : Option Nat} {n : Nat} {v : Value} (hg : w.grownBy w' row) (hr : ∀ r, row = some r → r < lim ∨ ∃ cur, w.heap[r]? = some (.cells cur t (0, 0))) (m : M w n v) : M w' n v :=
  h w _ n v (fun k hl hk => hg.block k hk.lt (fun e => by
    rcases hr k e.symm with h1 | ⟨cur, h1⟩
    · omega
    · obtain ⟨cur', T, mk, h2, h3⟩ := hk
      rw [h1] at h2
      injection h2 with h2
      injection h2 with _ hT
      exact h3 hT.symm)) m
theorem Stab.set {lim : Nat} {t : TypeId} {M : World → Nat → Value → Prop} (h : Stab lim t M) {w : World} {g c n : Nat} {u v : Value} (hg : g < lim ∨ ∃ cur, w.heap[g]? = some (.cells cur t (0, 0))) (m : M w n v) : M (w.setCell ⟨g, c, none⟩ u) n v :=
  h.grown (grown_set w g c u) (fun r e => by injection e with e; subst e; exact hg) m
theorem Stab.far {lim : Nat} {t : TypeId} {M : World → Nat → Value → Prop} (h : Stab lim t M) {w w' : World} {n : Nat} {v : Value} (hf : ∀ k, lim ≤ k → k < w.heap.size → w'.heap[k]? = w.heap[k]?) (m : M w n v) : M w' n v := h w w' n v (fun k hl hk => hf k hl hk.lt) m
/-- What an entry's list holds: marks alone. -/
def FullM (w : World) (base : Nat) (t : TypeId) (v : Value) (n num : Nat) (M : World → Nat → Value → Prop) : Prop := ∃ xs, w.ownsRow base t 1 v n xs ∧ ∀ x ∈ xs, M w num x
structure ListsM (w : World) (base : Nat) (t : TypeId) (es : List Ent) (M : World → Nat → Value → Prop) (k : Nat) : Prop where
  own : ∀ j e, es[j]? = some e → ∃ xs, w.ownsRow base t 1 e.val e.len xs ∧ (j < k → ∀ x ∈ xs, M w e.num x)
  apart : ∀ (i j : Nat) (e e' : Ent), i ≠ j → es[i]? = some e → es[j]? = some e' → e.blk = none ∨ e.blk ≠ e'.blk
theorem ListsM.start {w : World} {base : Nat} {t : TypeId} {es : List Ent} {mk : Nat → List Value} {M : World → Nat → Value → Prop} {k : Nat} (h : Lists w base t 1 es mk k) : ListsM w base t es M 0 :=
  ⟨fun j e hj => by obtain ⟨xs, h1, _⟩ := h.own j e hj; exact ⟨xs, h1, fun hlt => by omega⟩, h.apart⟩
theorem ListsM.kept {w w' : World} {base lim : Nat} {t : TypeId} {es : List Ent} {M : World → Nat → Value → Prop} {k : Nat} (h : ListsM w base t es M k) (hs : Stab lim t M) (hb : Below w.heap.size w w') : ListsM w' base t es M k :=
  ⟨fun j e hj => by
    obtain ⟨xs, h1, h2⟩ := h.own j e hj
    exact ⟨xs, own_bel h1 hb, fun hlt x hx => hs.below hb (h2 hlt x hx)⟩, h.apart⟩
/-- A store into the k-th list: the others stay. -/
theorem ListsM.stored {w : World} {base lim : Nat} {t : TypeId} {es : List Ent} {M : World → Nat → Value → Prop} {k : Nat} {e : Ent} {g c : Nat} {m : Value} (h : ListsM w base t es M k) (hs : Stab lim t M) (hgl : g < lim) (hk : es[k]? = some e) (hA : e.A = some ⟨g, 0, none⟩) :
    ListsM (w.setCell ⟨g, c, none⟩ m) base t es M k := by
  refine ⟨fun j e' hj => ?_, h.apart⟩
  obtain ⟨xs, h1, h2⟩ := h.own j e' hj
  by_cases hjk : j = k
  · subst hjk
    rw [hk] at hj
    injection hj with hj
    subst hj
    have hv : e.val = .slice (some ⟨g, 0, none⟩) e.len e.cap := by unfold Ent.val; rw [hA]
    rw [hv] at h1 ⊢
    exact ⟨_, (h1.stored c m).1, fun hlt => by omega⟩
  · refine ⟨xs, h1.kept (grown_set _ _ _ _) ?_, fun hlt x hx => hs.set (.inl hgl) (h2 hlt x hx)⟩
    have := h.apart j k e' e hjk hj hk
    rcases this with h3 | h3
    · exact .inl h3
    · refine .inr fun h4 => h3 ?_
      have : e.blk = some g := by unfold Ent.blk Ent.val; rw [hA]; rfl
      rw [this]
      exact h4
theorem ListsM.next {w : World} {base : Nat} {t : TypeId} {es : List Ent} {M : World → Nat → Value → Prop} {k : Nat} {e : Ent} (h : ListsM w base t es M k) (hk : es[k]? = some e) (hf : FullM w base t e.val e.len e.num M) : ListsM w base t es M (k + 1) := by
  refine ⟨fun j e' hj => ?_, h.apart⟩
  by_cases hjk : j = k
  · subst hjk
    rw [hk] at hj
    injection hj with hj
    subst hj
    obtain ⟨xs, h1, h2⟩ := hf
    exact ⟨xs, h1, fun _ => h2⟩
  · obtain ⟨xs, h1, h2⟩ := h.own j e' hj
    exact ⟨xs, h1, fun hlt => h2 (by omega)⟩
/-- A list whose elements ahead of k are marks. -/
def UptoM (w : World) (base : Nat) (t : TypeId) (e : Ent) (M : World → Nat → Value → Prop) (k : Nat) : Prop := ∃ xs, w.ownsRow base t 1 e.val e.len xs ∧ ∀ i x, i < k → xs[i]? = some x → M w e.num x
theorem UptoM.below {w w' : World} {base lim : Nat} {t : TypeId} {e : Ent} {M : World → Nat → Value → Prop} {k : Nat} (h : UptoM w base t e M k) (hs : Stab lim t M) (hb : Below w.heap.size w w') : UptoM w' base t e M k := by
  obtain ⟨xs, h1, h2⟩ := h
  exact ⟨xs, own_bel h1 hb, fun i x hi hx => hs.below hb (h2 i x hi hx)⟩
theorem UptoM.step {w : World} {base lim : Nat} {t : TypeId} {e : Ent} {M : World → Nat → Value → Prop} {k g : Nat} {v : Value} (h : UptoM w base t e M k) (hs : Stab lim t M) (hgl : g < lim) (hA : e.A = some ⟨g, 0, none⟩) (hv : M w e.num v) : UptoM (w.setCell ⟨g, k, none⟩ v) base t e M (k + 1) := by
  obtain ⟨xs, h1, h2⟩ := h
  have hw : e.val = .slice (some ⟨g, 0, none⟩) e.len e.cap := by unfold Ent.val; rw [hA]
  unfold UptoM
  rw [hw] at h1 ⊢
  refine ⟨_, (h1.stored k v).1, fun i x hi hx => ?_⟩
  rw [List.getElem?_set] at hx
  by_cases e' : k = i
  · subst e'
    rw [if_pos rfl] at hx
    split at hx
    · injection hx with hx; subst hx; exact hs.set (.inl hgl) hv
    · cases hx
  · rw [if_neg e'] at hx; exact hs.set (.inl hgl) (h2 i x (by omega) hx)
theorem UptoM.full {w : World} {base : Nat} {t : TypeId} {e : Ent} {M : World → Nat → Value → Prop} (h : UptoM w base t e M e.len) : FullM w base t e.val e.len e.num M := by
  obtain ⟨xs, h1, h2⟩ := h
  have hlen : xs.length = e.len * 1 := h1.1
  refine ⟨xs, h1, fun x hx => ?_⟩
  obtain ⟨i, hi⟩ := List.getElem?_of_mem hx
  exact h2 i x (by have := (List.getElem?_eq_some_iff.1 hi).1; omega) hi
/-- The end of a round of filling: a mark is made, and stored. -/
theorem fill_endM {base lim t T B c k g : Nat} {es : List Ent} {e : Ent} {M : World → Nat → Value → Prop} {cs : Array Value} {v : Value} {w wr w2 : World} (hb : base ≤ w.heap.size) (hs : Stab lim t M) (hF : FrmL base lim t w wr) (hL : ListsM wr base t es M k) (hB : wr.heap[B]? = some (.cells cs T (0, 0))) (hne : T ≠ t)
    (hU : UptoM wr base t e M c) (hA : e.A = some ⟨g, 0, none⟩) (hgl : ∀ b, e.blk = some b → b < lim) (he : es[k]? = some e) (hc : c < e.len) (hbl : Below wr.heap.size wr w2) (hm : M w2 e.num v) :
    FrmL base lim t w (w2.setCell ⟨g, c, none⟩ v) ∧ ListsM (w2.setCell ⟨g, c, none⟩ v) base t es M k ∧ (w2.setCell ⟨g, c, none⟩ v).heap[B]? = some (.cells cs T (0, 0)) ∧ UptoM (w2.setCell ⟨g, c, none⟩ v) base t e M (c + 1) := by
  have F2 : FrmL base lim t w w2 := hF.trans (FrmL.of_below hbl (by have := hF.below.size; omega))
  have L2 := hL.kept hs hbl
  have U2 := hU.below hs hbl
  have hl : B < wr.heap.size := (Array.getElem?_eq_some_iff.1 hB).1
  have B2 : w2.heap[B]? = some (.cells cs T (0, 0)) := (hbl.block B hl).trans hB
  obtain ⟨xs, hown, _⟩ := id U2
  obtain ⟨g', cur, hA', hgb, hg⟩ := own_parts hown (by omega)
  rw [hA] at hA'
  have eg : g' = g := by injection hA' with h; injection h with h; exact h.symm
  subst eg
  have hgl' : g' < lim := hgl g' (by unfold Ent.blk Ent.val; rw [hA]; rfl)
  have nB : B ≠ g' := HB.ne ⟨cs, B2⟩ hg hne
  exact ⟨F2.set hb hgb hgl' ⟨_, hg⟩ c v, L2.stored hs hgl' he hA, (Below.heap_setCell _ _ _ _ nB).trans B2, U2.step hs hgl' hA hm⟩
theorem ListsM.drew {w : World} {base lim : Nat} {t : TypeId} {es : List Ent} {M : World → Nat → Value → Prop} {k : Nat} (h : ListsM w base t es M k) (hs : Stab lim t M) : ListsM w.drew base t es M k := ⟨fun j e hj => by
  obtain ⟨xs, h1, h2⟩ := h.own j e hj
  exact ⟨xs, h1, fun hlt x hx => hs w _ _ _ (fun _ _ _ => rfl) (h2 hlt x hx)⟩, h.apart⟩
theorem UptoM.drew {w : World} {base lim : Nat} {t : TypeId} {e : Ent} {M : World → Nat → Value → Prop} {k : Nat} (h : UptoM w base t e M k) (hs : Stab lim t M) : UptoM w.drew base t e M k := by
  obtain ⟨xs, h1, h2⟩ := h
  exact ⟨xs, h1, fun i x hi hx => hs w _ _ _ (fun _ _ _ => rfl) (h2 i x hi hx)⟩
/-- While the lists grow: each is full of marks; those ahead of k have grown by 40. -/
structure GrownM (W0 w : World) (base : Nat) (t : TypeId) (es : List Ent) (M : World → Nat → Value → Prop) (lg : Nat → Ent) (k : Nat) : Prop where
  full : ∀ (j : Nat) (e : Ent), es[j]? = some e → FullM w base t e.val e.len e.num M
  long : ∀ (j : Nat) (e : Ent), es[j]? = some e → j < k → (lg j).len = e.len + 40 ∧ FullM w base t (lg j).val (e.len + 40) e.num M ∧ ((lg j).blk = e.blk ∨ ∃ b, (lg j).blk = some b ∧ W0.heap.size ≤ b)
  apart : ∀ (i j : Nat) (e e' : Ent), i ≠ j → es[i]? = some e → es[j]? = some e' → e.blk = none ∨ e.blk ≠ e'.blk
  old : ∀ (j : Nat) (e : Ent), es[j]? = some e → ∀ b, e.blk = some b → b < W0.heap.size
theorem FullM.kept {w w' : World} {base lim n num : Nat} {t : TypeId} {v : Value} {M : World → Nat → Value → Prop} {row : Option Nat} (h : FullM w base t v n num M) (hs : Stab lim t M) (hg : w.grownBy w' row) (hr : ∀ r, row = some r → r < lim ∨ ∃ cur, w.heap[r]? = some (.cells cur t (0, 0))) (ho : v.ownBlock = none ∨ v.ownBlock ≠ row) : FullM w' base t v n num M := by
  obtain ⟨xs, h1, h2⟩ := h
  exact ⟨xs, h1.kept hg ho, fun x hx => hs.grown hg hr (h2 x hx)⟩
theorem FullM.map {w w' : World} {base n num : Nat} {t : TypeId} {v : Value} {M : World → Nat → Value → Prop} (h : FullM w base t v n num M) (f : ∀ {v : Value} {n : Nat} {xs : List Value}, w.ownsRow base t 1 v n xs → w'.ownsRow base t 1 v n xs) (m : ∀ {n : Nat} {v : Value}, M w n v → M w' n v) : FullM w' base t v n num M := by
  obtain ⟨xs, h1, h2⟩ := h
  exact ⟨xs, f h1, fun x hx => m (h2 x hx)⟩
theorem FullM.drew {w : World} {base lim n num : Nat} {t : TypeId} {v : Value} {M : World → Nat → Value → Prop} (h : FullM w base t v n num M) (hs : Stab lim t M) : FullM w.drew base t v n num M := h.map (fun h => h) (fun m => hs w _ _ _ (fun _ _ _ => rfl) m)
/-- A store into a block of another type, below lim. -/
theorem FullM.other {w : World} {base lim h i n num : Nat} {t T : TypeId} {v u : Value} {M : World → Nat → Value → Prop} (hf : FullM w base t v n num M) (hs : Stab lim t M) (hb : HB w h T) (hne : T ≠ t) (hl : h < lim) : FullM (w.setCell ⟨h, i, none⟩ u) base t v n num M :=
  hf.map (fun ho => own_other ho hb hne) (fun m => hs.set (.inl hl) m)
theorem FullM.own {w : World} {base n num : Nat} {t : TypeId} {v : Value} {M : World → Nat → Value → Prop} (h : FullM w base t v n num M) : ∃ xs, w.ownsRow base t 1 v n xs ∧ ∀ x ∈ xs, M w num x := h
theorem FullM.lt {w : World} {base n num : Nat} {t : TypeId} {v : Value} {M : World → Nat → Value → Prop} (h : FullM w base t v n num M) : ∀ b, v.ownBlock = some b → base ≤ b ∧ b < w.heap.size := by
  obtain ⟨xs, h1, _⟩ := h
  exact fun b hb => h1.lt b hb
theorem GrownM.step {W0 w w' : World} {base lim : Nat} {t : TypeId} {es : List Ent} {M : World → Nat → Value → Prop} {lg : Nat → Ent} {k : Nat} {row : Option Nat} (h : GrownM W0 w base t es M lg k) (hs : Stab lim t M) (hg : w.grownBy w' row) (hr : ∀ r, row = some r → r < lim ∨ ∃ cur, w.heap[r]? = some (.cells cur t (0, 0)))
    (h1 : ∀ (j : Nat) (e : Ent), es[j]? = some e → j ≠ k → e.blk = none ∨ e.blk ≠ row) (h2 : ∀ (e : Ent), es[k]? = some e → FullM w' base t e.val e.len e.num M) (h3 : ∀ (j : Nat) (e : Ent), es[j]? = some e → j < k → (lg j).blk = none ∨ (lg j).blk ≠ row) :
    GrownM W0 w' base t es M lg k := by
  refine ⟨fun j e hj => ?_, fun j e hj hjk => ?_, h.apart, h.old⟩
  · by_cases hjk : j = k
    · subst hjk; exact h2 e hj
    · exact (h.full j e hj).kept hs hg hr (h1 j e hj hjk)
  · obtain ⟨a, b, c⟩ := h.long j e hj hjk
    exact ⟨a, b.kept hs hg hr (h3 j e hj hjk), c⟩
theorem GrownM.below {W0 w w' : World} {base lim : Nat} {t : TypeId} {es : List Ent} {M : World → Nat → Value → Prop} {lg : Nat → Ent} {k : Nat} (h : GrownM W0 w base t es M lg k) (hs : Stab lim t M) (hg : w.grownBy w' none) : GrownM W0 w' base t es M lg k := by
  have aux : ∀ o : Option Nat, o = none ∨ o ≠ none := fun o => by cases o <;> simp
  exact h.step hs hg (fun r e => by cases e) (fun j e _ _ => aux _) (fun e he => (h.full k e he).kept hs hg (fun r e => by cases e) (aux _)) (fun j e _ _ => aux _)
theorem GrownM.stored {W0 w : World} {base lim : Nat} {t T : TypeId} {es : List Ent} {M : World → Nat → Value → Prop} {lg : Nat → Ent} {k h i : Nat} {u : Value} (hG : GrownM W0 w base t es M lg k) (hs : Stab lim t M) (hb : HB w h T) (hne : T ≠ t) (hl : h < lim) : GrownM W0 (w.setCell ⟨h, i, none⟩ u) base t es M lg k :=
  ⟨fun j e hj => (hG.full j e hj).other hs hb hne hl, fun j e hj hjk => by
    obtain ⟨a, b, c⟩ := hG.long j e hj hjk
    exact ⟨a, b.other hs hb hne hl, c⟩, hG.apart, hG.old⟩
theorem GrownM.next {W0 w : World} {base : Nat} {t : TypeId} {es : List Ent} {M : World → Nat → Value → Prop} {lg : Nat → Ent} {k : Nat} {e L : Ent} (hG : GrownM W0 w base t es M lg k) (he : es[k]? = some e) (hl : L.len = e.len + 40)
    (ho : FullM w base t L.val (e.len + 40) e.num M) (hb : L.blk = e.blk ∨ ∃ b, L.blk = some b ∧ W0.heap.size ≤ b) :
    GrownM W0 w base t es M (fun j => if j = k then L else lg j) (k + 1) := by
  refine ⟨hG.full, fun j e' hj hjk => ?_, hG.apart, hG.old⟩
  by_cases h : j = k
  · subst h
    rw [he] at hj
    injection hj with hj
    subst hj
    simp only [if_pos]
    exact ⟨hl, ho, hb⟩
  · simp only [if_neg h]
    exact hG.long j e' hj (by omega)
theorem GrownM.map {W0 w w' : World} {base : Nat} {t : TypeId} {es : List Ent} {M : World → Nat → Value → Prop} {lg : Nat → Ent} {k : Nat} (h : GrownM W0 w base t es M lg k) (f : ∀ {v : Value} {n : Nat} {xs : List Value}, w.ownsRow base t 1 v n xs → w'.ownsRow base t 1 v n xs) (m : ∀ {n : Nat} {v : Value}, M w n v → M w' n v) : GrownM W0 w' base t es M lg k :=
  ⟨fun j e hj => (h.full j e hj).map f m, fun j e hj hk => by obtain ⟨x, y, z⟩ := h.long j e hj hk; exact ⟨x, y.map f m, z⟩, h.apart, h.old⟩
/-- What stands between two rounds of growing one list. -/
structure MidM (base lim : Nat) (t T : TypeId) (es : List Ent) (M : World → Nat → Value → Prop) (lg : Nat → Ent) (k h B : Nat) (box : Obj) (w w2 : World) : Prop where
  frm : Frm2L base lim t T w w2
  hb : HB w2 h T
  held : Held w2 h es lg
  grown : GrownM w w2 base t es M lg k
  bx : w2.heap[B]? = some box
theorem MidM.fresh {base lim : Nat} {t T : TypeId} {es : List Ent} {M : World → Nat → Value → Prop} {lg : Nat → Ent} {k h B : Nat} {box : Obj} {w w2 w3 : World} (m : MidM base lim t T es M lg k h B box w w2) (hs : Stab lim t M) (hg : w2.grownBy w3 none) (hb : base ≤ w.heap.size) : MidM base lim t T es M lg k h B box w w3 := by
  have hB : B < w2.heap.size := (Array.getElem?_eq_some_iff.1 m.bx).1
  exact ⟨m.frm.grown hg hb (fun r e => by cases e), m.hb.same (hg.block h m.hb.lt (by simp)), m.held.same (hg.block h m.hb.lt (by simp)), m.grown.below hs hg, (hg.block B hB (by simp)).trans m.bx⟩
theorem MidM.row {base lim : Nat} {t T : TypeId} {es : List Ent} {M : World → Nat → Value → Prop} {lg : Nat → Ent} {k h B g so : Nat} {cur : Array Value} {e : Ent} {cs : Array Value} {w w2 w3 : World}
    (m : MidM base lim t T es M lg k h B (.cells cs T) w w2) (hs : Stab lim t M) (hg : w2.grownBy w3 (some g)) (hb : base ≤ w.heap.size) (hgb : base ≤ g) (hgt : w2.heap[g]? = some (.cells cur t (0, 0))) (hne : T ≠ t) (he : es[k]? = some e)
    (hso : w.heap.size ≤ so) (hlong : ∀ (j : Nat) (e : Ent), es[j]? = some e → j < k → ∀ b, (lg j).blk = some b → b < so) (hloc : e.blk = some g ∨ so ≤ g) (hf : FullM w3 base t e.val e.len e.num M) (hold : ∀ b, e.blk = some b → b < lim) : MidM base lim t T es M lg k h B (.cells cs T) w w3 := by
  have hB : B < w2.heap.size := (Array.getElem?_eq_some_iff.1 m.bx).1
  have hhg : h ≠ g := m.hb.ne hgt hne
  have hBg : B ≠ g := HB.ne ⟨cs, m.bx⟩ hgt hne
  refine ⟨m.frm.grown hg hb (fun r e' => by
    injection e' with e'
    subst e'
    refine ⟨hgb, .inl ⟨_, hgt⟩, ?_⟩
    rcases hloc with h1 | h1
    · exact .inl (hold _ h1)
    · exact .inr (by omega)), m.hb.same (hg.block h m.hb.lt (fun e => hhg (by injection e))), m.held.same (hg.block h m.hb.lt (fun e => hhg (by injection e))), ?_, (hg.block B hB (fun e => hBg (by injection e))).trans m.bx⟩
  refine m.grown.step hs hg (fun r e' => by injection e' with e'; subst e'; exact .inr ⟨_, hgt⟩) (fun j e' hj hjk => ?_) (fun e' he' => ?_) (fun j e' hj hjk => ?_)
  · rcases hloc with h1 | h1
    · rw [← h1]; exact m.grown.apart j k e' e hjk hj he
    · cases hbk : e'.blk with
      | none => exact .inl rfl
      | some b => exact .inr (fun e => by injection e with e; have := m.grown.old j e' hj b hbk; omega)
  · rw [he] at he'; injection he' with he'; subst he'; exact hf
  · cases hbk : (lg j).blk with
    | none => exact .inl rfl
    | some b =>
      refine .inr (fun e2 => ?_)
      injection e2 with e2
      subst e2
      rcases hloc with h1 | h1
      · rcases (m.grown.long j e' hj hjk).2.2 with h2 | ⟨b', h2, h3⟩
        · have := m.grown.apart j k e' e (by omega) hj he
          rw [h1, ← h2, hbk] at this
          rcases this with h4 | h4
          · cases h4
          · exact h4 rfl
        · rw [hbk] at h2; injection h2 with h2
          have := m.grown.old k e he b h1
          omega
      · have := hlong j e' hj hjk b hbk
        omega
/-- A kind whose marks have memory of their own, behind filling. -/
structure KInM (w : World) (base : Nat) (t T : TypeId) (es : List Ent) (M : World → Nat → Value → Prop) (k : Nat) (sv : Value) : Prop where
  lists : ListsM w base t es M k
  row : (es = [] ∧ sv = .slice none 0 0) ∨ ∃ h c, sv = .slice (some ⟨h, 0, none⟩) es.length c ∧ w.ownsRow base T 3 sv es.length (rowCells es)
  num : ∀ e ∈ es, e.num ≤ 1000000 ∧ e.len ≤ 10000000
  len : es.length ≤ 1000000
theorem KInM.map {w w' : World} {base : Nat} {t T : TypeId} {es : List Ent} {M : World → Nat → Value → Prop} {k : Nat} {sv : Value} (h : KInM w base t T es M k sv) (f : ∀ {v : Value} {n : Nat} {xs : List Value}, w.ownsRow base t 1 v n xs → w'.ownsRow base t 1 v n xs) (g : ∀ {v : Value} {n : Nat} {xs : List Value}, w.ownsRow base T 3 v n xs → w'.ownsRow base T 3 v n xs) (m : ∀ {n : Nat} {v : Value}, M w n v → M w' n v) : KInM w' base t T es M k sv :=
  ⟨⟨fun j e hj => by obtain ⟨xs, h1, h2⟩ := h.lists.own j e hj; exact ⟨xs, f h1, fun hlt x hx => m (h2 hlt x hx)⟩, h.lists.apart⟩, by
    rcases h.row with h1 | ⟨b, c, h1, h2⟩
    · exact .inl h1
    · exact .inr ⟨b, c, h1, g h2⟩, h.num, h.len⟩
/-- .. and behind growing. -/
structure KOutM (w : World) (base : Nat) (t T : TypeId) (es : List Ent) (M : World → Nat → Value → Prop) (sv : Value) : Prop where
  row : (es = [] ∧ sv = .slice none 0 0) ∨ ∃ h c lg W0, sv = .slice (some ⟨h, 0, none⟩) es.length c ∧ es.length ≤ c ∧ HB w h T ∧ Held w h es lg ∧ GrownM W0 w base t es M lg es.length
  num : ∀ e ∈ es, e.num ≤ 1000000 ∧ e.len ≤ 10000000
  len : es.length ≤ 1000000
theorem KOutM.map {w w' : World} {base : Nat} {t T : TypeId} {es : List Ent} {M : World → Nat → Value → Prop} {sv : Value} (h : KOutM w base t T es M sv) (f : ∀ {v : Value} {n : Nat} {xs : List Value}, w.ownsRow base t 1 v n xs → w'.ownsRow base t 1 v n xs) (g : ∀ {b : Nat}, HB w b T → w'.heap[b]? = w.heap[b]?) (m : ∀ {n : Nat} {v : Value}, M w n v → M w' n v) : KOutM w' base t T es M sv :=
  ⟨by
    rcases h.row with h1 | ⟨b, c, lg, W0, h1, h2, h3, h4, h5⟩
    · exact .inl h1
    · exact .inr ⟨b, c, lg, W0, h1, h2, h3.same (g h3), h4.same (g h3), h5.map f m⟩, h.num, h.len⟩
theorem FullM.take {w : World} {base n c cap num : Nat} {t : TypeId} {A : Option Addr} {M : World → Nat → Value → Prop} (h : FullM w base t (.slice A n cap) n num M) (hc : c ≤ n) : FullM w base t (.slice A c cap) c num M := by
  obtain ⟨xs, h1, h2⟩ := h
  exact ⟨_, own_take hc h1, fun x hx => h2 x (List.mem_of_mem_take hx)⟩
theorem FullM.more {w : World} {base n num : Nat} {t : TypeId} {v u : Value} {xs : List Value} {M : World → Nat → Value → Prop} (h : w.ownsRow base t 1 v n (xs ++ [u])) (hx : ∀ x ∈ xs, M w num x) (hu : M w num u) : FullM w base t v n num M :=
  ⟨_, h, fun x hm => by
    rcases List.mem_append.1 hm with h1 | h1
    · exact hx x h1
    · rw [List.mem_singleton] at h1; subst h1; exact hu⟩
theorem FullM.cell {w : World} {base n cap num : Nat} {t : TypeId} {A : Option Addr} {M : World → Nat → Value → Prop} (h : FullM w base t (.slice A n cap) n num M) {c : Nat} (hc : c < n) :
    ∃ b x, A = some ⟨b, 0, none⟩ ∧ b < w.heap.size ∧ w.cell? ⟨b, c, none⟩ = some x ∧ M w num x := by
  obtain ⟨xs, h1, h2⟩ := h
  obtain ⟨g, cur, rfl, hb, hg⟩ := own_parts h1 (by omega)
  have hl : c < xs.length := by have := h1.1; omega
  exact ⟨g, xs[c], rfl, (Array.getElem?_eq_some_iff.1 hg).1, (h1.cellAt c (by omega)).trans (List.getElem?_eq_getElem hl), h2 _ (List.getElem_mem hl)⟩
end Bk
end Go.Proofs.YthbimjkcpmffcaaGreat
