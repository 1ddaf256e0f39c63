/- The walks of TwinNode, TwinNodes, TwinGraph. -/
import Derived.Test.YtjdidlbmgnfcdabKc
import Derived.Test.YtjdidlbmgnfcdabBi
import Derived.Test.YtjdidlbmgnfcdabOw
import Derived.Test.YtjdidlbmgnfcdabTn
import Derived.Test.YtjdidlbmgnfcdabGa
import Derived.Deep.AppendLies
import Derived.Deep.RegionHeld3
import Derived.Deep.RegionLaw
import Derived.Deep.RegionWith
import Derived.Maps.AppendAt
namespace Go.Proofs.Ytjdidlbmgnfcdab
open Go.RowKit
set_option linter.unusedVariables false
/-- A twin of a list of numbers: its own memory, with the mark behind it. -/
def KTw (k : IntKind) (t : TypeId) (w : World) (base : Nat) (x : Vc) : Prop := x.2.1 = x.2.2.length + 1 ∧ (∃ g, x.1 = some ⟨g, 0, none⟩) ∧ w.ownsRow base t 1 (.slice x.1 (x.2.2.length + 1) x.2.1) (x.2.2.length + 1) ((x.2.2 ++ [77]).map (Value.int k))
theorem KTw.below {k : IntKind} {t : TypeId} {w w' : World} {base : Nat} {x : Vc} (h : KTw k t w base x) (hb : Below w.heap.size w w') : KTw k t w' base x := ⟨h.1, h.2.1, own_below h.2.2 hb⟩
theorem KTw.base {k : IntKind} {t : TypeId} {w : World} {b b' : Nat} {x : Vc} (h : KTw k t w b x) (hb : b' ≤ b) : KTw k t w b' x := ⟨h.1, h.2.1, own_base h.2.2 hb⟩
theorem KTw.rd {k : IntKind} {t : TypeId} {w : World} {base : Nat} {x : Vc} (h : KTw k t w base x) : Rd k w w.heap.size x.1 (x.2.2 ++ [77]) := by
  obtain ⟨A, c, hv, _, _, hrd, _⟩ := own_slice h.2.2
  injection hv with q1 q2 q3
  rw [q1]; exact hrd
theorem KTw.rd0 {k : IntKind} {t : TypeId} {w : World} {base : Nat} {x : Vc} (h : KTw k t w base x) : Rd k w w.heap.size x.1 x.2.2 := by
  have := h.rd.take x.2.2.length
  rwa [List.take_left' rfl] at this
theorem KTw.own {k : IntKind} {t : TypeId} {w : World} {base : Nat} {x : Vc} (h : KTw k t w base x) : w.ownsRow base t 1 (.slice x.1 x.2.2.length x.2.1) x.2.2.length (x.2.2.map (Value.int k)) := by
  obtain ⟨h1, ⟨g, hg⟩, h2⟩ := h
  rw [hg] at h2 ⊢
  have h3 := own_shrink (n := x.2.2.length + 1) (c := x.2.2.length) (Nat.le_succ _) h2
  rw [Nat.mul_one, ← List.map_take, List.take_left' rfl] at h3
  exact h3
theorem KTw.lt {k : IntKind} {t : TypeId} {w : World} {base : Nat} {x : Vc} (h : KTw k t w base x) : ∃ g, x.1 = some ⟨g, 0, none⟩ ∧ base ≤ g ∧ g < w.heap.size := by
  obtain ⟨h1, ⟨g, hg⟩, h2⟩ := h
  rw [hg] at h2
  exact ⟨g, hg, (h2.lt g rfl).1, (h2.lt g rfl).2⟩
/-- A row stands where a row of another type is grown. -/
theorem row_farK {w w' : World} {b1 b2 n1 n2 s1 s2 : Nat} {e1 e2 : TypeId} {v1 v2 : Value} {xs1 xs2 : List Value} (h : w.ownsRow b1 e1 s1 v1 n1 xs1) (ho : w.ownsRow b2 e2 s2 v2 n2 xs2) (hne : e1 ≠ e2) (hg : w.grownBy w' v2.ownBlock) : w'.ownsRow b1 e1 s1 v1 n1 xs1 := by
  refine h.kept hg ?_
  rcases h.2 with ⟨hv, _⟩ | ⟨g, cap, cur, hv, _, hc, _⟩
  · rw [hv]; exact .inl rfl
  · rcases ho.2 with ⟨hv2, _⟩ | ⟨g', cap', cur', hv2, _, hc', _⟩
    · rw [hv2]; exact .inr (by rw [hv]; simp [Value.ownBlock])
    · refine .inr fun e => ?_
      rw [hv, hv2] at e
      have e2 : g = g' := by simpa [Value.ownBlock] using e
      subst e2
      rw [hc] at hc'
      injection hc' with hc'
      injection hc' with q1 q2 q3
      exact hne q2
theorem resCellG {P : Program} {fn : Func} {p : Tmp} {ty : TypeId} (h : fn.results = #[.cell p ty]) (tmps : Array Value) (w : World) :
    (results fn tmps).run P w = ((asAddr (tmps.getD p undef)).run P w).andThen fun a w₁ => (loadVar ty a).run P w₁ := by
  simp only [results, h]
  simp [Sem.run_bind, Result.andThen]
theorem KTw.set {k : IntKind} {t t' : TypeId} {w : World} {base b : Nat} {x : Vc} {cs : Array Value} (h : KTw k t w base x) (hw : Whole w b t' cs) (hne : t' ≠ t) (i : Nat) (u : Value) : KTw k t (w.setCell ⟨b, i, none⟩ u) base x := ⟨h.1, h.2.1, own_far h.2.2 hw hne i u⟩
/-- The cells of nodes. -/
def encG (x : Gn) : List Value := [.int .u64 x.1, .slice x.2.1.1 x.2.1.2.2.length x.2.1.2.1, .slice x.2.2.1 x.2.2.2.2.length x.2.2.2.1]
def flatG (L : List Gn) : List Value := L.flatMap encG
theorem flatG_len (L : List Gn) : (flatG L).length = L.length * 3 := by
  induction L with
  | nil => rfl
  | cons x r ih => unfold flatG at *; rw [List.flatMap_cons, List.length_append, ih, List.length_cons]; simp [encG]; omega
theorem flatG_snoc (L : List Gn) (x : Gn) : flatG (L ++ [x]) = flatG L ++ encG x := by unfold flatG; rw [List.flatMap_append]; simp
theorem flatG_get {L : List Gn} : ∀ {i : Nat} {x : Gn}, L[i]? = some x → (flatG L)[i * 3]? = some (.int .u64 x.1) ∧ (flatG L)[i * 3 + 1]? = some (.slice x.2.1.1 x.2.1.2.2.length x.2.1.2.1) ∧ (flatG L)[i * 3 + 2]? = some (.slice x.2.2.1 x.2.2.2.2.length x.2.2.2.1) := by
  induction L with
  | nil => intro i x h; simp at h
  | cons y r ih =>
    intro i x h
    have e : flatG (y :: r) = Value.int .u64 y.1 :: Value.slice y.2.1.1 y.2.1.2.2.length y.2.1.2.1 :: Value.slice y.2.2.1 y.2.2.2.2.length y.2.2.2.1 :: flatG r := rfl
    rw [e]
    cases i with
    | zero => simp at h; subst h; exact ⟨rfl, rfl, rfl⟩
    | succ i =>
      rw [List.getElem?_cons_succ] at h
      have := ih h
      rw [show (i + 1) * 3 = i * 3 + 3 by omega]
      simpa using this
/-- The mark behind a twin's nodes. -/
def gMark : Gn := (77, vNil, vNil)
/-- A row of nodes of the call's own reads as its nodes. -/
theorem rowG_rd {w : World} {base g n cap : Nat} {L : List Gn} (h : w.ownsRow base 40 3 (.slice (some ⟨g, 0, none⟩) n cap) n (flatG L)) (hr : ∀ x ∈ L, Rd .i8 w w.heap.size x.2.1.1 x.2.1.2.2 ∧ Rd .i64 w w.heap.size x.2.2.1 x.2.2.2.2) : RdG w w.heap.size (some ⟨g, 0, none⟩) L := fun hl => by
  have hn : n = L.length := by have := h.1; rw [flatG_len] at this; omega
  refine ⟨g, 0, rfl, (h.lt g rfl).2, fun i hi => ?_⟩
  have e : L[i]? = some (L[i]?.getD gNil) := by simp [List.getElem?_eq_getElem hi]
  obtain ⟨h1, h2, h3⟩ := flatG_get e
  have hm : L[i]?.getD gNil ∈ L := List.mem_of_getElem? e
  refine ⟨?_, ?_, ?_, (hr _ hm).1, (hr _ hm).2⟩
  · rw [Nat.zero_add]; exact (h.cellAt (i * 3) (by omega)).trans h1
  · rw [Nat.zero_add]; exact (h.cellAt (i * 3 + 1) (by omega)).trans h2
  · rw [Nat.zero_add]; exact (h.cellAt (i * 3 + 2) (by omega)).trans h3
/-- A twin of a graph's nodes. -/
structure TwinG (w : World) (base g : Nat) (T : List Gn) : Prop where
  row : w.ownsRow base 40 3 (.slice (some ⟨g, 0, none⟩) (T.length + 1) (T.length + 1)) (T.length + 1) (flatG (T ++ [gMark]))
  tv : ∀ x ∈ T, KTw .i8 42 w base x.2.1
  to : ∀ x ∈ T, KTw .i64 3 w base x.2.2
  av : T.Pairwise fun x y => x.2.1.1 ≠ y.2.1.1
  ao : T.Pairwise fun x y => x.2.2.1 ≠ y.2.2.1
theorem TwinG.below {w w' : World} {base g : Nat} {T : List Gn} (h : TwinG w base g T) (hb : Below w.heap.size w w') : TwinG w' base g T := ⟨own_below h.row hb, fun x hx => (h.tv x hx).below hb, fun x hx => (h.to x hx).below hb, h.av, h.ao⟩
theorem TwinG.own {w : World} {base g : Nat} {T : List Gn} (h : TwinG w base g T) : w.ownsRow base 40 3 (.slice (some ⟨g, 0, none⟩) T.length (T.length + 1)) T.length (flatG T) := by
  have h3 := own_shrink (n := T.length + 1) (c := T.length) (Nat.le_succ _) h.row
  rw [flatG_snoc, List.take_left' (flatG_len T)] at h3
  exact h3
theorem TwinG.rd {w : World} {base g : Nat} {T : List Gn} (h : TwinG w base g T) : RdG w w.heap.size (some ⟨g, 0, none⟩) T := rowG_rd h.own (fun x hx => ⟨(h.tv x hx).rd0, (h.to x hx).rd0⟩)
theorem TwinG.base {w : World} {b b' g : Nat} {T : List Gn} (h : TwinG w b g T) (hb : b' ≤ b) : TwinG w b' g T := ⟨own_base h.row hb, fun x hx => (h.tv x hx).base hb, fun x hx => (h.to x hx).base hb, h.av, h.ao⟩
theorem TwinG.set {w : World} {base g b : Nat} {T : List Gn} {t : TypeId} {cs : Array Value} (h : TwinG w base g T) (hw : Whole w b t cs) (h0 : t ≠ 40) (h1 : t ≠ 42) (h2 : t ≠ 3) (i : Nat) (u : Value) : TwinG (w.setCell ⟨b, i, none⟩ u) base g T :=
  ⟨own_far h.row hw h0 i u, fun x hx => (h.tv x hx).set hw h1 i u, fun x hx => (h.to x hx).set hw h2 i u, h.av, h.ao⟩
theorem pns_tk {L : List Gn} {k : Nat} {x : Pn} (h : (pns L)[k]? = some x) : (pns L).take (k + 1) = (pns L).take k ++ [x] := by rw [List.take_add_one, h]; rfl
/-- A twin under way. -/
structure TwinK (w : World) (base g cap : Nat) (T : List Gn) : Prop where
  row : w.ownsRow base 40 3 (.slice (some ⟨g, 0, none⟩) T.length cap) T.length (flatG T)
  tv : ∀ x ∈ T, KTw .i8 42 w base x.2.1
  to : ∀ x ∈ T, KTw .i64 3 w base x.2.2
  av : T.Pairwise fun x y => x.2.1.1 ≠ y.2.1.1
  ao : T.Pairwise fun x y => x.2.2.1 ≠ y.2.2.1
theorem TwinK.below {w w' : World} {base g cap : Nat} {T : List Gn} (h : TwinK w base g cap T) (hb : Below w.heap.size w w') : TwinK w' base g cap T := ⟨own_below h.row hb, fun x hx => (h.tv x hx).below hb, fun x hx => (h.to x hx).below hb, h.av, h.ao⟩
theorem KTw.farK {k : IntKind} {t e2 : TypeId} {w w' : World} {base b2 n2 s2 : Nat} {x : Vc} {v2 : Value} {xs2 : List Value} (h : KTw k t w base x) (ho : w.ownsRow b2 e2 s2 v2 n2 xs2) (hne : t ≠ e2) (hg : w.grownBy w' v2.ownBlock) : KTw k t w' base x := ⟨h.1, h.2.1, row_farK h.2.2 ho hne hg⟩
theorem TwinK.next {w w1 w2 : World} {base g cap : Nat} {T : List Gn} {x : Gn} (h : TwinK w base g cap T) (hb : Below w.heap.size w w1) (hv : KTw .i8 42 w1 w.heap.size x.2.1) (ho : KTw .i64 3 w1 w.heap.size x.2.2) (hbase : base ≤ w.heap.size) (o : Obj)
    (hown : w2.ownsRow base 40 3 (.slice (some ⟨g, 0, none⟩) (T.length + 1) cap) (T.length + 1) (flatG T ++ encG x)) (hg : (w1.alloc o).grownBy w2 (some g)) : TwinK w2 base g cap (T ++ [x]) := by
  have hr := (own_below h.row hb).alloc o
  have f8 : ∀ y : Vc, KTw .i8 42 w1 base y → KTw .i8 42 w2 base y := fun y hy => (hy.below (below_one (Below.refl _ _) o)).farK hr (by decide) hg
  have f64 : ∀ y : Vc, KTw .i64 3 w1 base y → KTw .i64 3 w2 base y := fun y hy => (hy.below (below_one (Below.refl _ _) o)).farK hr (by decide) hg
  obtain ⟨g1, e1, l1, u1⟩ := hv.lt
  obtain ⟨g2, e2, l2, u2⟩ := ho.lt
  refine ⟨by rw [List.length_append, List.length_singleton, flatG_snoc]; exact hown, fun y hy => ?_, fun y hy => ?_, ?_, ?_⟩
  · rcases List.mem_append.1 hy with h1 | h1
    · exact f8 _ ((h.tv y h1).below hb)
    · rw [List.mem_singleton] at h1
      subst h1
      exact f8 _ (hv.base hbase)
  · rcases List.mem_append.1 hy with h1 | h1
    · exact f64 _ ((h.to y h1).below hb)
    · rw [List.mem_singleton] at h1
      subst h1
      exact f64 _ (ho.base hbase)
  · refine List.pairwise_append.2 ⟨h.av, by simp, fun y hy z hz => ?_⟩
    rw [List.mem_singleton] at hz
    subst hz
    obtain ⟨gy, ey, ly, uy⟩ := (h.tv y hy).lt
    rw [ey, e1]
    intro e
    injection e with e
    injection e with e
    omega
  · refine List.pairwise_append.2 ⟨h.ao, by simp, fun y hy z hz => ?_⟩
    rw [List.mem_singleton] at hz
    subst hz
    obtain ⟨gy, ey, ly, uy⟩ := (h.to y hy).lt
    rw [ey, e2]
    intro e
    injection e with e
    injection e with e
    omega
theorem Try.info40g : (Try.prog.info? 40).map (fun i => (i.zero, i.size, i.bytes)) = some (some (.agg #[.int .u64 0, .slice none 0 0, .slice none 0 0]), 3, 56) := by kernel_rfl
end Go.Proofs.Ytjdidlbmgnfcdab
