/- The walk of the document's Drop (layer 9). -/
import Derived.Test.YtkmngbkghgelfaaLe
import Derived.Deep.RegionLaw
namespace Go.Proofs.Ytkmngbkghgelfaa
open Go.RowKit
set_option linter.unusedVariables false
theorem Try.info4b : (Try.prog.info? 4).map (fun i => (i.zero, i.size, i.bytes)) = some (some (.bool false), 1, 1) := by kernel_rfl
theorem resCellH {P : Program} {fn : Func} {p q : Tmp} {ty : TypeId} (h : fn.results = #[.cell p ty, .tmp q]) (tmps : Array Value) (w : World) :
    (results fn tmps).run P w = ((asAddr (tmps.getD p undef)).run P w).andThen fun a w₁ => ((loadVar ty a).run P w₁).andThen fun v w₂ => .ok (.tuple #[v, tmps.getD q undef]) w₂ := by
  simp only [results, h]
  simp [Sem.run_bind, Result.andThen]
/-- What Drop's rows are: its argument's box, its answer's box, what is gone. -/
structure DrSt (w : World) (g q : Nat) (box : Array Value) (M : List Bool) (W : World) : Prop where
  bel : Below g w W
  bx : Whole W g 24 box
  rs : Whole W (g + 1) 24 #[.slice none 0 0, .int .i64 0]
  m : Whole W q 4 (cellsB M)
theorem DrSt.below {w W W' : World} {g q : Nat} {box : Array Value} {M : List Bool} (t : DrSt w g q box M W) (hb : Below W.heap.size W W') : DrSt w g q box M W' :=
  ⟨t.bel.trans (hb.mono (Nat.le_of_lt t.bx.lt)), t.bx.below hb t.bx.lt, t.rs.below hb t.rs.lt, t.m.below hb t.m.lt⟩
theorem DrSt.setM {w W : World} {g q : Nat} {box : Array Value} {M : List Bool} (t : DrSt w g q box M W) (hq : g + 1 < q) (i : Nat) (v : Bool) : DrSt w g q box (M.set i v) (W.setCell ⟨q, i, none⟩ (.bool v)) :=
  ⟨t.bel.setCell (p := ⟨q, i, none⟩) (by show g ≤ q; omega) _, t.bx.far (a := ⟨q, i, none⟩) (by show g ≠ q; omega) _, t.rs.far (a := ⟨q, i, none⟩) (by show g + 1 ≠ q; omega) _, by rw [← cellsB_set]; exact t.m.set i _⟩
/-- And where each place comes to. -/
structure Dr2 (w : World) (g q t : Nat) (box : Array Value) (M : List Bool) (T : List Int) (W : World) : Prop where
  d : DrSt w g q box M W
  t : Whole W t 3 (cellsI T)
theorem Dr2.below {w W W' : World} {g q t : Nat} {box : Array Value} {M : List Bool} {T : List Int} (h : Dr2 w g q t box M T W) (hb : Below W.heap.size W W') : Dr2 w g q t box M T W' := ⟨h.d.below hb, h.t.below hb h.t.lt⟩
theorem Dr2.setT {w W : World} {g q t : Nat} {box : Array Value} {M : List Bool} {T : List Int} (h : Dr2 w g q t box M T W) (hq : g + 1 < q) (ht : q < t) (i : Nat) (v : Int) : Dr2 w g q t box M (T.set i v) (W.setCell ⟨t, i, none⟩ (.int .i64 v)) :=
  ⟨⟨h.d.bel.setCell (p := ⟨t, i, none⟩) (by show g ≤ t; omega) _, h.d.bx.far (a := ⟨t, i, none⟩) (by show g ≠ t; omega) _, h.d.rs.far (a := ⟨t, i, none⟩) (by show g + 1 ≠ t; omega) _, h.d.m.far (a := ⟨t, i, none⟩) (by show q ≠ t; omega) _⟩, by rw [← cellsI_set]; exact h.t.set i _⟩
/-- A graph's nodes of the call's own, all whose blocks lie below hi. -/
structure OwnR (w : World) (base hi : Nat) (A : Option Addr) (c : Nat) (L : List Gn) : Prop where
  own : OwnG w base A c L
  ro : ∀ g, (Value.slice A L.length c).ownBlock = some g → g < hi
  rv : ∀ x ∈ L, ∀ g, vbG x.2.1 = some g → g < hi
  ru : ∀ x ∈ L, ∀ g, vbG x.2.2 = some g → g < hi
theorem OwnR.of {w : World} {base : Nat} {A : Option Addr} {c : Nat} {L : List Gn} (h : OwnG w base A c L) : OwnR w base w.heap.size A c L :=
  ⟨h, fun g hg => (h.row.lt g hg).2, fun x hx g hg => ((h.vec x hx).lt g hg).2, fun x hx g hg => ((h.out x hx).lt g hg).2⟩
theorem OwnR.below {w w' : World} {base hi : Nat} {A : Option Addr} {c : Nat} {L : List Gn} (h : OwnR w base hi A c L) (hb : Below w.heap.size w w') : OwnR w' base hi A c L := ⟨h.own.below hb, h.ro, h.rv, h.ru⟩
theorem ne_blk {hi b : Nat} {o : Option Nat} (h : ∀ g, o = some g → g < hi) (hb : hi ≤ b) : o ≠ some b := fun e => by have := h b e; omega
theorem OwnR.set {w : World} {base hi b : Nat} {A : Option Addr} {c : Nat} {L : List Gn} (h : OwnR w base hi A c L) (hb : hi ≤ b) (i : Nat) (u : Value) : OwnR (w.setCell ⟨b, i, none⟩ u) base hi A c L :=
  ⟨⟨row_setK h.own.row (ne_blk h.ro hb), fun x hx => row_setK (h.own.vec x hx) (ne_blk (h.rv x hx) hb), fun x hx => row_setK (h.own.out x hx) (ne_blk (h.ru x hx) hb), h.own.av, h.own.ao⟩, h.ro, h.rv, h.ru⟩
theorem blk_ne {hi : Nat} {o p : Option Nat} (h : ∀ g, o = some g → g < hi) (hp : ∀ g, p = some g → hi ≤ g) : o = none ∨ o ≠ p := by
  cases o with
  | none => exact .inl rfl
  | some g => exact .inr (fun e => by have := h g rfl; have := hp g e.symm; omega)
theorem OwnR.grown {w w' : World} {base hi : Nat} {o : Option Nat} {A : Option Addr} {c : Nat} {L : List Gn} (h : OwnR w base hi A c L) (hg : w.grownBy w' o) (ho : ∀ g, o = some g → hi ≤ g) : OwnR w' base hi A c L :=
  ⟨⟨h.own.row.kept hg (blk_ne h.ro ho), fun x hx => (h.own.vec x hx).kept hg (blk_ne (h.rv x hx) ho), fun x hx => (h.own.out x hx).kept hg (blk_ne (h.ru x hx) ho), h.own.av, h.own.ao⟩, h.ro, h.rv, h.ru⟩
/-- Drop within a round: besides, the answer's nodes so far, and the node's box. -/
structure Dr3 (w : World) (g q t b gx : Nat) (box : Array Value) (M : List Bool) (TT : List Int) (OA : Option Addr) (oc : Nat) (T : List Gn) (xb : Array Value) (W : World) : Prop where
  d : Dr2 w g q t box M TT W
  ob : Whole W b 24 #[.slice OA T.length oc, .int .i64 0]
  ow : OwnR W (b + 1) gx OA oc T
  xb : Whole W gx 62 xb
theorem Dr3.below {w W W' : World} {g q t b gx oc : Nat} {box xb : Array Value} {M : List Bool} {TT : List Int} {OA : Option Addr} {T : List Gn} (h : Dr3 w g q t b gx box M TT OA oc T xb W) (hb : Below W.heap.size W W') : Dr3 w g q t b gx box M TT OA oc T xb W' :=
  ⟨h.d.below hb, h.ob.below hb h.ob.lt, h.ow.below hb, h.xb.below hb h.xb.lt⟩
theorem Dr3.set {w W : World} {g q t b gx oc y : Nat} {box xb : Array Value} {M : List Bool} {TT : List Int} {OA : Option Addr} {T : List Gn} (h : Dr3 w g q t b gx box M TT OA oc T xb W) (h1 : g + 1 < q) (h2 : q < t) (h3 : t < b) (h4 : b < gx) (hy : gx < y) (i : Nat) (u : Value) : Dr3 w g q t b gx box M TT OA oc T xb (W.setCell ⟨y, i, none⟩ u) :=
  ⟨⟨⟨h.d.d.bel.setCell (p := ⟨y, i, none⟩) (by show g ≤ y; omega) _, h.d.d.bx.far (a := ⟨y, i, none⟩) (by show g ≠ y; omega) _, h.d.d.rs.far (a := ⟨y, i, none⟩) (by show g + 1 ≠ y; omega) _, h.d.d.m.far (a := ⟨y, i, none⟩) (by show q ≠ y; omega) _⟩, h.d.t.far (a := ⟨y, i, none⟩) (by show t ≠ y; omega) _⟩, h.ob.far (a := ⟨y, i, none⟩) (by show b ≠ y; omega) _, h.ow.set (Nat.le_of_lt hy) _ _, h.xb.far (a := ⟨y, i, none⟩) (by show gx ≠ y; omega) _⟩
theorem whole_grown {w w' : World} {g hi : Nat} {e : TypeId} {cs : Array Value} {o : Option Nat} (h : Whole w g e cs) (hg : w.grownBy w' o) (ho : ∀ k, o = some k → hi ≤ k) (hh : g < hi) : Whole w' g e cs :=
  (hg.block g h.lt (fun e => by have := ho g e.symm; omega)).trans h
theorem Dr3.grown {w W W' : World} {g q t b gx oc : Nat} {o : Option Nat} {box xb : Array Value} {M : List Bool} {TT : List Int} {OA : Option Addr} {T : List Gn} (h : Dr3 w g q t b gx box M TT OA oc T xb W) (h1 : g + 1 < q) (h2 : q < t) (h3 : t < b) (h4 : b < gx) (hg : W.grownBy W' o) (ho : ∀ k, o = some k → gx + 1 ≤ k) : Dr3 w g q t b gx box M TT OA oc T xb W' :=
  ⟨⟨⟨h.d.d.bel.grown hg (Nat.le_of_lt h.d.d.bx.lt) (fun r hr => by have := ho r hr; omega), whole_grown h.d.d.bx hg ho (by omega), whole_grown h.d.d.rs hg ho (by omega), whole_grown h.d.d.m hg ho (by omega)⟩, whole_grown h.d.t hg ho (by omega)⟩, whole_grown h.ob hg ho (by omega), h.ow.grown hg (fun k hk => by have := ho k hk; omega), whole_grown h.xb hg ho (by omega)⟩
theorem Dr2.grown {w W W' : World} {g q t : Nat} {o : Option Nat} {box : Array Value} {M : List Bool} {TT : List Int} (h : Dr2 w g q t box M TT W) (h1 : g + 1 < q) (h2 : q < t) (hg : W.grownBy W' o) (ho : ∀ k, o = some k → t + 1 ≤ k) : Dr2 w g q t box M TT W' :=
  ⟨⟨h.d.bel.grown hg (Nat.le_of_lt h.d.bx.lt) (fun r hr => by have := ho r hr; omega), whole_grown h.d.bx hg ho (by omega), whole_grown h.d.rs hg ho (by omega), whole_grown h.d.m hg ho (by omega)⟩, whole_grown h.t hg ho (by omega)⟩
theorem Dr2.set {w W : World} {g q t y : Nat} {box : Array Value} {M : List Bool} {TT : List Int} (h : Dr2 w g q t box M TT W) (h1 : g + 1 < q) (h2 : q < t) (hy : t < y) (i : Nat) (u : Value) : Dr2 w g q t box M TT (W.setCell ⟨y, i, none⟩ u) :=
  ⟨⟨h.d.bel.setCell (p := ⟨y, i, none⟩) (by show g ≤ y; omega) _, h.d.bx.far (a := ⟨y, i, none⟩) (by show g ≠ y; omega) _, h.d.rs.far (a := ⟨y, i, none⟩) (by show g + 1 ≠ y; omega) _, h.d.m.far (a := ⟨y, i, none⟩) (by show q ≠ y; omega) _⟩, h.t.far (a := ⟨y, i, none⟩) (by show t ≠ y; omega) _⟩
theorem OwnG.set {w : World} {base b : Nat} {A : Option Addr} {c : Nat} {L : List Gn} (h : OwnG w base A c L) (hb : b < base) (i : Nat) (u : Value) : OwnG (w.setCell ⟨b, i, none⟩ u) base A c L :=
  ⟨row_setK h.row (fun e => by have := (h.row.lt _ e).1; omega), fun x hx => row_setK (h.vec x hx) (fun e => by have := ((h.vec x hx).lt _ e).1; omega), fun x hx => row_setK (h.out x hx) (fun e => by have := ((h.out x hx).lt _ e).1; omega), h.av, h.ao⟩
/-- One node more. -/
theorem OwnR.next {W W2 : World} {base gx gy : Nat} {OA A' : Option Addr} {oc c' : Nat} {T : List Gn} {x : Gn} (h : OwnR W base gx OA oc T) (hv : W.ownsRow gy 43 1 (.slice x.2.1.1 x.2.1.2.2.length x.2.1.2.1) x.2.1.2.2.length (x.2.1.2.2.map (Value.int .i8))) (ho : W.ownsRow gy 3 1 (.slice x.2.2.1 x.2.2.2.2.length x.2.2.2.1) x.2.2.2.2.length (x.2.2.2.2.map (Value.int .i64)))
    (hb : base ≤ gy) (hx : gx ≤ gy) (o : Obj) (hown : W2.ownsRow base 62 3 (.slice A' (T.length + 1) c') (T.length + 1) (flatG T ++ encG x)) (hg : (W.alloc o).grownBy W2 (Value.slice OA T.length oc).ownBlock) : OwnG W2 base A' c' (T ++ [x]) := by
  have hr := h.own.row.alloc o
  refine ⟨by rw [List.length_append, List.length_singleton, flatG_snoc]; exact hown, fun y hy => ?_, fun y hy => ?_, ?_, ?_⟩
  · rcases List.mem_append.1 hy with h1 | h1
    · exact row_farK ((h.own.vec y h1).alloc o) hr (by decide) hg
    · rw [List.mem_singleton] at h1
      subst h1
      exact own_base (row_farK (hv.alloc o) hr (by decide) hg) hb
  · rcases List.mem_append.1 hy with h1 | h1
    · exact row_farK ((h.own.out y h1).alloc o) hr (by decide) hg
    · rw [List.mem_singleton] at h1
      subst h1
      exact own_base (row_farK (ho.alloc o) hr (by decide) hg) hb
  · refine List.pairwise_append.2 ⟨h.own.av, by simp, fun y hy z hz => ?_⟩
    rw [List.mem_singleton] at hz
    subst hz
    exact blk_ne (h.rv y hy) (fun g hg => Nat.le_trans hx (hv.lt g hg).1)
  · refine List.pairwise_append.2 ⟨h.own.ao, by simp, fun y hy z hz => ?_⟩
    rw [List.mem_singleton] at hz
    subst hz
    exact blk_ne (h.ru y hy) (fun g hg => Nat.le_trans hx (ho.lt g hg).1)
end Go.Proofs.Ytkmngbkghgelfaa
