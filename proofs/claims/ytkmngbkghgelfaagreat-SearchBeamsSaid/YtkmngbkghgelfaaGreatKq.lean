/- Several texts in one. -/
import Derived.Test.YtkmngbkghgelfaaGreatKf
import Derived.Test.YtkmngbkghgelfaaGreatBa
/- The Book of the statements, with the kinds that are kept: lists, and graphs. -/
namespace Go.Proofs.YtkmngbkghgelfaaGreat
open Go.RowKit
set_option linter.unusedVariables false
set_option linter.unusedSimpArgs false
/-- A book with the entries es, by the kind's place. -/
structure BG1 (w : World) (bk base n : Nat) (sv : Nat → Value) (es : Nat → List Bk.Ent) : Prop where
  at_ : Bk.BookAt w bk (n : Nat) sv
  k2 : Bk.KIn w base 3 120 1 (es 2) Bk.mkInt 0 (sv 2)
  k3 : Bk.KIn w base 64 112 1 (es 3) Bk.mkInt8 0 (sv 3)
  k10 : Bk.KIn w base 78 114 2 (es 10) Bk.mkHit 0 (sv 10)
  k11 : Bk.KIn w base 87 151 3 (es 11) Bk.mkNode 0 (sv 11)
  z : ∀ j, j ≠ 2 → j ≠ 3 → j ≠ 10 → j ≠ 11 → sv j = .slice none 0 0
def BG (w : World) (bk base n : Nat) (es : Nat → List Bk.Ent) : Prop := ∃ sv, BG1 w bk base n sv es
/-- One entry more. -/
def updG (es : Nat → List Bk.Ent) (c : Nat) (x : Bk.Ent) : Nat → List Bk.Ent := fun j => if j = c then es c ++ [x] else es j
theorem updG_same (es : Nat → List Bk.Ent) (c : Nat) (x : Bk.Ent) : updG es c x c = es c ++ [x] := if_pos rfl
theorem updG_other (es : Nat → List Bk.Ent) (c : Nat) (x : Bk.Ent) {j : Nat} (h : j ≠ c) : updG es c x j = es j := if_neg h
/-- Rows of other types than the book's own stay. -/
structure KG (base : Nat) (w w' : World) : Prop where
  below : Below base w w'
  row : ∀ {b2 : Nat} {T : TypeId} {size n : Nat} {v : Value} {xs : List Value}, T ≠ 120 → T ≠ 112 → T ≠ 114 → T ≠ 151 → T ≠ 50 → w.ownsRow b2 T size v n xs → w'.ownsRow b2 T size v n xs
theorem KG.refl (base : Nat) (w : World) : KG base w w := ⟨Below.refl _ _, fun _ _ _ _ _ h => h⟩
theorem KG.trans {base : Nat} {a b c : World} (h : KG base a b) (g : KG base b c) : KG base a c := ⟨h.below.trans g.below, fun t0 t1 t2 t3 t4 ho => g.row t0 t1 t2 t3 t4 (h.row t0 t1 t2 t3 t4 ho)⟩
theorem KG.r8 {base : Nat} {a b : World} (h : KG base a b) {b2 size n : Nat} {v : Value} {xs : List Value} (ho : a.ownsRow b2 64 size v n xs) : b.ownsRow b2 64 size v n xs := h.row (by decide) (by decide) (by decide) (by decide) (by decide) ho
theorem KG.ri {base : Nat} {a b : World} (h : KG base a b) {b2 size n : Nat} {v : Value} {xs : List Value} (ho : a.ownsRow b2 3 size v n xs) : b.ownsRow b2 3 size v n xs := h.row (by decide) (by decide) (by decide) (by decide) (by decide) ho
theorem KG.rn {base : Nat} {a b : World} (h : KG base a b) {b2 size n : Nat} {v : Value} {xs : List Value} (ho : a.ownsRow b2 87 size v n xs) : b.ownsRow b2 87 size v n xs := h.row (by decide) (by decide) (by decide) (by decide) (by decide) ho
theorem KG.rh {base : Nat} {a b : World} (h : KG base a b) {b2 size n : Nat} {v : Value} {xs : List Value} (ho : a.ownsRow b2 78 size v n xs) : b.ownsRow b2 78 size v n xs := h.row (by decide) (by decide) (by decide) (by decide) (by decide) ho
theorem bgInt_any (bk base n : Nat) (A : Option Addr) (len cap : Nat) (es : Nat → List Bk.Ent) (xs : List Value) (w : World) (hn : n < 1000000) (hb : base ≤ w.heap.size) (hbb : base ≤ bk) (hB : BG w bk base n es)
    (hx : w.ownsRow base 3 1 (.slice A len cap) len xs) (hap : ∀ e' ∈ es 2, e'.blk = none ∨ e'.blk ≠ (Value.slice A len cap).ownBlock) (hlen : len ≤ 10000000) (hes : (es 2).length < 1000000) :
    Calls Tryz.prog 72 #[.pointer (some ⟨bk, 0, none⟩), .slice A len cap] w fun e w' => e = .returned (.tuple #[]) ∧ BG w' bk base (n + 1) (updG es 2 ⟨A, len, cap, n + 1⟩) ∧ KG base w w' := by
  obtain ⟨sv, hB⟩ := hB
  refine (Bk.keepInt_any bk base n A len cap sv (es 2) xs w hn hb hbb hB.at_ hB.k2 hx hap hlen hes).mono ?_
  rintro e w' ⟨rfl, sv', h1, h2, h3, h4, h5, h6⟩
  refine ⟨rfl, ⟨sv', h2, ?_, ?_, ?_, ?_, fun j q0 q1 q2 q3 => (h1 j q0).trans (hB.z j q0 q1 q2 q3)⟩, ⟨h4.below, fun t0 t1 t2 t3 t4 ho => Bk.own_frm2 ho h4 t0 t4⟩⟩
  · rw [updG_same]; exact h3
  · rw [h1 3 (by decide), updG_other _ _ _ (by decide)]; exact hB.k3.map (fun h => Bk.own_frm2 h h4 (by decide) (by decide)) (fun h => Bk.own_frm2 h h4 (by decide) (by decide))
  · rw [h1 10 (by decide), updG_other _ _ _ (by decide)]; exact hB.k10.map (fun h => Bk.own_frm2 h h4 (by decide) (by decide)) (fun h => Bk.own_frm2 h h4 (by decide) (by decide))
  · rw [h1 11 (by decide), updG_other _ _ _ (by decide)]; exact hB.k11.map (fun h => Bk.own_frm2 h h4 (by decide) (by decide)) (fun h => Bk.own_frm2 h h4 (by decide) (by decide))
theorem bgInt8_any (bk base n : Nat) (A : Option Addr) (len cap : Nat) (es : Nat → List Bk.Ent) (xs : List Value) (w : World) (hn : n < 1000000) (hb : base ≤ w.heap.size) (hbb : base ≤ bk) (hB : BG w bk base n es)
    (hx : w.ownsRow base 64 1 (.slice A len cap) len xs) (hap : ∀ e' ∈ es 3, e'.blk = none ∨ e'.blk ≠ (Value.slice A len cap).ownBlock) (hlen : len ≤ 10000000) (hes : (es 3).length < 1000000) :
    Calls Tryz.prog 32 #[.pointer (some ⟨bk, 0, none⟩), .slice A len cap] w fun e w' => e = .returned (.tuple #[]) ∧ BG w' bk base (n + 1) (updG es 3 ⟨A, len, cap, n + 1⟩) ∧ KG base w w' := by
  obtain ⟨sv, hB⟩ := hB
  refine (Bk.keepInt8_any bk base n A len cap sv (es 3) xs w hn hb hbb hB.at_ hB.k3 hx hap hlen hes).mono ?_
  rintro e w' ⟨rfl, sv', h1, h2, h3, h4, h5, h6⟩
  refine ⟨rfl, ⟨sv', h2, ?_, ?_, ?_, ?_, fun j q0 q1 q2 q3 => (h1 j q1).trans (hB.z j q0 q1 q2 q3)⟩, ⟨h4.below, fun t0 t1 t2 t3 t4 ho => Bk.own_frm2 ho h4 t1 t4⟩⟩
  · rw [h1 2 (by decide), updG_other _ _ _ (by decide)]; exact hB.k2.map (fun h => Bk.own_frm2 h h4 (by decide) (by decide)) (fun h => Bk.own_frm2 h h4 (by decide) (by decide))
  · rw [updG_same]; exact h3
  · rw [h1 10 (by decide), updG_other _ _ _ (by decide)]; exact hB.k10.map (fun h => Bk.own_frm2 h h4 (by decide) (by decide)) (fun h => Bk.own_frm2 h h4 (by decide) (by decide))
  · rw [h1 11 (by decide), updG_other _ _ _ (by decide)]; exact hB.k11.map (fun h => Bk.own_frm2 h h4 (by decide) (by decide)) (fun h => Bk.own_frm2 h h4 (by decide) (by decide))
theorem bgHit_any (bk base n : Nat) (A : Option Addr) (len cap : Nat) (es : Nat → List Bk.Ent) (xs : List Value) (w : World) (hn : n < 1000000) (hb : base ≤ w.heap.size) (hbb : base ≤ bk) (hB : BG w bk base n es)
    (hx : w.ownsRow base 78 2 (.slice A len cap) len xs) (hap : ∀ e' ∈ es 10, e'.blk = none ∨ e'.blk ≠ (Value.slice A len cap).ownBlock) (hlen : len ≤ 10000000) (hes : (es 10).length < 1000000) :
    Calls Tryz.prog 33 #[.pointer (some ⟨bk, 0, none⟩), .slice A len cap] w fun e w' => e = .returned (.tuple #[]) ∧ BG w' bk base (n + 1) (updG es 10 ⟨A, len, cap, n + 1⟩) ∧ KG base w w' := by
  obtain ⟨sv, hB⟩ := hB
  refine (Bk.keepHit_any bk base n A len cap sv (es 10) xs w hn hb hbb hB.at_ hB.k10 hx hap hlen hes).mono ?_
  rintro e w' ⟨rfl, sv', h1, h2, h3, h4, h5, h6⟩
  refine ⟨rfl, ⟨sv', h2, ?_, ?_, ?_, ?_, fun j q0 q1 q2 q3 => (h1 j q2).trans (hB.z j q0 q1 q2 q3)⟩, ⟨h4.below, fun t0 t1 t2 t3 t4 ho => Bk.own_frm2 ho h4 t2 t4⟩⟩
  · rw [h1 2 (by decide), updG_other _ _ _ (by decide)]; exact hB.k2.map (fun h => Bk.own_frm2 h h4 (by decide) (by decide)) (fun h => Bk.own_frm2 h h4 (by decide) (by decide))
  · rw [h1 3 (by decide), updG_other _ _ _ (by decide)]; exact hB.k3.map (fun h => Bk.own_frm2 h h4 (by decide) (by decide)) (fun h => Bk.own_frm2 h h4 (by decide) (by decide))
  · rw [updG_same]; exact h3
  · rw [h1 11 (by decide), updG_other _ _ _ (by decide)]; exact hB.k11.map (fun h => Bk.own_frm2 h h4 (by decide) (by decide)) (fun h => Bk.own_frm2 h h4 (by decide) (by decide))
theorem bgNode_any (bk base n : Nat) (A : Option Addr) (len cap : Nat) (es : Nat → List Bk.Ent) (xs : List Value) (w : World) (hn : n < 1000000) (hb : base ≤ w.heap.size) (hbb : base ≤ bk) (hB : BG w bk base n es)
    (hx : w.ownsRow base 87 3 (.slice A len cap) len xs) (hap : ∀ e' ∈ es 11, e'.blk = none ∨ e'.blk ≠ (Value.slice A len cap).ownBlock) (hlen : len ≤ 10000000) (hes : (es 11).length < 1000000) :
    Calls Tryz.prog 90 #[.pointer (some ⟨bk, 0, none⟩), .slice A len cap] w fun e w' => e = .returned (.tuple #[]) ∧ BG w' bk base (n + 1) (updG es 11 ⟨A, len, cap, n + 1⟩) ∧ KG base w w' := by
  obtain ⟨sv, hB⟩ := hB
  refine (Bk.keepNode_any bk base n A len cap sv (es 11) xs w hn hb hbb hB.at_ hB.k11 hx hap hlen hes).mono ?_
  rintro e w' ⟨rfl, sv', h1, h2, h3, h4, h5, h6⟩
  refine ⟨rfl, ⟨sv', h2, ?_, ?_, ?_, ?_, fun j q0 q1 q2 q3 => (h1 j q3).trans (hB.z j q0 q1 q2 q3)⟩, ⟨h4.below, fun t0 t1 t2 t3 t4 ho => Bk.own_frm2 ho h4 t3 t4⟩⟩
  · rw [h1 2 (by decide), updG_other _ _ _ (by decide)]; exact hB.k2.map (fun h => Bk.own_frm2 h h4 (by decide) (by decide)) (fun h => Bk.own_frm2 h h4 (by decide) (by decide))
  · rw [h1 3 (by decide), updG_other _ _ _ (by decide)]; exact hB.k3.map (fun h => Bk.own_frm2 h h4 (by decide) (by decide)) (fun h => Bk.own_frm2 h h4 (by decide) (by decide))
  · rw [h1 10 (by decide), updG_other _ _ _ (by decide)]; exact hB.k10.map (fun h => Bk.own_frm2 h h4 (by decide) (by decide)) (fun h => Bk.own_frm2 h h4 (by decide) (by decide))
  · rw [updG_same]; exact h3
theorem bgInts_any (bk base n : Nat) (A : Option Addr) (len cap : Nat) (es : Nat → List Bk.Ent) (xs : List Value) (w : World) (hn : n < 1000000) (hb : base ≤ w.heap.size) (hbb : base ≤ bk) (hB : BG w bk base n es)
    (hx : w.ownsRow base 3 1 (.slice A len cap) len xs) (hap : ∀ e' ∈ es 2, e'.blk = none ∨ e'.blk ≠ (Value.slice A len cap).ownBlock) (hlen : len ≤ 10000000) (hes : (es 2).length < 1000000) :
    Calls Tryz.prog 21 #[.pointer (some ⟨bk, 0, none⟩), .slice A len cap] w fun e w' => e = .returned (.tuple #[]) ∧ BG w' bk base (n + 1) (updG es 2 ⟨A, len, cap, n + 1⟩) ∧ KG base w w' := by
  have H := Lib.hid (bgInt_any bk base n A len cap es xs w hn hb hbb hB hx hap hlen hes)
  clear hB hx hap
  go_enter Tryz.func21, Tryz.ntmps21
  go_wp2_with fail
  refine H.out.mono ?_
  rintro e w' ⟨rfl, h⟩
  have HR := Lib.hid h
  clear h H
  go_wp2
  go_end0
  exact ⟨rfl, HR.out⟩
theorem bgInt8s_any (bk base n : Nat) (A : Option Addr) (len cap : Nat) (es : Nat → List Bk.Ent) (xs : List Value) (w : World) (hn : n < 1000000) (hb : base ≤ w.heap.size) (hbb : base ≤ bk) (hB : BG w bk base n es)
    (hx : w.ownsRow base 64 1 (.slice A len cap) len xs) (hap : ∀ e' ∈ es 3, e'.blk = none ∨ e'.blk ≠ (Value.slice A len cap).ownBlock) (hlen : len ≤ 10000000) (hes : (es 3).length < 1000000) :
    Calls Tryz.prog 15 #[.pointer (some ⟨bk, 0, none⟩), .slice A len cap] w fun e w' => e = .returned (.tuple #[]) ∧ BG w' bk base (n + 1) (updG es 3 ⟨A, len, cap, n + 1⟩) ∧ KG base w w' := by
  have H := Lib.hid (bgInt8_any bk base n A len cap es xs w hn hb hbb hB hx hap hlen hes)
  clear hB hx hap
  go_enter Tryz.func15, Tryz.ntmps15
  go_wp2_with fail
  refine H.out.mono ?_
  rintro e w' ⟨rfl, h⟩
  have HR := Lib.hid h
  clear h H
  go_wp2
  go_end0
  exact ⟨rfl, HR.out⟩
theorem bgHits_any (bk base n : Nat) (A : Option Addr) (len cap : Nat) (es : Nat → List Bk.Ent) (xs : List Value) (w : World) (hn : n < 1000000) (hb : base ≤ w.heap.size) (hbb : base ≤ bk) (hB : BG w bk base n es)
    (hx : w.ownsRow base 78 2 (.slice A len cap) len xs) (hap : ∀ e' ∈ es 10, e'.blk = none ∨ e'.blk ≠ (Value.slice A len cap).ownBlock) (hlen : len ≤ 10000000) (hes : (es 10).length < 1000000) :
    Calls Tryz.prog 16 #[.pointer (some ⟨bk, 0, none⟩), .slice A len cap] w fun e w' => e = .returned (.tuple #[]) ∧ BG w' bk base (n + 1) (updG es 10 ⟨A, len, cap, n + 1⟩) ∧ KG base w w' := by
  have H := Lib.hid (bgHit_any bk base n A len cap es xs w hn hb hbb hB hx hap hlen hes)
  clear hB hx hap
  go_enter Tryz.func16, Tryz.ntmps16
  go_wp2_with fail
  refine H.out.mono ?_
  rintro e w' ⟨rfl, h⟩
  have HR := Lib.hid h
  clear h H
  go_wp2
  go_end0
  exact ⟨rfl, HR.out⟩
end Go.Proofs.YtkmngbkghgelfaaGreat
/- The Book of the statements, with a node, nodes, a graph. -/
namespace Go.Proofs.YtkmngbkghgelfaaGreat
open Go.RowKit
set_option linter.unusedVariables false
theorem BG.below {w w' : World} {bk base n : Nat} {es : Nat → List Bk.Ent} (h : BG w bk base n es) (hb : Below w.heap.size w w') : BG w' bk base n es := by
  obtain ⟨sv, h⟩ := h
  exact ⟨sv, ⟨h.at_.bel hb, h.k2.map (fun k => own_below k hb) (fun k => own_below k hb), h.k3.map (fun k => own_below k hb) (fun k => own_below k hb), h.k10.map (fun k => own_below k hb) (fun k => own_below k hb), h.k11.map (fun k => own_below k hb) (fun k => own_below k hb), h.z⟩⟩
theorem KG.of_below {base : Nat} {w w' : World} (hb : Below w.heap.size w w') (h : base ≤ w.heap.size) : KG base w w' := ⟨hb.mono h, fun _ _ _ _ _ ho => own_below ho hb⟩
theorem box3_row (w : World) (base : Nat) (hb : base ≤ w.heap.size) (t : TypeId) (x y z : Value) : (w.alloc (.cells #[x, y, z] t)).ownsRow base t 3 (.slice (some ⟨w.heap.size, 0, none⟩) 1 1) 1 [x, y, z] :=
  ⟨rfl, .inr ⟨w.heap.size, 1, #[x, y, z], rfl, hb, World.alloc_heap_new w _, Nat.le_refl _, by decide, rfl, rfl⟩⟩
theorem box2_row (w : World) (base : Nat) (hb : base ≤ w.heap.size) (t : TypeId) (x y : Value) : (w.alloc (.cells #[x, y] t)).ownsRow base t 2 (.slice (some ⟨w.heap.size, 0, none⟩) 1 1) 1 [x, y] :=
  ⟨rfl, .inr ⟨w.heap.size, 1, #[x, y], rfl, hb, World.alloc_heap_new w _, Nat.le_refl _, by decide, rfl, rfl⟩⟩
/-- The block that a list names. -/
def vbG (x : Vc) : Option Nat := (Value.slice x.1 x.2.2.length x.2.1).ownBlock
def entV (x : Vc) (n : Nat) : Bk.Ent := ⟨x.1, x.2.2.length, x.2.1, n⟩
theorem entV_blk (x : Vc) (n : Nat) : (entV x n).blk = vbG x := rfl
/-- A node kept: its vector, its neighbours. -/
def updN (es : Nat → List Bk.Ent) (x : Gn) (n : Nat) : Nat → List Bk.Ent := updG (updG es 3 (entV x.2.1 (n + 1))) 2 (entV x.2.2 (n + 2))
theorem updN_2 (es : Nat → List Bk.Ent) (x : Gn) (n : Nat) : updN es x n 2 = es 2 ++ [entV x.2.2 (n + 2)] := by unfold updN; rw [updG_same, updG_other _ _ _ (by decide)]
theorem updN_3 (es : Nat → List Bk.Ent) (x : Gn) (n : Nat) : updN es x n 3 = es 3 ++ [entV x.2.1 (n + 1)] := by unfold updN; rw [updG_other _ _ _ (by decide), updG_same]
theorem updN_o (es : Nat → List Bk.Ent) (x : Gn) (n : Nat) {j : Nat} (h2 : j ≠ 2) (h3 : j ≠ 3) : updN es x n j = es j := by unfold updN; rw [updG_other _ _ _ h2, updG_other _ _ _ h3]
set_option maxRecDepth 100000 in
set_option maxHeartbeats 2000000 in
theorem bgNode1_any (bk base n : Nat) (x : Gn) (es : Nat → List Bk.Ent) (xs ys : List Value) (w : World) (hn : n < 900000) (hb : base ≤ w.heap.size) (hbb : base ≤ bk) (hB : BG w bk base n es)
    (hx : w.ownsRow base 64 1 (.slice x.2.1.1 x.2.1.2.2.length x.2.1.2.1) x.2.1.2.2.length xs) (hy : w.ownsRow base 3 1 (.slice x.2.2.1 x.2.2.2.2.length x.2.2.2.1) x.2.2.2.2.length ys)
    (ha3 : ∀ e' ∈ es 3, e'.blk = none ∨ e'.blk ≠ vbG x.2.1) (ha2 : ∀ e' ∈ es 2, e'.blk = none ∨ e'.blk ≠ vbG x.2.2) (hl1 : x.2.1.2.2.length ≤ 10000000) (hl2 : x.2.2.2.2.length ≤ 10000000) (h3 : (es 3).length < 1000000) (h2 : (es 2).length < 1000000) :
    Calls Tryz.prog 89 #[.pointer (some ⟨bk, 0, none⟩), .agg #[.int .u64 x.1, .slice x.2.1.1 x.2.1.2.2.length x.2.1.2.1, .slice x.2.2.1 x.2.2.2.2.length x.2.2.2.1]] w fun e w' => e = .returned (.tuple #[]) ∧ BG w' bk base (n + 2) (updN es x n) ∧ KG base w w' := by
  obtain ⟨id, ⟨a1, c1, v⟩, ⟨a2, c2, o⟩⟩ := x
  have b0 : Below w.heap.size w (w.alloc (.cells #[.int .u64 id, .slice a1 v.length c1, .slice a2 o.length c2] 87)) := below_one (Below.refl _ _) _
  have HB := Lib.hid (hB.below b0)
  have HX := Lib.hid (own_below hx b0)
  have HY := Lib.hid (own_below hy b0)
  have HR := Lib.hid (box3_row w base hb 87 (.int .u64 id) (.slice a1 v.length c1) (.slice a2 o.length c2))
  have HK0 := Lib.hid (KG.of_below b0 hb)
  have hb0 : base ≤ (w.alloc (.cells #[.int .u64 id, .slice a1 v.length c1, .slice a2 o.length c2] 87)).heap.size := Nat.le_trans hb b0.size
  clear hB hx hy b0 hb
  go_enter Tryz.func89, Tryz.ntmps89
  go_wp2_with fail
  obtain ⟨w0, ew0⟩ : ∃ w0, w.alloc (.cells #[.int .u64 id, .slice a1 v.length c1, .slice a2 o.length c2] 87) = w0 := ⟨_, rfl⟩
  rw [ew0] at HB HX HY HR HK0 hb0 ⊢
  clear ew0
  obtain ⟨gx, eg⟩ : ∃ gx, w.heap.size = gx := ⟨_, rfl⟩
  rw [eg] at HR ⊢
  clear eg
  have K1 := Lib.hid (bgInt8s_any bk base n a1 v.length c1 es xs w0 (by omega) hb0 hbb HB.out HX.out ha3 hl1 h3)
  have d1 : w0.cell? ⟨gx, 1, none⟩ = some (.slice a1 v.length c1) := (HR.out.cellAt 1 (by decide)).trans rfl
  go_wp2_with (go_at_call 15; refine K1.out.mono ?_; rintro e w1 ⟨rfl, hB1, hK1⟩; have d2 : w1.cell? ⟨gx, 2, none⟩ = some (.slice a2 o.length c2) := ((hK1.rn HR.out).cellAt 2 (by decide)).trans rfl)
  have K2 := Lib.hid (bgInts_any bk base (n + 1) a2 o.length c2 _ ys w1 (by omega) (Nat.le_trans hb0 hK1.below.size) hbb hB1 (hK1.ri HY.out) (by rw [updG_other _ _ _ (by decide)]; exact ha2) hl2 (by rw [updG_other _ _ _ (by decide)]; exact h2))
  have HK1 := Lib.hid hK1
  clear hB1 hK1 K1
  go_wp2_with (go_at_call 21; refine K2.out.mono ?_; rintro e w2 ⟨rfl, hB2, hK2⟩)
  go_end0
  exact ⟨rfl, hB2, HK0.out.trans (HK1.out.trans hK2)⟩
/-- What a book is handed: a list of nodes of the call's own. -/
structure ForG (w : World) (base : Nat) (A : Option Addr) (c : Nat) (L : List Gn) (es2 es3 es11 : List Bk.Ent) : Prop where
  row : w.ownsRow base 87 3 (.slice A L.length c) L.length (flatG L)
  vec : ∀ x ∈ L, ∃ ys, w.ownsRow base 64 1 (.slice x.2.1.1 x.2.1.2.2.length x.2.1.2.1) x.2.1.2.2.length ys
  out : ∀ x ∈ L, ∃ ys, w.ownsRow base 3 1 (.slice x.2.2.1 x.2.2.2.2.length x.2.2.2.1) x.2.2.2.2.length ys
  len : ∀ x ∈ L, x.2.1.2.2.length ≤ 10000000 ∧ x.2.2.2.2.length ≤ 10000000
  av : L.Pairwise fun x y => vbG x.2.1 = none ∨ vbG x.2.1 ≠ vbG y.2.1
  ao : L.Pairwise fun x y => vbG x.2.2 = none ∨ vbG x.2.2 ≠ vbG y.2.2
  ap3 : ∀ e' ∈ es3, ∀ x ∈ L, e'.blk = none ∨ e'.blk ≠ vbG x.2.1
  ap2 : ∀ e' ∈ es2, ∀ x ∈ L, e'.blk = none ∨ e'.blk ≠ vbG x.2.2
  apN : ∀ e' ∈ es11, e'.blk = none ∨ e'.blk ≠ (Value.slice A L.length c).ownBlock
theorem ForG.below {w w' : World} {base : Nat} {A : Option Addr} {c : Nat} {L : List Gn} {es2 es3 es11 : List Bk.Ent} (h : ForG w base A c L es2 es3 es11) (hb : Below w.heap.size w w') : ForG w' base A c L es2 es3 es11 :=
  ⟨own_below h.row hb, fun x hx => by obtain ⟨ys, hy⟩ := h.vec x hx; exact ⟨ys, own_below hy hb⟩, fun x hx => by obtain ⟨ys, hy⟩ := h.out x hx; exact ⟨ys, own_below hy hb⟩, h.len, h.av, h.ao, h.ap3, h.ap2, h.apN⟩
theorem pair_atG {α : Type} {L : List α} {p : α → α → Prop} (h : L.Pairwise p) {i : Nat} (hi : i < L.length) : ∀ x ∈ L.take i, p x (L[i]) := by
  have h1 := h.sublist (List.take_sublist (i + 1) L)
  rw [List.take_succ_eq_append_getElem hi] at h1
  intro x hx
  exact (List.pairwise_append.1 h1).2.2 x hx _ (List.mem_singleton.2 rfl)
set_option maxRecDepth 100000 in
set_option maxHeartbeats 2000000 in
theorem bgNodes_any (bk base n : Nat) (A : Option Addr) (c : Nat) (L : List Gn) (m : Nat) (hm : m = L.length) (es : Nat → List Bk.Ent) (w : World) (hn : n + 2 * L.length < 800000) (hb : base ≤ w.heap.size) (hbb : base ≤ bk) (hB : BG w bk base n es)
    (hF : ForG w base A c L (es 2) (es 3) (es 11)) (hl : L.length ≤ 20000) (h2 : (es 2).length ≤ n) (h3 : (es 3).length ≤ n) (hV : (es 11).length ≤ n) :
    Calls Tryz.prog 31 #[.pointer (some ⟨bk, 0, none⟩), .slice A m c] w fun e w' => e = .returned (.tuple #[]) ∧ ∃ es', BG w' bk base (n + 2 * L.length + 1) es' ∧ KG base w w' ∧ (∀ e' ∈ es' 3, e' ∈ es 3 ∨ ∃ x ∈ L, e'.blk = vbG x.2.1) ∧ (∀ e' ∈ es' 2, e' ∈ es 2 ∨ ∃ x ∈ L, e'.blk = vbG x.2.2) ∧
      (es' 3).length ≤ n + L.length ∧ (es' 2).length ≤ n + L.length ∧ es' 11 = es 11 ++ [⟨A, L.length, c, n + 2 * L.length + 1⟩] ∧ ∀ j, j ≠ 2 → j ≠ 3 → j ≠ 11 → es' j = es j := by
  subst hm
  have HF := Lib.hid hF
  have HB := Lib.hid hB
  have HN := Lib.hid hn
  have H2 := Lib.hid h2
  have H3 := Lib.hid h3
  clear hF hB hn h2 h3
  go_enter Tryz.func31, Tryz.ntmps31
  go_wp2
  go_loopw [4] (fun i wr => ∃ k : Nat, k ≤ L.length ∧ i = .int .i64 k ∧ ∃ es', BG wr bk base (n + 2 * k) es' ∧ KG base w wr ∧ (∀ e' ∈ es' 3, e' ∈ es 3 ∨ ∃ x ∈ L.take k, e'.blk = vbG x.2.1) ∧ (∀ e' ∈ es' 2, e' ∈ es 2 ∨ ∃ x ∈ L.take k, e'.blk = vbG x.2.2) ∧
      (es' 3).length ≤ n + k ∧ (es' 2).length ≤ n + k ∧ ∀ j, j ≠ 2 → j ≠ 3 → es' j = es j) (fun i _ => L.length - (intOf i).toNat)
  case atStart => exact ⟨0, by omega, rfl, es, HB.out, KG.refl _ _, fun e' he => .inl he, fun e' he => .inl he, H3.out, H2.out, fun _ _ _ => rfl⟩
  case round =>
    clear HB H2 H3
    obtain ⟨k, hk, rfl, es1, hB1, hK, hE, hE2, hl3, hl2, hEo⟩ := hrel
    have HB1 := Lib.hid hB1
    have HK := Lib.hid hK
    have HE := Lib.hid hE
    have HE2 := Lib.hid hE2
    have HO := Lib.hid hEo
    have H3 := Lib.hid hl3
    have H2 := Lib.hid hl2
    have hsz := hK.below.size
    clear hB1 hK hE hE2 hEo hl3 hl2
    by_cases hlt : k < L.length
    · have hrow := HK.out.rn HF.out.row
      obtain ⟨g, rfl, -⟩ := own_some hrow (by omega)
      have HX := Lib.hid (List.getElem_mem hlt)
      have HPV := Lib.hid (pair_atG HF.out.av hlt)
      have HPO := Lib.hid (pair_atG HF.out.ao hlt)
      have HTK := Lib.hid (List.take_succ_eq_append_getElem hlt)
      obtain ⟨q0, q1, q2⟩ := flatG_get (List.getElem?_eq_getElem hlt)
      have c0 := (hrow.cellAt (k * 3) (by omega)).trans q0
      have c1 := (hrow.cellAt (k * 3 + 1) (by omega)).trans q1
      have c2 := (hrow.cellAt (k * 3 + 2) (by omega)).trans q2
      obtain ⟨x, ex⟩ : ∃ x, L[k] = x := ⟨_, rfl⟩
      rw [ex] at c0 c1 c2 HX HPV HPO HTK
      obtain ⟨xs, hx⟩ := HF.out.vec x HX.out
      obtain ⟨ys, hy⟩ := HF.out.out x HX.out
      have KE := Lib.hid (bgNode1_any bk base (n + 2 * k) x es1 xs ys wr (by have := HN.out; omega) (by omega) hbb HB1.out (HK.out.r8 hx) (HK.out.ri hy) (fun e' he => by
        rcases HE.out e' he with h1 | ⟨y, hy, h1⟩
        · exact HF.out.ap3 e' h1 x HX.out
        · rw [h1]; exact HPV.out y hy) (fun e' he => by
        rcases HE2.out e' he with h1 | ⟨y, hy, h1⟩
        · exact HF.out.ap2 e' h1 x HX.out
        · rw [h1]; exact HPO.out y hy) (HF.out.len x HX.out).1 (HF.out.len x HX.out).2 (by have := HN.out; have := H3.out; omega) (by have := HN.out; have := H2.out; omega))
      clear hrow q0 q1 q2 ex hx hy
      go_wp2_with (go_at_call 89; refine KE.out.mono ?_; rintro e w1 ⟨rfl, hB2, hK2⟩)
      have HB2 := Lib.hid hB2
      have HK2 := Lib.hid hK2
      clear hB2 hK2
      go_roundw
      case rel => exact ⟨k + 1, by omega, by go_num, updN es1 x (n + 2 * k), by rw [show n + 2 * (k + 1) = n + 2 * k + 2 by omega]; exact HB2.out, HK.out.trans HK2.out, fun e' he => by
        rw [updN_3] at he
        rcases List.mem_append.1 he with h1 | h1
        · rcases HE.out e' h1 with h2 | ⟨y, hy, h2⟩
          · exact .inl h2
          · exact .inr ⟨y, by rw [HTK.out]; exact List.mem_append_left _ hy, h2⟩
        · rw [List.mem_singleton] at h1
          subst h1
          exact .inr ⟨x, by rw [HTK.out]; simp, rfl⟩, fun e' he => by
        rw [updN_2] at he
        rcases List.mem_append.1 he with h1 | h1
        · rcases HE2.out e' h1 with h2 | ⟨y, hy, h2⟩
          · exact .inl h2
          · exact .inr ⟨y, by rw [HTK.out]; exact List.mem_append_left _ hy, h2⟩
        · rw [List.mem_singleton] at h1
          subst h1
          exact .inr ⟨x, by rw [HTK.out]; simp, rfl⟩, by have := H3.out; rw [updN_3, List.length_append, List.length_singleton]; omega, by have := H2.out; rw [updN_2, List.length_append, List.length_singleton]; omega, fun j h2 h3 => (updN_o _ _ _ h2 h3).trans (HO.out j h2 h3)⟩
      case measure => simp [intOf]; omega
    · obtain rfl : k = L.length := by omega
      have KE := Lib.hid (bgNode_any bk base (n + 2 * L.length) A L.length c es1 _ wr (by have := HN.out; omega) (by omega) hbb HB1.out (HK.out.rn HF.out.row) (by rw [HO.out 11 (by decide) (by decide)]; exact HF.out.apN) (by omega) (by rw [HO.out 11 (by decide) (by decide)]; have := HN.out; omega))
      go_wp2_with (go_at_call 90; refine KE.out.mono ?_; rintro e w1 ⟨rfl, hB2, hK2⟩)
      go_end0
      exact ⟨rfl, _, hB2, HK.out.trans hK2, fun e' he => by
        rw [updG_other _ _ _ (by decide)] at he
        have := HE.out e' he
        rw [List.take_length] at this
        exact this, fun e' he => by
        rw [updG_other _ _ _ (by decide)] at he
        have := HE2.out e' he
        rw [List.take_length] at this
        exact this, by rw [updG_other _ _ _ (by decide)]; exact H3.out, by rw [updG_other _ _ _ (by decide)]; exact H2.out, by rw [updG_same, HO.out 11 (by decide) (by decide)], fun j h2 h3 h11 => (updG_other _ _ _ h11).trans (HO.out j h2 h3)⟩
set_option maxRecDepth 100000 in
set_option maxHeartbeats 2000000 in
theorem bgGraph_any (S : Int) (bk base n : Nat) (A : Option Addr) (c : Nat) (L : List Gn) (m : Nat) (hm : m = L.length) (es : Nat → List Bk.Ent) (w : World) (hn : n + 2 * L.length < 800000) (hb : base ≤ w.heap.size) (hbb : base ≤ bk) (hB : BG w bk base n es)
    (hF : ForG w base A c L (es 2) (es 3) (es 11)) (hl : L.length ≤ 20000) (h2 : (es 2).length ≤ n) (h3 : (es 3).length ≤ n) (hV : (es 11).length ≤ n) :
    Calls Tryz.prog 14 #[.pointer (some ⟨bk, 0, none⟩), .agg #[.slice A m c, .int .i64 S]] w fun e w' => e = .returned (.tuple #[]) ∧ ∃ es', BG w' bk base (n + 2 * L.length + 1) es' ∧ KG base w w' ∧ (∀ e' ∈ es' 3, e' ∈ es 3 ∨ ∃ x ∈ L, e'.blk = vbG x.2.1) ∧ (∀ e' ∈ es' 2, e' ∈ es 2 ∨ ∃ x ∈ L, e'.blk = vbG x.2.2) ∧
      (es' 3).length ≤ n + L.length ∧ (es' 2).length ≤ n + L.length ∧ es' 11 = es 11 ++ [⟨A, L.length, c, n + 2 * L.length + 1⟩] ∧ ∀ j, j ≠ 2 → j ≠ 3 → j ≠ 11 → es' j = es j := by
  subst hm
  have b0 : Below w.heap.size w (w.alloc (.cells #[.slice A L.length c, .int .i64 S] 24)) := below_one (Below.refl _ _) _
  have KE := Lib.hid (bgNodes_any bk base n A c L _ rfl es _ hn (Nat.le_trans hb b0.size) hbb (hB.below b0) (hF.below b0) hl h2 h3 hV)
  have HK0 := Lib.hid (KG.of_below b0 hb)
  clear hB hF b0
  go_enter Tryz.func14, Tryz.ntmps14
  go_wp2_with (go_at_call 31; refine KE.out.mono ?_; rintro e w1 ⟨rfl, es2, hB2, hK2, hr⟩)
  go_end0
  exact ⟨rfl, es2, hB2, HK0.out.trans hK2, hr⟩
end Go.Proofs.YtkmngbkghgelfaaGreat
/- A book of numbers, nodes and graphs under way: its entries lie below a bound. -/
namespace Go.Proofs.YtkmngbkghgelfaaGreat
open Go.RowKit
set_option linter.unusedVariables false
/-- A book under way: its entries lie below hi. -/
def BTg (w : World) (bk base n hi : Nat) : Prop := ∃ es, BG w bk base n es ∧ (∀ j, (es j).length ≤ n) ∧ ∀ j, ∀ e ∈ es j, ∀ g, e.blk = some g → g < hi
def newBkG : Obj := .cells #[.int .i64 0, .slice none 0 0, .slice none 0 0, .slice none 0 0, .slice none 0 0, .slice none 0 0, .slice none 0 0, .slice none 0 0, .slice none 0 0, .slice none 0 0, .slice none 0 0, .slice none 0 0, .slice none 0 0] 50
theorem btg_new (w : World) (base hi : Nat) : BTg (w.alloc newBkG) w.heap.size base 0 hi :=
  ⟨fun _ => [], ⟨fun _ => .slice none 0 0, ⟨World.alloc_heap_new w _, Bk.KIn.nil _ _ _ _ _ _ _, Bk.KIn.nil _ _ _ _ _ _ _, Bk.KIn.nil _ _ _ _ _ _ _, Bk.KIn.nil _ _ _ _ _ _ _, fun _ _ _ _ _ => rfl⟩⟩, fun j => Nat.le_refl _, fun j e he => by simp at he⟩
theorem BTg.up {w : World} {bk base n hi hi' : Nat} (h : BTg w bk base n hi) (hh : hi ≤ hi') : BTg w bk base n hi' := by
  obtain ⟨es, h1, h2, h3⟩ := h
  exact ⟨es, h1, h2, fun j e he g hg => by have := h3 j e he g hg; omega⟩
theorem BTg.below {w w' : World} {bk base n hi : Nat} (h : BTg w bk base n hi) (hb : Below w.heap.size w w') : BTg w' bk base n hi := by
  obtain ⟨es, h1, h2, h3⟩ := h
  exact ⟨es, h1.below hb, h2, h3⟩
theorem neG_range {lo hi : Nat} (o p : Option Nat) (ho : ∀ g, o = some g → g < lo) (hp : ∀ g, p = some g → lo ≤ g ∧ g < hi) : o = none ∨ o ≠ p := by
  cases o with
  | none => exact .inl rfl
  | some g => exact .inr (fun e => by have := ho g rfl; have := hp g e.symm; omega)
theorem updG_len {es : Nat → List Bk.Ent} {c : Nat} {x : Bk.Ent} {n : Nat} (h : ∀ j, (es j).length ≤ n) (j : Nat) : (updG es c x j).length ≤ n + 1 := by
  unfold updG
  split
  · have := h c; simp; omega
  · have := h j; omega
theorem updG_lt {es : Nat → List Bk.Ent} {c lo hi : Nat} {x : Bk.Ent} (hlo : lo ≤ hi) (h : ∀ j, ∀ e ∈ es j, ∀ g, e.blk = some g → g < lo) (hx : ∀ g, x.blk = some g → lo ≤ g ∧ g < hi) (j : Nat) : ∀ e ∈ updG es c x j, ∀ g, e.blk = some g → g < hi := by
  unfold updG
  split
  · intro e he g hg
    rcases List.mem_append.1 he with h1 | h1
    · have := h _ e h1 g hg; omega
    · rw [List.mem_singleton] at h1
      subst h1
      exact (hx g hg).2
  · intro e he g hg
    have := h _ e he g hg; omega
theorem btg_ints {bk base n lo hi : Nat} {A : Option Addr} {len cap : Nat} {xs : List Value} {w : World} (hB : BTg w bk base n lo) (hx : w.ownsRow base 3 1 (.slice A len cap) len xs) (hr : ∀ g, (Value.slice A len cap).ownBlock = some g → lo ≤ g ∧ g < hi) (hlo : lo ≤ hi) (hb : base ≤ w.heap.size) (hbb : base ≤ bk) (hlen : len ≤ 10000000) (hn : n ≤ 700000) :
    Calls Tryz.prog 21 #[.pointer (some ⟨bk, 0, none⟩), .slice A len cap] w fun e w' => e = .returned (.tuple #[]) ∧ BTg w' bk base (n + 1) hi ∧ KG base w w' := by
  obtain ⟨es, h1, h2, h3⟩ := hB
  refine (bgInts_any bk base n A len cap es xs w (by omega) hb hbb h1 hx (fun e he => neG_range _ _ (h3 2 e he) hr) hlen (by have := h2 2; omega)).mono ?_
  rintro e w' ⟨rfl, k1, k2⟩
  exact ⟨rfl, ⟨_, k1, updG_len h2, updG_lt hlo h3 hr⟩, k2⟩
theorem btg_int8s {bk base n lo hi : Nat} {A : Option Addr} {len cap : Nat} {xs : List Value} {w : World} (hB : BTg w bk base n lo) (hx : w.ownsRow base 64 1 (.slice A len cap) len xs) (hr : ∀ g, (Value.slice A len cap).ownBlock = some g → lo ≤ g ∧ g < hi) (hlo : lo ≤ hi) (hb : base ≤ w.heap.size) (hbb : base ≤ bk) (hlen : len ≤ 10000000) (hn : n ≤ 700000) :
    Calls Tryz.prog 15 #[.pointer (some ⟨bk, 0, none⟩), .slice A len cap] w fun e w' => e = .returned (.tuple #[]) ∧ BTg w' bk base (n + 1) hi ∧ KG base w w' := by
  obtain ⟨es, h1, h2, h3⟩ := hB
  refine (bgInt8s_any bk base n A len cap es xs w (by omega) hb hbb h1 hx (fun e he => neG_range _ _ (h3 3 e he) hr) hlen (by have := h2 3; omega)).mono ?_
  rintro e w' ⟨rfl, k1, k2⟩
  exact ⟨rfl, ⟨_, k1, updG_len h2, updG_lt hlo h3 hr⟩, k2⟩
theorem btg_hits {bk base n lo hi : Nat} {A : Option Addr} {len cap : Nat} {xs : List Value} {w : World} (hB : BTg w bk base n lo) (hx : w.ownsRow base 78 2 (.slice A len cap) len xs) (hr : ∀ g, (Value.slice A len cap).ownBlock = some g → lo ≤ g ∧ g < hi) (hlo : lo ≤ hi) (hb : base ≤ w.heap.size) (hbb : base ≤ bk) (hlen : len ≤ 10000000) (hn : n ≤ 700000) :
    Calls Tryz.prog 16 #[.pointer (some ⟨bk, 0, none⟩), .slice A len cap] w fun e w' => e = .returned (.tuple #[]) ∧ BTg w' bk base (n + 1) hi ∧ KG base w w' := by
  obtain ⟨es, h1, h2, h3⟩ := hB
  refine (bgHits_any bk base n A len cap es xs w (by omega) hb hbb h1 hx (fun e he => neG_range _ _ (h3 10 e he) hr) hlen (by have := h2 10; omega)).mono ?_
  rintro e w' ⟨rfl, k1, k2⟩
  exact ⟨rfl, ⟨_, k1, updG_len h2, updG_lt hlo h3 hr⟩, k2⟩
/-- A graph's nodes of the call's own, all whose blocks lie from lo up to hi. -/
structure InG (w : World) (base lo hi : Nat) (A : Option Addr) (c : Nat) (L : List Gn) : Prop where
  row : w.ownsRow base 87 3 (.slice A L.length c) L.length (flatG L)
  vec : ∀ x ∈ L, ∃ ys, w.ownsRow base 64 1 (.slice x.2.1.1 x.2.1.2.2.length x.2.1.2.1) x.2.1.2.2.length ys
  out : ∀ x ∈ L, ∃ ys, w.ownsRow base 3 1 (.slice x.2.2.1 x.2.2.2.2.length x.2.2.2.1) x.2.2.2.2.length ys
  len : ∀ x ∈ L, x.2.1.2.2.length ≤ 10000000 ∧ x.2.2.2.2.length ≤ 10000000
  av : L.Pairwise fun x y => vbG x.2.1 = none ∨ vbG x.2.1 ≠ vbG y.2.1
  ao : L.Pairwise fun x y => vbG x.2.2 = none ∨ vbG x.2.2 ≠ vbG y.2.2
  ro : ∀ g, (Value.slice A L.length c).ownBlock = some g → lo ≤ g ∧ g < hi
  rv : ∀ x ∈ L, ∀ g, vbG x.2.1 = some g → lo ≤ g ∧ g < hi
  ru : ∀ x ∈ L, ∀ g, vbG x.2.2 = some g → lo ≤ g ∧ g < hi
theorem InG.below {w w' : World} {base lo hi : Nat} {A : Option Addr} {c : Nat} {L : List Gn} (h : InG w base lo hi A c L) (hb : Below w.heap.size w w') : InG w' base lo hi A c L :=
  ⟨own_below h.row hb, fun x hx => by obtain ⟨ys, hy⟩ := h.vec x hx; exact ⟨ys, own_below hy hb⟩, fun x hx => by obtain ⟨ys, hy⟩ := h.out x hx; exact ⟨ys, own_below hy hb⟩, h.len, h.av, h.ao, h.ro, h.rv, h.ru⟩
theorem InG.kg {w w' : World} {base lo hi : Nat} {A : Option Addr} {c : Nat} {L : List Gn} (h : InG w base lo hi A c L) (hk : KG base w w') : InG w' base lo hi A c L :=
  ⟨hk.rn h.row, fun x hx => by obtain ⟨ys, hy⟩ := h.vec x hx; exact ⟨ys, hk.r8 hy⟩, fun x hx => by obtain ⟨ys, hy⟩ := h.out x hx; exact ⟨ys, hk.ri hy⟩, h.len, h.av, h.ao, h.ro, h.rv, h.ru⟩
theorem btg_graph {S : Int} {bk base n lo hi : Nat} {A : Option Addr} {c : Nat} {L : List Gn} {w : World} (hB : BTg w bk base n lo) (hE : InG w base lo hi A c L) (hlo : lo ≤ hi) (hb : base ≤ w.heap.size) (hbb : base ≤ bk) (hl : L.length ≤ 20000) (hn : n ≤ 700000) :
    Calls Tryz.prog 14 #[.pointer (some ⟨bk, 0, none⟩), .agg #[.slice A L.length c, .int .i64 S]] w fun e w' => e = .returned (.tuple #[]) ∧ BTg w' bk base (n + 2 * L.length + 1) hi ∧ KG base w w' := by
  obtain ⟨es, h1, h2, h3⟩ := hB
  refine (bgGraph_any S bk base n A c L _ rfl es w (by omega) hb hbb h1 ⟨hE.row, hE.vec, hE.out, hE.len, hE.av, hE.ao, fun e he x hx => neG_range _ _ (h3 3 e he) (hE.rv x hx), fun e he x hx => neG_range _ _ (h3 2 e he) (hE.ru x hx), fun e he => neG_range _ _ (h3 11 e he) hE.ro⟩ hl (h2 2) (h2 3) (h2 11)).mono ?_
  rintro e w' ⟨rfl, es', k1, k2, k3, k4, k5, k6, k7, k8⟩
  refine ⟨rfl, ⟨es', k1, fun j => ?_, fun j e he g hg => ?_⟩, k2⟩
  · by_cases q3 : j = 3
    · subst q3; omega
    · by_cases q2 : j = 2
      · subst q2; omega
      · by_cases q11 : j = 11
        · subst q11; rw [k7]; have := h2 11; simp; omega
        · rw [k8 j q2 q3 q11]; have := h2 j; omega
  · by_cases q3 : j = 3
    · subst q3
      rcases k3 e he with q | ⟨x, hx, q⟩
      · have := h3 3 e q g hg; omega
      · rw [q] at hg; exact (hE.rv x hx g hg).2
    · by_cases q2 : j = 2
      · subst q2
        rcases k4 e he with q | ⟨x, hx, q⟩
        · have := h3 2 e q g hg; omega
        · rw [q] at hg; exact (hE.ru x hx g hg).2
      · by_cases q11 : j = 11
        · subst q11
          rw [k7] at he
          rcases List.mem_append.1 he with q | q
          · have := h3 11 e q g hg; omega
          · rw [List.mem_singleton] at q
            subst q
            exact (hE.ro g hg).2
        · rw [k8 j q2 q3 q11] at he; have := h3 j e he g hg; omega
theorem btg_apart {w : World} {bk base n hi : Nat} (hB : BTg w bk base n hi) (hb : base ≤ w.heap.size) : Calls Tryz.prog 17 #[.pointer (some ⟨bk, 0, none⟩)] w fun e w' => e = .returned (.bool true) ∧ Below base w w' := by
  obtain ⟨es, ⟨sv, h⟩, _, _⟩ := hB
  exact Bk.apart_any hb h.at_ h.k2 h.k3 h.k10 h.k11 (h.z 1 (by decide) (by decide) (by decide) (by decide)) (h.z 4 (by decide) (by decide) (by decide) (by decide)) (h.z 5 (by decide) (by decide) (by decide) (by decide)) (h.z 6 (by decide) (by decide) (by decide) (by decide)) (h.z 7 (by decide) (by decide) (by decide) (by decide)) (h.z 8 (by decide) (by decide) (by decide) (by decide)) (h.z 9 (by decide) (by decide) (by decide) (by decide)) (h.z 12 (by decide) (by decide) (by decide) (by decide))
/-- A twin lies in the range from where it was made. -/
theorem TwinG.inG {w : World} {base lo g : Nat} {T : List Gn} (h : TwinG w lo g T) (hb : base ≤ lo) (hs : ∀ x ∈ pns T, x.2.1.length ≤ 20000 ∧ x.2.2.length ≤ 20000) : InG w base lo w.heap.size (some ⟨g, 0, none⟩) (T.length + 1) T :=
  ⟨own_base h.own hb, fun x hx => ⟨_, own_base (h.tv x hx).own hb⟩, fun x hx => ⟨_, own_base (h.to x hx).own hb⟩, fun x hx => by
    have h1 := hs _ (pns_mem hx)
    obtain ⟨q1, q2⟩ := h1
    exact ⟨Nat.le_trans q1 (by omega), Nat.le_trans q2 (by omega)⟩, h.av.imp_of_mem (fun {a b} ha hb2 hne => by
    obtain ⟨ga, ea, -, -⟩ := (h.tv a ha).lt
    obtain ⟨gb, eb, -, -⟩ := (h.tv b hb2).lt
    refine .inr fun e => hne ?_
    simp only [vbG, ea, eb, Value.ownBlock, Option.some.injEq] at e
    rw [ea, eb, e]), h.ao.imp_of_mem (fun {a b} ha hb2 hne => by
    obtain ⟨ga, ea, -, -⟩ := (h.to a ha).lt
    obtain ⟨gb, eb, -, -⟩ := (h.to b hb2).lt
    refine .inr fun e => hne ?_
    simp only [vbG, ea, eb, Value.ownBlock, Option.some.injEq] at e
    rw [ea, eb, e]), fun g hg => h.row.lt g hg, fun x hx g hg => (h.tv x hx).own.lt g hg, fun x hx g hg => (h.to x hx).own.lt g hg⟩
end Go.Proofs.YtkmngbkghgelfaaGreat
