/- The Book of the statements, with bytes, small numbers, numbers, lists of each, and lists of lists of vectors. -/
import Derived.Test.YthbimjkcpmffcaaPf
import Derived.Test.YthbimjkcpmffcaaBa
namespace Go.Proofs.Ythbimjkcpmffcaa
open Go.RowKit
set_option linter.unusedVariables false
/-- A book with the entries es, by the kind's place. -/
structure BQ1 (w : World) (bk base n : Nat) (sv : Nat → Value) (es : Nat → List Bk.Ent) : Prop where
  at_ : Bk.BookAt w bk (n : Nat) sv
  k1 : Bk.KIn w base 5 123 1 (es 1) Bk.mkByte 0 (sv 1)
  k3 : Bk.KIn w base 79 125 1 (es 3) Bk.mkInt8 0 (sv 3)
  k5 : Bk.KIn w base 2 136 1 (es 5) Bk.mkInt64 0 (sv 5)
  k6 : Bk.KIn w base 30 139 1 (es 6) Bk.mkVector 0 (sv 6)
  k7 : Bk.KIn w base 57 142 1 (es 7) Bk.mkRow 0 (sv 7)
  k8 : Bk.KIn w base 70 121 1 (es 8) Bk.mkPart 0 (sv 8)
  z : ∀ j, j ≠ 1 → j ≠ 3 → j ≠ 5 → j ≠ 6 → j ≠ 7 → j ≠ 8 → sv j = .slice none 0 0
def BQ (w : World) (bk base n : Nat) (es : Nat → List Bk.Ent) : Prop := ∃ sv, BQ1 w bk base n sv es
/-- One entry more. -/
def upd (es : Nat → List Bk.Ent) (c : Nat) (x : Bk.Ent) : Nat → List Bk.Ent := fun j => if j = c then es c ++ [x] else es j
theorem upd_same (es : Nat → List Bk.Ent) (c : Nat) (x : Bk.Ent) : upd es c x c = es c ++ [x] := if_pos rfl
theorem upd_other (es : Nat → List Bk.Ent) (c : Nat) (x : Bk.Ent) {j : Nat} (h : j ≠ c) : upd es c x j = es j := if_neg h
/-- Rows of other types than the book's own stay. -/
structure KQ (base : Nat) (w w' : World) : Prop where
  below : Below base w w'
  row : ∀ {b2 : Nat} {T : TypeId} {size n : Nat} {v : Value} {xs : List Value}, T ≠ 123 → T ≠ 125 → T ≠ 136 → T ≠ 139 → T ≠ 142 → T ≠ 121 → T ≠ 50 → w.ownsRow b2 T size v n xs → w'.ownsRow b2 T size v n xs
theorem KQ.refl (base : Nat) (w : World) : KQ base w w := ⟨Below.refl _ _, fun _ _ _ _ _ _ _ h => h⟩
theorem KQ.trans {base : Nat} {a b c : World} (h : KQ base a b) (g : KQ base b c) : KQ base a c := ⟨h.below.trans g.below, fun h1 h2 h3 h4 h5 h6 h7 ho => g.row h1 h2 h3 h4 h5 h6 h7 (h.row h1 h2 h3 h4 h5 h6 h7 ho)⟩
theorem KQ.r8 {base : Nat} {a b : World} (h : KQ base a b) {b2 size n : Nat} {v : Value} {xs : List Value} (ho : a.ownsRow b2 79 size v n xs) : b.ownsRow b2 79 size v n xs := h.row (by decide) (by decide) (by decide) (by decide) (by decide) (by decide) (by decide) ho
theorem KQ.rv {base : Nat} {a b : World} (h : KQ base a b) {b2 size n : Nat} {v : Value} {xs : List Value} (ho : a.ownsRow b2 30 size v n xs) : b.ownsRow b2 30 size v n xs := h.row (by decide) (by decide) (by decide) (by decide) (by decide) (by decide) (by decide) ho
theorem KQ.rp {base : Nat} {a b : World} (h : KQ base a b) {b2 size n : Nat} {v : Value} {xs : List Value} (ho : a.ownsRow b2 70 size v n xs) : b.ownsRow b2 70 size v n xs := h.row (by decide) (by decide) (by decide) (by decide) (by decide) (by decide) (by decide) ho
theorem KQ.r64 {base : Nat} {a b : World} (h : KQ base a b) {b2 size n : Nat} {v : Value} {xs : List Value} (ho : a.ownsRow b2 2 size v n xs) : b.ownsRow b2 2 size v n xs := h.row (by decide) (by decide) (by decide) (by decide) (by decide) (by decide) (by decide) ho
theorem KQ.rr {base : Nat} {a b : World} (h : KQ base a b) {b2 size n : Nat} {v : Value} {xs : List Value} (ho : a.ownsRow b2 57 size v n xs) : b.ownsRow b2 57 size v n xs := h.row (by decide) (by decide) (by decide) (by decide) (by decide) (by decide) (by decide) ho
theorem KQ.ru8 {base : Nat} {a b : World} (h : KQ base a b) {b2 size n : Nat} {v : Value} {xs : List Value} (ho : a.ownsRow b2 5 size v n xs) : b.ownsRow b2 5 size v n xs := h.row (by decide) (by decide) (by decide) (by decide) (by decide) (by decide) (by decide) ho
theorem bqByte_any (bk base n : Nat) (A : Option Addr) (len cap : Nat) (es : Nat → List Bk.Ent) (xs : List Value) (w : World) (hn : n < 1000000) (hb : base ≤ w.heap.size) (hbb : base ≤ bk) (hB : BQ w bk base n es)
    (hx : w.ownsRow base 5 1 (.slice A len cap) len xs) (hap : ∀ e' ∈ es 1, e'.blk = none ∨ e'.blk ≠ (Value.slice A len cap).ownBlock) (hlen : len ≤ 10000000) (hes : (es 1).length < 1000000) :
    Calls Try.prog 45 #[.pointer (some ⟨bk, 0, none⟩), .slice A len cap] w fun e w' => e = .returned (.tuple #[]) ∧ BQ w' bk base (n + 1) (upd es 1 ⟨A, len, cap, n + 1⟩) ∧ KQ base w w' := by
  obtain ⟨sv, hB⟩ := hB
  refine (Bk.keepByte_any bk base n A len cap sv (es 1) xs w hn hb hbb hB.at_ hB.k1 hx hap hlen hes).mono ?_
  rintro e w' ⟨rfl, sv', h1, h2, h3, h4, h5, h6⟩
  refine ⟨rfl, ⟨sv', h2, ?_, ?_, ?_, ?_, ?_, ?_, fun j a b c d e f => (h1 j a).trans (hB.z j a b c d e f)⟩, ⟨h4.below, fun t1 t2 t3 t4 t5 t6 t7 ho => Bk.own_frm2 ho h4 t1 t7⟩⟩
  · rw [upd_same]; exact h3
  · rw [h1 3 (by decide), upd_other _ _ _ (by decide)]; exact hB.k3.map (fun h => Bk.own_frm2 h h4 (by decide) (by decide)) (fun h => Bk.own_frm2 h h4 (by decide) (by decide))
  · rw [h1 5 (by decide), upd_other _ _ _ (by decide)]; exact hB.k5.map (fun h => Bk.own_frm2 h h4 (by decide) (by decide)) (fun h => Bk.own_frm2 h h4 (by decide) (by decide))
  · rw [h1 6 (by decide), upd_other _ _ _ (by decide)]; exact hB.k6.map (fun h => Bk.own_frm2 h h4 (by decide) (by decide)) (fun h => Bk.own_frm2 h h4 (by decide) (by decide))
  · rw [h1 7 (by decide), upd_other _ _ _ (by decide)]; exact hB.k7.map (fun h => Bk.own_frm2 h h4 (by decide) (by decide)) (fun h => Bk.own_frm2 h h4 (by decide) (by decide))
  · rw [h1 8 (by decide), upd_other _ _ _ (by decide)]; exact hB.k8.map (fun h => Bk.own_frm2 h h4 (by decide) (by decide)) (fun h => Bk.own_frm2 h h4 (by decide) (by decide))
theorem bqInt8_any (bk base n : Nat) (A : Option Addr) (len cap : Nat) (es : Nat → List Bk.Ent) (xs : List Value) (w : World) (hn : n < 1000000) (hb : base ≤ w.heap.size) (hbb : base ≤ bk) (hB : BQ w bk base n es)
    (hx : w.ownsRow base 79 1 (.slice A len cap) len xs) (hap : ∀ e' ∈ es 3, e'.blk = none ∨ e'.blk ≠ (Value.slice A len cap).ownBlock) (hlen : len ≤ 10000000) (hes : (es 3).length < 1000000) :
    Calls Try.prog 46 #[.pointer (some ⟨bk, 0, none⟩), .slice A len cap] w fun e w' => e = .returned (.tuple #[]) ∧ BQ w' bk base (n + 1) (upd es 3 ⟨A, len, cap, n + 1⟩) ∧ KQ base w w' := by
  obtain ⟨sv, hB⟩ := hB
  refine (Bk.keepInt8_any bk base n A len cap sv (es 3) xs w hn hb hbb hB.at_ hB.k3 hx hap hlen hes).mono ?_
  rintro e w' ⟨rfl, sv', h1, h2, h3, h4, h5, h6⟩
  refine ⟨rfl, ⟨sv', h2, ?_, ?_, ?_, ?_, ?_, ?_, fun j a b c d e f => (h1 j b).trans (hB.z j a b c d e f)⟩, ⟨h4.below, fun t1 t2 t3 t4 t5 t6 t7 ho => Bk.own_frm2 ho h4 t2 t7⟩⟩
  · rw [h1 1 (by decide), upd_other _ _ _ (by decide)]; exact hB.k1.map (fun h => Bk.own_frm2 h h4 (by decide) (by decide)) (fun h => Bk.own_frm2 h h4 (by decide) (by decide))
  · rw [upd_same]; exact h3
  · rw [h1 5 (by decide), upd_other _ _ _ (by decide)]; exact hB.k5.map (fun h => Bk.own_frm2 h h4 (by decide) (by decide)) (fun h => Bk.own_frm2 h h4 (by decide) (by decide))
  · rw [h1 6 (by decide), upd_other _ _ _ (by decide)]; exact hB.k6.map (fun h => Bk.own_frm2 h h4 (by decide) (by decide)) (fun h => Bk.own_frm2 h h4 (by decide) (by decide))
  · rw [h1 7 (by decide), upd_other _ _ _ (by decide)]; exact hB.k7.map (fun h => Bk.own_frm2 h h4 (by decide) (by decide)) (fun h => Bk.own_frm2 h h4 (by decide) (by decide))
  · rw [h1 8 (by decide), upd_other _ _ _ (by decide)]; exact hB.k8.map (fun h => Bk.own_frm2 h h4 (by decide) (by decide)) (fun h => Bk.own_frm2 h h4 (by decide) (by decide))
theorem bqVector_any (bk base n : Nat) (A : Option Addr) (len cap : Nat) (es : Nat → List Bk.Ent) (xs : List Value) (w : World) (hn : n < 1000000) (hb : base ≤ w.heap.size) (hbb : base ≤ bk) (hB : BQ w bk base n es)
    (hx : w.ownsRow base 30 1 (.slice A len cap) len xs) (hap : ∀ e' ∈ es 6, e'.blk = none ∨ e'.blk ≠ (Value.slice A len cap).ownBlock) (hlen : len ≤ 10000000) (hes : (es 6).length < 1000000) :
    Calls Try.prog 105 #[.pointer (some ⟨bk, 0, none⟩), .slice A len cap] w fun e w' => e = .returned (.tuple #[]) ∧ BQ w' bk base (n + 1) (upd es 6 ⟨A, len, cap, n + 1⟩) ∧ KQ base w w' := by
  obtain ⟨sv, hB⟩ := hB
  refine (Bk.keepVector_any bk base n A len cap sv (es 6) xs w hn hb hbb hB.at_ hB.k6 hx hap hlen hes).mono ?_
  rintro e w' ⟨rfl, sv', h1, h2, h3, h4, h5, h6⟩
  refine ⟨rfl, ⟨sv', h2, ?_, ?_, ?_, ?_, ?_, ?_, fun j a b c d e f => (h1 j d).trans (hB.z j a b c d e f)⟩, ⟨h4.below, fun t1 t2 t3 t4 t5 t6 t7 ho => Bk.own_frm2 ho h4 t4 t7⟩⟩
  · rw [h1 1 (by decide), upd_other _ _ _ (by decide)]; exact hB.k1.map (fun h => Bk.own_frm2 h h4 (by decide) (by decide)) (fun h => Bk.own_frm2 h h4 (by decide) (by decide))
  · rw [h1 3 (by decide), upd_other _ _ _ (by decide)]; exact hB.k3.map (fun h => Bk.own_frm2 h h4 (by decide) (by decide)) (fun h => Bk.own_frm2 h h4 (by decide) (by decide))
  · rw [h1 5 (by decide), upd_other _ _ _ (by decide)]; exact hB.k5.map (fun h => Bk.own_frm2 h h4 (by decide) (by decide)) (fun h => Bk.own_frm2 h h4 (by decide) (by decide))
  · rw [upd_same]; exact h3
  · rw [h1 7 (by decide), upd_other _ _ _ (by decide)]; exact hB.k7.map (fun h => Bk.own_frm2 h h4 (by decide) (by decide)) (fun h => Bk.own_frm2 h h4 (by decide) (by decide))
  · rw [h1 8 (by decide), upd_other _ _ _ (by decide)]; exact hB.k8.map (fun h => Bk.own_frm2 h h4 (by decide) (by decide)) (fun h => Bk.own_frm2 h h4 (by decide) (by decide))
theorem bqPart_any (bk base n : Nat) (A : Option Addr) (len cap : Nat) (es : Nat → List Bk.Ent) (xs : List Value) (w : World) (hn : n < 1000000) (hb : base ≤ w.heap.size) (hbb : base ≤ bk) (hB : BQ w bk base n es)
    (hx : w.ownsRow base 70 1 (.slice A len cap) len xs) (hap : ∀ e' ∈ es 8, e'.blk = none ∨ e'.blk ≠ (Value.slice A len cap).ownBlock) (hlen : len ≤ 10000000) (hes : (es 8).length < 1000000) :
    Calls Try.prog 44 #[.pointer (some ⟨bk, 0, none⟩), .slice A len cap] w fun e w' => e = .returned (.tuple #[]) ∧ BQ w' bk base (n + 1) (upd es 8 ⟨A, len, cap, n + 1⟩) ∧ KQ base w w' := by
  obtain ⟨sv, hB⟩ := hB
  refine (Bk.keepPart_any bk base n A len cap sv (es 8) xs w hn hb hbb hB.at_ hB.k8 hx hap hlen hes).mono ?_
  rintro e w' ⟨rfl, sv', h1, h2, h3, h4, h5, h6⟩
  refine ⟨rfl, ⟨sv', h2, ?_, ?_, ?_, ?_, ?_, ?_, fun j a b c d e f => (h1 j f).trans (hB.z j a b c d e f)⟩, ⟨h4.below, fun t1 t2 t3 t4 t5 t6 t7 ho => Bk.own_frm2 ho h4 t6 t7⟩⟩
  · rw [h1 1 (by decide), upd_other _ _ _ (by decide)]; exact hB.k1.map (fun h => Bk.own_frm2 h h4 (by decide) (by decide)) (fun h => Bk.own_frm2 h h4 (by decide) (by decide))
  · rw [h1 3 (by decide), upd_other _ _ _ (by decide)]; exact hB.k3.map (fun h => Bk.own_frm2 h h4 (by decide) (by decide)) (fun h => Bk.own_frm2 h h4 (by decide) (by decide))
  · rw [h1 5 (by decide), upd_other _ _ _ (by decide)]; exact hB.k5.map (fun h => Bk.own_frm2 h h4 (by decide) (by decide)) (fun h => Bk.own_frm2 h h4 (by decide) (by decide))
  · rw [h1 6 (by decide), upd_other _ _ _ (by decide)]; exact hB.k6.map (fun h => Bk.own_frm2 h h4 (by decide) (by decide)) (fun h => Bk.own_frm2 h h4 (by decide) (by decide))
  · rw [h1 7 (by decide), upd_other _ _ _ (by decide)]; exact hB.k7.map (fun h => Bk.own_frm2 h h4 (by decide) (by decide)) (fun h => Bk.own_frm2 h h4 (by decide) (by decide))
  · rw [upd_same]; exact h3
end Go.Proofs.Ythbimjkcpmffcaa
