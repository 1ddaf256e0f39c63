/- Several texts in one. -/
import Derived.Test.YthbimjkcpmffcaaGreatPf
import Derived.Test.YthbimjkcpmffcaaGreatBa
/- The Book of the statements, with bytes, small numbers, numbers, lists of each, and lists of lists of vectors. -/
namespace Go.Proofs.YthbimjkcpmffcaaGreat
open Go.RowKit
set_option linter.unusedVariables false
/-- A book with the entries es, by the kind's place. -/
structure BQ1 (w : World) (bk base n : Nat) (sv : Nat → Value) (es : Nat → List Bk.Ent) : Prop where
  at_ : Bk.BookAt w bk (n : Nat) sv
  k1 : Bk.KIn w base 5 112 1 (es 1) Bk.mkByte 0 (sv 1)
  k3 : Bk.KIn w base 74 110 1 (es 3) Bk.mkInt8 0 (sv 3)
  k5 : Bk.KIn w base 2 125 1 (es 5) Bk.mkInt64 0 (sv 5)
  k6 : Bk.KIn w base 25 128 1 (es 6) Bk.mkVector 0 (sv 6)
  k7 : Bk.KIn w base 80 114 1 (es 7) Bk.mkRow 0 (sv 7)
  k8 : Bk.KIn w base 62 108 1 (es 8) Bk.mkPart 0 (sv 8)
  z : ∀ j, j ≠ 1 → j ≠ 3 → j ≠ 5 → j ≠ 6 → j ≠ 7 → j ≠ 8 → sv j = .slice none 0 0
def BQ (w : World) (bk base n : Nat) (es : Nat → List Bk.Ent) : Prop := ∃ sv, BQ1 w bk base n sv es
/-- One entry more. -/
def upd (es : Nat → List Bk.Ent) (c : Nat) (x : Bk.Ent) : Nat → List Bk.Ent := fun j => if j = c then es c ++ [x] else es j
theorem upd_same (es : Nat → List Bk.Ent) (c : Nat) (x : Bk.Ent) : upd es c x c = es c ++ [x] := if_pos rfl
theorem upd_other (es : Nat → List Bk.Ent) (c : Nat) (x : Bk.Ent) {j : Nat} (h : j ≠ c) : upd es c x j = es j := if_neg h
/-- Rows of other types than the book's own stay. -/
structure KQ (base : Nat) (w w' : World) : Prop where
  below : Below base w w'
  row : ∀ {b2 : Nat} {T : TypeId} {size n : Nat} {v : Value} {xs : List Value}, T ≠ 112 → T ≠ 110 → T ≠ 125 → T ≠ 128 → T ≠ 114 → T ≠ 108 → T ≠ 55 → w.ownsRow b2 T size v n xs → w'.ownsRow b2 T size v n xs
theorem KQ.refl (base : Nat) (w : World) : KQ base w w := ⟨Below.refl _ _, fun _ _ _ _ _ _ _ h => h⟩
theorem KQ.trans {base : Nat} {a b c : World} (h : KQ base a b) (g : KQ base b c) : KQ base a c := ⟨h.below.trans g.below, fun h1 h2 h3 h4 h5 h6 h7 ho => g.row h1 h2 h3 h4 h5 h6 h7 (h.row h1 h2 h3 h4 h5 h6 h7 ho)⟩
theorem KQ.r8 {base : Nat} {a b : World} (h : KQ base a b) {b2 size n : Nat} {v : Value} {xs : List Value} (ho : a.ownsRow b2 74 size v n xs) : b.ownsRow b2 74 size v n xs := h.row (by decide) (by decide) (by decide) (by decide) (by decide) (by decide) (by decide) ho
theorem KQ.rv {base : Nat} {a b : World} (h : KQ base a b) {b2 size n : Nat} {v : Value} {xs : List Value} (ho : a.ownsRow b2 25 size v n xs) : b.ownsRow b2 25 size v n xs := h.row (by decide) (by decide) (by decide) (by decide) (by decide) (by decide) (by decide) ho
theorem KQ.rp {base : Nat} {a b : World} (h : KQ base a b) {b2 size n : Nat} {v : Value} {xs : List Value} (ho : a.ownsRow b2 62 size v n xs) : b.ownsRow b2 62 size v n xs := h.row (by decide) (by decide) (by decide) (by decide) (by decide) (by decide) (by decide) ho
theorem KQ.r64 {base : Nat} {a b : World} (h : KQ base a b) {b2 size n : Nat} {v : Value} {xs : List Value} (ho : a.ownsRow b2 2 size v n xs) : b.ownsRow b2 2 size v n xs := h.row (by decide) (by decide) (by decide) (by decide) (by decide) (by decide) (by decide) ho
theorem KQ.rr {base : Nat} {a b : World} (h : KQ base a b) {b2 size n : Nat} {v : Value} {xs : List Value} (ho : a.ownsRow b2 80 size v n xs) : b.ownsRow b2 80 size v n xs := h.row (by decide) (by decide) (by decide) (by decide) (by decide) (by decide) (by decide) ho
theorem KQ.ru8 {base : Nat} {a b : World} (h : KQ base a b) {b2 size n : Nat} {v : Value} {xs : List Value} (ho : a.ownsRow b2 5 size v n xs) : b.ownsRow b2 5 size v n xs := h.row (by decide) (by decide) (by decide) (by decide) (by decide) (by decide) (by decide) ho
theorem bqByte_any (bk base n : Nat) (A : Option Addr) (len cap : Nat) (es : Nat → List Bk.Ent) (xs : List Value) (w : World) (hn : n < 1000000) (hb : base ≤ w.heap.size) (hbb : base ≤ bk) (hB : BQ w bk base n es)
    (hx : w.ownsRow base 5 1 (.slice A len cap) len xs) (hap : ∀ e' ∈ es 1, e'.blk = none ∨ e'.blk ≠ (Value.slice A len cap).ownBlock) (hlen : len ≤ 10000000) (hes : (es 1).length < 1000000) :
    Calls Tryz.prog 44 #[.pointer (some ⟨bk, 0, none⟩), .slice A len cap] w fun e w' => e = .returned (.tuple #[]) ∧ BQ w' bk base (n + 1) (upd es 1 ⟨A, len, cap, n + 1⟩) ∧ KQ base w w' := by
  obtain ⟨sv, hB⟩ := hB
  refine (Bk.keepByte_any bk base n A len cap sv (es 1) xs w hn hb hbb hB.at_ hB.k1 hx hap hlen hes).mono ?_
  rintro e w' ⟨rfl, sv', h1, h2, h3, h4, h5, h6⟩
  refine ⟨rfl, ⟨sv', h2, ?_, ?_, ?_, ?_, ?_, ?_, fun j a b c d e f => (h1 j a).trans (hB.z j a b c d e f)⟩, ⟨h4.below, fun t1 t2 t3 t4 t5 t6 t7 ho => Bk.own_frm2 ho h4 t1 t7⟩⟩
  · rw [upd_same]; exact h3
  · rw [h1 3 (by decide), upd_other _ _ _ (by decide)]; exact hB.k3.map (fun h => Bk.own_frm2 h h4 (by decide) (by decide)) (fun h => Bk.own_frm2 h h4 (by decide) (by decide))
  · rw [h1 5 (by decide), upd_other _ _ _ (by decide)]; exact hB.k5.map (fun h => Bk.own_frm2 h h4 (by decide) (by decide)) (fun h => Bk.own_frm2 h h4 (by decide) (by decide))
  · rw [h1 6 (by decide), upd_other _ _ _ (by decide)]; exact hB.k6.map (fun h => Bk.own_frm2 h h4 (by decide) (by decide)) (fun h => Bk.own_frm2 h h4 (by decide) (by decide))
  · rw [h1 7 (by decide), upd_other _ _ _ (by decide)]; exact hB.k7.map (fun h => Bk.own_frm2 h h4 (by decide) (by decide)) (fun h => Bk.own_frm2 h h4 (by decide) (by decide))
  · rw [h1 8 (by decide), upd_other _ _ _ (by decide)]; exact hB.k8.map (fun h => Bk.own_frm2 h h4 (by decide) (by decide)) (fun h => Bk.own_frm2 h h4 (by decide) (by decide))
theorem bqInt8_any (bk base n : Nat) (A : Option Addr) (len cap : Nat) (es : Nat → List Bk.Ent) (xs : List Value) (w : World) (hn : n < 1000000) (hb : base ≤ w.heap.size) (hbb : base ≤ bk) (hB : BQ w bk base n es)
    (hx : w.ownsRow base 74 1 (.slice A len cap) len xs) (hap : ∀ e' ∈ es 3, e'.blk = none ∨ e'.blk ≠ (Value.slice A len cap).ownBlock) (hlen : len ≤ 10000000) (hes : (es 3).length < 1000000) :
    Calls Tryz.prog 43 #[.pointer (some ⟨bk, 0, none⟩), .slice A len cap] w fun e w' => e = .returned (.tuple #[]) ∧ BQ w' bk base (n + 1) (upd es 3 ⟨A, len, cap, n + 1⟩) ∧ KQ base w w' := by
  obtain ⟨sv, hB⟩ := hB
  refine (Bk.keepInt8_any bk base n A len cap sv (es 3) xs w hn hb hbb hB.at_ hB.k3 hx hap hlen hes).mono ?_
  rintro e w' ⟨rfl, sv', h1, h2, h3, h4, h5, h6⟩
  refine ⟨rfl, ⟨sv', h2, ?_, ?_, ?_, ?_, ?_, ?_, fun j a b c d e f => (h1 j b).trans (hB.z j a b c d e f)⟩, ⟨h4.below, fun t1 t2 t3 t4 t5 t6 t7 ho => Bk.own_frm2 ho h4 t2 t7⟩⟩
  · rw [h1 1 (by decide), upd_other _ _ _ (by decide)]; exact hB.k1.map (fun h => Bk.own_frm2 h h4 (by decide) (by decide)) (fun h => Bk.own_frm2 h h4 (by decide) (by decide))
  · rw [upd_same]; exact h3
  · rw [h1 5 (by decide), upd_other _ _ _ (by decide)]; exact hB.k5.map (fun h => Bk.own_frm2 h h4 (by decide) (by decide)) (fun h => Bk.own_frm2 h h4 (by decide) (by decide))
  · rw [h1 6 (by decide), upd_other _ _ _ (by decide)]; exact hB.k6.map (fun h => Bk.own_frm2 h h4 (by decide) (by decide)) (fun h => Bk.own_frm2 h h4 (by decide) (by decide))
  · rw [h1 7 (by decide), upd_other _ _ _ (by decide)]; exact hB.k7.map (fun h => Bk.own_frm2 h h4 (by decide) (by decide)) (fun h => Bk.own_frm2 h h4 (by decide) (by decide))
  · rw [h1 8 (by decide), upd_other _ _ _ (by decide)]; exact hB.k8.map (fun h => Bk.own_frm2 h h4 (by decide) (by decide)) (fun h => Bk.own_frm2 h h4 (by decide) (by decide))
theorem bqInt64_any (bk base n : Nat) (A : Option Addr) (len cap : Nat) (es : Nat → List Bk.Ent) (xs : List Value) (w : World) (hn : n < 1000000) (hb : base ≤ w.heap.size) (hbb : base ≤ bk) (hB : BQ w bk base n es)
    (hx : w.ownsRow base 2 1 (.slice A len cap) len xs) (hap : ∀ e' ∈ es 5, e'.blk = none ∨ e'.blk ≠ (Value.slice A len cap).ownBlock) (hlen : len ≤ 10000000) (hes : (es 5).length < 1000000) :
    Calls Tryz.prog 97 #[.pointer (some ⟨bk, 0, none⟩), .slice A len cap] w fun e w' => e = .returned (.tuple #[]) ∧ BQ w' bk base (n + 1) (upd es 5 ⟨A, len, cap, n + 1⟩) ∧ KQ base w w' := by
  obtain ⟨sv, hB⟩ := hB
  refine (Bk.keepInt64_any bk base n A len cap sv (es 5) xs w hn hb hbb hB.at_ hB.k5 hx hap hlen hes).mono ?_
  rintro e w' ⟨rfl, sv', h1, h2, h3, h4, h5, h6⟩
  refine ⟨rfl, ⟨sv', h2, ?_, ?_, ?_, ?_, ?_, ?_, fun j a b c d e f => (h1 j c).trans (hB.z j a b c d e f)⟩, ⟨h4.below, fun t1 t2 t3 t4 t5 t6 t7 ho => Bk.own_frm2 ho h4 t3 t7⟩⟩
  · rw [h1 1 (by decide), upd_other _ _ _ (by decide)]; exact hB.k1.map (fun h => Bk.own_frm2 h h4 (by decide) (by decide)) (fun h => Bk.own_frm2 h h4 (by decide) (by decide))
  · rw [h1 3 (by decide), upd_other _ _ _ (by decide)]; exact hB.k3.map (fun h => Bk.own_frm2 h h4 (by decide) (by decide)) (fun h => Bk.own_frm2 h h4 (by decide) (by decide))
  · rw [upd_same]; exact h3
  · rw [h1 6 (by decide), upd_other _ _ _ (by decide)]; exact hB.k6.map (fun h => Bk.own_frm2 h h4 (by decide) (by decide)) (fun h => Bk.own_frm2 h h4 (by decide) (by decide))
  · rw [h1 7 (by decide), upd_other _ _ _ (by decide)]; exact hB.k7.map (fun h => Bk.own_frm2 h h4 (by decide) (by decide)) (fun h => Bk.own_frm2 h h4 (by decide) (by decide))
  · rw [h1 8 (by decide), upd_other _ _ _ (by decide)]; exact hB.k8.map (fun h => Bk.own_frm2 h h4 (by decide) (by decide)) (fun h => Bk.own_frm2 h h4 (by decide) (by decide))
theorem bqVector_any (bk base n : Nat) (A : Option Addr) (len cap : Nat) (es : Nat → List Bk.Ent) (xs : List Value) (w : World) (hn : n < 1000000) (hb : base ≤ w.heap.size) (hbb : base ≤ bk) (hB : BQ w bk base n es)
    (hx : w.ownsRow base 25 1 (.slice A len cap) len xs) (hap : ∀ e' ∈ es 6, e'.blk = none ∨ e'.blk ≠ (Value.slice A len cap).ownBlock) (hlen : len ≤ 10000000) (hes : (es 6).length < 1000000) :
    Calls Tryz.prog 89 #[.pointer (some ⟨bk, 0, none⟩), .slice A len cap] w fun e w' => e = .returned (.tuple #[]) ∧ BQ w' bk base (n + 1) (upd es 6 ⟨A, len, cap, n + 1⟩) ∧ KQ base w w' := by
  obtain ⟨sv, hB⟩ := hB
  refine (Bk.keepVector_any bk base n A len cap sv (es 6) xs w hn hb hbb hB.at_ hB.k6 hx hap hlen hes).mono ?_
  rintro e w' ⟨rfl, sv', h1, h2, h3, h4, h5, h6⟩
  refine ⟨rfl, ⟨sv', h2, ?_, ?_, ?_, ?_, ?_, ?_, fun j a b c d e f => (h1 j d).trans (hB.z j a b c d e f)⟩, ⟨h4.below, fun t1 t2 t3 t4 t5 t6 t7 ho => Bk.own_frm2 ho h4 t4 t7⟩⟩
  · rw [h1 1 (by decide), upd_other _ _ _ (by decide)]; exact hB.k1.map (fun h => Bk.own_frm2 h h4 (by decide) (by decide)) (fun h => Bk.own_frm2 h h4 (by decide) (by decide))
  · rw [h1 3 (by decide), upd_other _ _ _ (by decide)]; exact hB.k3.map (fun h => Bk.own_frm2 h h4 (by decide) (by decide)) (fun h => Bk.own_frm2 h h4 (by decide) (by decide))
  · rw [h1 5 (by decide), upd_other _ _ _ (by decide)]; exact hB.k5.map (fun h => Bk.own_frm2 h h4 (by decide) (by decide)) (fun h => Bk.own_frm2 h h4 (by decide) (by decide))
  · rw [upd_same]; exact h3
  · rw [h1 7 (by decide), upd_other _ _ _ (by decide)]; exact hB.k7.map (fun h => Bk.own_frm2 h h4 (by decide) (by decide)) (fun h => Bk.own_frm2 h h4 (by decide) (by decide))
  · rw [h1 8 (by decide), upd_other _ _ _ (by decide)]; exact hB.k8.map (fun h => Bk.own_frm2 h h4 (by decide) (by decide)) (fun h => Bk.own_frm2 h h4 (by decide) (by decide))
theorem bqRow_any (bk base n : Nat) (A : Option Addr) (len cap : Nat) (es : Nat → List Bk.Ent) (xs : List Value) (w : World) (hn : n < 1000000) (hb : base ≤ w.heap.size) (hbb : base ≤ bk) (hB : BQ w bk base n es)
    (hx : w.ownsRow base 80 1 (.slice A len cap) len xs) (hap : ∀ e' ∈ es 7, e'.blk = none ∨ e'.blk ≠ (Value.slice A len cap).ownBlock) (hlen : len ≤ 10000000) (hes : (es 7).length < 1000000) :
    Calls Tryz.prog 46 #[.pointer (some ⟨bk, 0, none⟩), .slice A len cap] w fun e w' => e = .returned (.tuple #[]) ∧ BQ w' bk base (n + 1) (upd es 7 ⟨A, len, cap, n + 1⟩) ∧ KQ base w w' := by
  obtain ⟨sv, hB⟩ := hB
  refine (Bk.keepRow_any bk base n A len cap sv (es 7) xs w hn hb hbb hB.at_ hB.k7 hx hap hlen hes).mono ?_
  rintro e w' ⟨rfl, sv', h1, h2, h3, h4, h5, h6⟩
  refine ⟨rfl, ⟨sv', h2, ?_, ?_, ?_, ?_, ?_, ?_, fun j a b c d e f => (h1 j e).trans (hB.z j a b c d e f)⟩, ⟨h4.below, fun t1 t2 t3 t4 t5 t6 t7 ho => Bk.own_frm2 ho h4 t5 t7⟩⟩
  · rw [h1 1 (by decide), upd_other _ _ _ (by decide)]; exact hB.k1.map (fun h => Bk.own_frm2 h h4 (by decide) (by decide)) (fun h => Bk.own_frm2 h h4 (by decide) (by decide))
  · rw [h1 3 (by decide), upd_other _ _ _ (by decide)]; exact hB.k3.map (fun h => Bk.own_frm2 h h4 (by decide) (by decide)) (fun h => Bk.own_frm2 h h4 (by decide) (by decide))
  · rw [h1 5 (by decide), upd_other _ _ _ (by decide)]; exact hB.k5.map (fun h => Bk.own_frm2 h h4 (by decide) (by decide)) (fun h => Bk.own_frm2 h h4 (by decide) (by decide))
  · rw [h1 6 (by decide), upd_other _ _ _ (by decide)]; exact hB.k6.map (fun h => Bk.own_frm2 h h4 (by decide) (by decide)) (fun h => Bk.own_frm2 h h4 (by decide) (by decide))
  · rw [upd_same]; exact h3
  · rw [h1 8 (by decide), upd_other _ _ _ (by decide)]; exact hB.k8.map (fun h => Bk.own_frm2 h h4 (by decide) (by decide)) (fun h => Bk.own_frm2 h h4 (by decide) (by decide))
theorem bqPart_any (bk base n : Nat) (A : Option Addr) (len cap : Nat) (es : Nat → List Bk.Ent) (xs : List Value) (w : World) (hn : n < 1000000) (hb : base ≤ w.heap.size) (hbb : base ≤ bk) (hB : BQ w bk base n es)
    (hx : w.ownsRow base 62 1 (.slice A len cap) len xs) (hap : ∀ e' ∈ es 8, e'.blk = none ∨ e'.blk ≠ (Value.slice A len cap).ownBlock) (hlen : len ≤ 10000000) (hes : (es 8).length < 1000000) :
    Calls Tryz.prog 42 #[.pointer (some ⟨bk, 0, none⟩), .slice A len cap] w fun e w' => e = .returned (.tuple #[]) ∧ BQ w' bk base (n + 1) (upd es 8 ⟨A, len, cap, n + 1⟩) ∧ KQ base w w' := by
  obtain ⟨sv, hB⟩ := hB
  refine (Bk.keepPart_any bk base n A len cap sv (es 8) xs w hn hb hbb hB.at_ hB.k8 hx hap hlen hes).mono ?_
  rintro e w' ⟨rfl, sv', h1, h2, h3, h4, h5, h6⟩
  refine ⟨rfl, ⟨sv', h2, ?_, ?_, ?_, ?_, ?_, ?_, fun j a b c d e f => (h1 j f).trans (hB.z j a b c d e f)⟩, ⟨h4.below, fun t1 t2 t3 t4 t5 t6 t7 ho => Bk.own_frm2 ho h4 t6 t7⟩⟩
  · rw [h1 1 (by decide), upd_other _ _ _ (by decide)]; exact hB.k1.map (fun h => Bk.own_frm2 h h4 (by decide) (by decide)) (fun h => Bk.own_frm2 h h4 (by decide) (by decide))
  · rw [h1 3 (by decide), upd_other _ _ _ (by decide)]; exact hB.k3.map (fun h => Bk.own_frm2 h h4 (by decide) (by decide)) (fun h => Bk.own_frm2 h h4 (by decide) (by decide))
  · rw [h1 5 (by decide), upd_other _ _ _ (by decide)]; exact hB.k5.map (fun h => Bk.own_frm2 h h4 (by decide) (by decide)) (fun h => Bk.own_frm2 h h4 (by decide) (by decide))
  · rw [h1 6 (by decide), upd_other _ _ _ (by decide)]; exact hB.k6.map (fun h => Bk.own_frm2 h h4 (by decide) (by decide)) (fun h => Bk.own_frm2 h h4 (by decide) (by decide))
  · rw [h1 7 (by decide), upd_other _ _ _ (by decide)]; exact hB.k7.map (fun h => Bk.own_frm2 h h4 (by decide) (by decide)) (fun h => Bk.own_frm2 h h4 (by decide) (by decide))
  · rw [upd_same]; exact h3
end Go.Proofs.YthbimjkcpmffcaaGreat
/- The Book of the statements: a list of vectors, a list of lists of numbers, and what they hold. -/
namespace Go.Proofs.YthbimjkcpmffcaaGreat
open Go.RowKit
set_option linter.unusedVariables false
theorem bqBytes_any (bk base n : Nat) (A : Option Addr) (len cap : Nat) (es : Nat → List Bk.Ent) (xs : List Value) (w : World) (hn : n < 1000000) (hb : base ≤ w.heap.size) (hbb : base ≤ bk) (hB : BQ w bk base n es)
    (hx : w.ownsRow base 5 1 (.slice A len cap) len xs) (hap : ∀ e' ∈ es 1, e'.blk = none ∨ e'.blk ≠ (Value.slice A len cap).ownBlock) (hlen : len ≤ 10000000) (hes : (es 1).length < 1000000) :
    Calls Tryz.prog 21 #[.pointer (some ⟨bk, 0, none⟩), .slice A len cap] w fun e w' => e = .returned (.tuple #[]) ∧ BQ w' bk base (n + 1) (upd es 1 ⟨A, len, cap, n + 1⟩) ∧ KQ base w w' := by
  have H := Lib.hid (bqByte_any bk base n A len cap es xs w hn hb hbb hB hx hap hlen hes)
  clear hB hx hap
  go_enter Tryz.func21, Tryz.ntmps21
  go_wp2_with fail
  refine H.out.mono ?_
  rintro e w' ⟨rfl, h⟩
  have HR := Lib.hid h
  clear h H
  go_wp2
  go_end0
  exact ⟨rfl, HR.out⟩
theorem bqInt8s_any (bk base n : Nat) (A : Option Addr) (len cap : Nat) (es : Nat → List Bk.Ent) (xs : List Value) (w : World) (hn : n < 1000000) (hb : base ≤ w.heap.size) (hbb : base ≤ bk) (hB : BQ w bk base n es)
    (hx : w.ownsRow base 74 1 (.slice A len cap) len xs) (hap : ∀ e' ∈ es 3, e'.blk = none ∨ e'.blk ≠ (Value.slice A len cap).ownBlock) (hlen : len ≤ 10000000) (hes : (es 3).length < 1000000) :
    Calls Tryz.prog 20 #[.pointer (some ⟨bk, 0, none⟩), .slice A len cap] w fun e w' => e = .returned (.tuple #[]) ∧ BQ w' bk base (n + 1) (upd es 3 ⟨A, len, cap, n + 1⟩) ∧ KQ base w w' := by
  have H := Lib.hid (bqInt8_any bk base n A len cap es xs w hn hb hbb hB hx hap hlen hes)
  clear hB hx hap
  go_enter Tryz.func20, Tryz.ntmps20
  go_wp2_with fail
  refine H.out.mono ?_
  rintro e w' ⟨rfl, h⟩
  have HR := Lib.hid h
  clear h H
  go_wp2
  go_end0
  exact ⟨rfl, HR.out⟩
theorem bqInt64s_any (bk base n : Nat) (A : Option Addr) (len cap : Nat) (es : Nat → List Bk.Ent) (xs : List Value) (w : World) (hn : n < 1000000) (hb : base ≤ w.heap.size) (hbb : base ≤ bk) (hB : BQ w bk base n es)
    (hx : w.ownsRow base 2 1 (.slice A len cap) len xs) (hap : ∀ e' ∈ es 5, e'.blk = none ∨ e'.blk ≠ (Value.slice A len cap).ownBlock) (hlen : len ≤ 10000000) (hes : (es 5).length < 1000000) :
    Calls Tryz.prog 45 #[.pointer (some ⟨bk, 0, none⟩), .slice A len cap] w fun e w' => e = .returned (.tuple #[]) ∧ BQ w' bk base (n + 1) (upd es 5 ⟨A, len, cap, n + 1⟩) ∧ KQ base w w' := by
  have H := Lib.hid (bqInt64_any bk base n A len cap es xs w hn hb hbb hB hx hap hlen hes)
  clear hB hx hap
  go_enter Tryz.func45, Tryz.ntmps45
  go_wp2_with fail
  refine H.out.mono ?_
  rintro e w' ⟨rfl, h⟩
  have HR := Lib.hid h
  clear h H
  go_wp2
  go_end0
  exact ⟨rfl, HR.out⟩
/-- What a list of lists must be for a book to hold it, and the lists themselves: T the lists' type, t the numbers'. -/
structure ForQ (w : World) (base : Nat) (T t : TypeId) (A : Option Addr) (c : Nat) (L : List Vc) (es8 esV : List Bk.Ent) : Prop where
  row : w.ownsRow base T 1 (.slice A L.length c) L.length (cellsV L)
  vec : ∀ x ∈ L, ∃ ys, w.ownsRow base t 1 (.slice x.1 x.2.2.length x.2.1) x.2.2.length ys
  len : ∀ x ∈ L, x.2.2.length ≤ 10000000
  apart : L.Pairwise fun x y => vb x = none ∨ vb x ≠ vb y
  ap8 : ∀ e' ∈ es8, ∀ x ∈ L, e'.blk = none ∨ e'.blk ≠ vb x
  apV : ∀ e' ∈ esV, e'.blk = none ∨ e'.blk ≠ (Value.slice A L.length c).ownBlock
theorem pair_atq {α : Type} {L : List α} {p : α → α → Prop} (h : L.Pairwise p) {i : Nat} (hi : i < L.length) : ∀ x ∈ L.take i, p x (L[i]) := by
  have h1 := h.sublist (List.take_sublist (i + 1) L)
  rw [List.take_succ_eq_append_getElem hi] at h1
  intro x hx
  exact (List.pairwise_append.1 h1).2.2 x hx _ (List.mem_singleton.2 rfl)
set_option maxRecDepth 100000 in
set_option maxHeartbeats 2000000 in
theorem bqVectors_any (bk base n : Nat) (A : Option Addr) (c : Nat) (L : List Vc) (m : Nat) (hm : m = L.length) (es : Nat → List Bk.Ent) (w : World) (hn : n + L.length < 900000) (hb : base ≤ w.heap.size) (hbb : base ≤ bk) (hB : BQ w bk base n es)
    (hF : ForQ w base 25 74 A c L (es 3) (es 6)) (hl : L.length ≤ 20000) (h8 : (es 3).length + L.length < 900000) (hV : (es 6).length < 900000) :
    Calls Tryz.prog 30 #[.pointer (some ⟨bk, 0, none⟩), .slice A m c] w fun e w' => e = .returned (.tuple #[]) ∧ ∃ es', BQ w' bk base (n + L.length + 1) es' ∧ KQ base w w' ∧ (∀ e' ∈ es' 3, e' ∈ es 3 ∨ ∃ x ∈ L, e'.blk = vb x) ∧ (es' 3).length = (es 3).length + L.length ∧
      es' 6 = es 6 ++ [⟨A, L.length, c, n + L.length + 1⟩] ∧ ∀ j, j ≠ 3 → j ≠ 6 → es' j = es j := by
  subst hm
  have HF := Lib.hid hF
  have HB := Lib.hid hB
  clear hF hB
  go_enter Tryz.func30, Tryz.ntmps30
  go_wp2
  go_loopw [4] (fun i wr => ∃ k : Nat, k ≤ L.length ∧ i = .int .i64 k ∧ ∃ es', BQ wr bk base (n + k) es' ∧ KQ base w wr ∧ (∀ e' ∈ es' 3, e' ∈ es 3 ∨ ∃ x ∈ L.take k, e'.blk = vb x) ∧ (es' 3).length = (es 3).length + k ∧ ∀ j, j ≠ 3 → es' j = es j) (fun i _ => L.length - (intOf i).toNat)
  case atStart => exact ⟨0, by omega, rfl, es, HB.out, KQ.refl _ _, fun e' he => .inl he, by omega, fun _ _ => rfl⟩
  case round =>
    clear HB
    obtain ⟨k, hk, rfl, es1, hB1, hK, hE, hEl, hEo⟩ := hrel
    have HB1 := Lib.hid hB1
    have HK := Lib.hid hK
    have HE := Lib.hid hE
    have HO := Lib.hid hEo
    have HL := Lib.hid hEl
    have hsz := hK.below.size
    clear hB1 hK hE hEo hEl
    by_cases hlt : k < L.length
    · have hrow := HK.out.rv HF.out.row
      obtain ⟨g, rfl, -⟩ := own_some hrow (by omega)
      have HX := Lib.hid (List.getElem_mem hlt)
      have HP := Lib.hid (pair_atq HF.out.apart hlt)
      have HTK := Lib.hid (List.take_succ_eq_append_getElem hlt)
      have q0 : (cellsV L)[k]? = some (.slice (L[k]).1 (L[k]).2.2.length (L[k]).2.1) := by simp [cellsV, hlt]
      have q1 := (hrow.cellAt k (by omega)).trans q0
      obtain ⟨x, ex⟩ : ∃ x, L[k] = x := ⟨_, rfl⟩
      rw [ex] at q1 HX HP HTK
      obtain ⟨ys, hy⟩ := HF.out.vec x HX.out
      have KE := Lib.hid (bqInt8s_any bk base (n + k) x.1 x.2.2.length x.2.1 es1 ys wr (by omega) (by omega) hbb HB1.out (HK.out.r8 hy) (fun e' he => by
        rcases HE.out e' he with h1 | ⟨y, hy, h1⟩
        · exact HF.out.ap8 e' h1 x HX.out
        · rw [h1]; exact HP.out y hy) (HF.out.len x HX.out) (by have := HL.out; omega))
      clear hrow q0 ex hy
      go_wp2_with (go_at_call 20; refine KE.out.mono ?_; rintro e w1 ⟨rfl, hB2, hK2⟩)
      have HB2 := Lib.hid hB2
      have HK2 := Lib.hid hK2
      clear hB2 hK2
      go_roundw
      case rel => exact ⟨k + 1, by omega, by go_num, upd es1 3 ⟨x.1, x.2.2.length, x.2.1, n + k + 1⟩, by rw [← Nat.add_assoc]; exact HB2.out, HK.out.trans HK2.out, fun e' he => by
        rw [upd_same] at he
        rcases List.mem_append.1 he with h1 | h1
        · rcases HE.out e' h1 with h2 | ⟨y, hy, h2⟩
          · exact .inl h2
          · exact .inr ⟨y, by rw [HTK.out]; exact List.mem_append_left _ hy, h2⟩
        · rw [List.mem_singleton] at h1
          subst h1
          exact .inr ⟨x, by rw [HTK.out]; simp, rfl⟩, by have := HL.out; rw [upd_same, List.length_append, List.length_singleton]; omega, fun j hj => (upd_other _ _ _ hj).trans (HO.out j hj)⟩
      case measure => simp [intOf]; omega
    · obtain rfl : k = L.length := by omega
      have KE := Lib.hid (bqVector_any bk base (n + L.length) A L.length c es1 _ wr (by omega) (by omega) hbb HB1.out (HK.out.rv HF.out.row) (by rw [HO.out 6 (by decide)]; exact HF.out.apV) (by omega) (by rw [HO.out 6 (by decide)]; omega))
      go_wp2_with (go_at_call 89; refine KE.out.mono ?_; rintro e w1 ⟨rfl, hB2, hK2⟩)
      go_end0
      exact ⟨rfl, _, hB2, HK.out.trans hK2, fun e' he => by
        rw [upd_other _ _ _ (by decide)] at he
        have := HE.out e' he
        rw [List.take_length] at this
        exact this, by rw [upd_other _ _ _ (by decide)]; exact HL.out, by rw [upd_same, HO.out 6 (by decide)], fun j h3 h6 => (upd_other _ _ _ h6).trans (HO.out j h3)⟩
set_option maxRecDepth 100000 in
set_option maxHeartbeats 2000000 in
theorem bqTables_any (bk base n : Nat) (A : Option Addr) (c : Nat) (L : List Vc) (m : Nat) (hm : m = L.length) (es : Nat → List Bk.Ent) (w : World) (hn : n + L.length < 900000) (hb : base ≤ w.heap.size) (hbb : base ≤ bk) (hB : BQ w bk base n es)
    (hF : ForQ w base 80 2 A c L (es 5) (es 7)) (hl : L.length ≤ 20000) (h8 : (es 5).length + L.length < 900000) (hV : (es 7).length < 900000) :
    Calls Tryz.prog 22 #[.pointer (some ⟨bk, 0, none⟩), .slice A m c] w fun e w' => e = .returned (.tuple #[]) ∧ ∃ es', BQ w' bk base (n + L.length + 1) es' ∧ KQ base w w' ∧ (∀ e' ∈ es' 5, e' ∈ es 5 ∨ ∃ x ∈ L, e'.blk = vb x) ∧ (es' 5).length = (es 5).length + L.length ∧
      es' 7 = es 7 ++ [⟨A, L.length, c, n + L.length + 1⟩] ∧ ∀ j, j ≠ 5 → j ≠ 7 → es' j = es j := by
  subst hm
  have HF := Lib.hid hF
  have HB := Lib.hid hB
  clear hF hB
  go_enter Tryz.func22, Tryz.ntmps22
  go_wp2
  go_loopw [4] (fun i wr => ∃ k : Nat, k ≤ L.length ∧ i = .int .i64 k ∧ ∃ es', BQ wr bk base (n + k) es' ∧ KQ base w wr ∧ (∀ e' ∈ es' 5, e' ∈ es 5 ∨ ∃ x ∈ L.take k, e'.blk = vb x) ∧ (es' 5).length = (es 5).length + k ∧ ∀ j, j ≠ 5 → es' j = es j) (fun i _ => L.length - (intOf i).toNat)
  case atStart => exact ⟨0, by omega, rfl, es, HB.out, KQ.refl _ _, fun e' he => .inl he, by omega, fun _ _ => rfl⟩
  case round =>
    clear HB
    obtain ⟨k, hk, rfl, es1, hB1, hK, hE, hEl, hEo⟩ := hrel
    have HB1 := Lib.hid hB1
    have HK := Lib.hid hK
    have HE := Lib.hid hE
    have HO := Lib.hid hEo
    have HL := Lib.hid hEl
    have hsz := hK.below.size
    clear hB1 hK hE hEo hEl
    by_cases hlt : k < L.length
    · have hrow := HK.out.rr HF.out.row
      obtain ⟨g, rfl, -⟩ := own_some hrow (by omega)
      have HX := Lib.hid (List.getElem_mem hlt)
      have HP := Lib.hid (pair_atq HF.out.apart hlt)
      have HTK := Lib.hid (List.take_succ_eq_append_getElem hlt)
      have q0 : (cellsV L)[k]? = some (.slice (L[k]).1 (L[k]).2.2.length (L[k]).2.1) := by simp [cellsV, hlt]
      have q1 := (hrow.cellAt k (by omega)).trans q0
      obtain ⟨x, ex⟩ : ∃ x, L[k] = x := ⟨_, rfl⟩
      rw [ex] at q1 HX HP HTK
      obtain ⟨ys, hy⟩ := HF.out.vec x HX.out
      have KE := Lib.hid (bqInt64s_any bk base (n + k) x.1 x.2.2.length x.2.1 es1 ys wr (by omega) (by omega) hbb HB1.out (HK.out.r64 hy) (fun e' he => by
        rcases HE.out e' he with h1 | ⟨y, hy, h1⟩
        · exact HF.out.ap8 e' h1 x HX.out
        · rw [h1]; exact HP.out y hy) (HF.out.len x HX.out) (by have := HL.out; omega))
      clear hrow q0 ex hy
      go_wp2_with (go_at_call 45; refine KE.out.mono ?_; rintro e w1 ⟨rfl, hB2, hK2⟩)
      have HB2 := Lib.hid hB2
      have HK2 := Lib.hid hK2
      clear hB2 hK2
      go_roundw
      case rel => exact ⟨k + 1, by omega, by go_num, upd es1 5 ⟨x.1, x.2.2.length, x.2.1, n + k + 1⟩, by rw [← Nat.add_assoc]; exact HB2.out, HK.out.trans HK2.out, fun e' he => by
        rw [upd_same] at he
        rcases List.mem_append.1 he with h1 | h1
        · rcases HE.out e' h1 with h2 | ⟨y, hy, h2⟩
          · exact .inl h2
          · exact .inr ⟨y, by rw [HTK.out]; exact List.mem_append_left _ hy, h2⟩
        · rw [List.mem_singleton] at h1
          subst h1
          exact .inr ⟨x, by rw [HTK.out]; simp, rfl⟩, by have := HL.out; rw [upd_same, List.length_append, List.length_singleton]; omega, fun j hj => (upd_other _ _ _ hj).trans (HO.out j hj)⟩
      case measure => simp [intOf]; omega
    · obtain rfl : k = L.length := by omega
      have KE := Lib.hid (bqRow_any bk base (n + L.length) A L.length c es1 _ wr (by omega) (by omega) hbb HB1.out (HK.out.rr HF.out.row) (by rw [HO.out 7 (by decide)]; exact HF.out.apV) (by omega) (by rw [HO.out 7 (by decide)]; omega))
      go_wp2_with (go_at_call 46; refine KE.out.mono ?_; rintro e w1 ⟨rfl, hB2, hK2⟩)
      go_end0
      exact ⟨rfl, _, hB2, HK.out.trans hK2, fun e' he => by
        rw [upd_other _ _ _ (by decide)] at he
        have := HE.out e' he
        rw [List.take_length] at this
        exact this, by rw [upd_other _ _ _ (by decide)]; exact HL.out, by rw [upd_same, HO.out 7 (by decide)], fun j h3 h6 => (upd_other _ _ _ h6).trans (HO.out j h3)⟩
end Go.Proofs.YthbimjkcpmffcaaGreat
/- The Book of the statements: a book of codes; and the book under way, its entries below a height. -/
namespace Go.Proofs.YthbimjkcpmffcaaGreat
open Go.RowKit
set_option linter.unusedVariables false
/-- What the parts of a book of codes must be for a book to hold them. -/
structure ForP (w : World) (base : Nat) (A : Option Addr) (c : Nat) (L : List Pc) (es3 es6 es8 : List Bk.Ent) : Prop where
  row : w.ownsRow base 62 1 (.slice A L.length c) L.length (cellsP L)
  lst : ∀ x ∈ L, w.ownsRow base 25 1 (.slice x.1 x.2.2.length x.2.1) x.2.2.length (cellsV x.2.2)
  vec : ∀ x ∈ L, ∀ v ∈ x.2.2, ∃ ys, w.ownsRow base 74 1 (.slice v.1 v.2.2.length v.2.1) v.2.2.length ys
  len : ∀ x ∈ L, x.2.2.length ≤ 20000 ∧ ∀ v ∈ x.2.2, v.2.2.length ≤ 10000000
  apart : ApartP L
  ap3 : ∀ e' ∈ es3, ∀ x ∈ L, ∀ v ∈ x.2.2, e'.blk = none ∨ e'.blk ≠ vb v
  ap6 : ∀ e' ∈ es6, ∀ x ∈ L, e'.blk = none ∨ e'.blk ≠ pblk x
  ap8 : ∀ e' ∈ es8, e'.blk = none ∨ e'.blk ≠ (Value.slice A L.length c).ownBlock
/-- How many entries the parts of a book make. -/
def cntP (L : List Pc) : Nat := (L.map fun x => x.2.2.length + 1).sum
theorem cntP_take {L : List Pc} {k : Nat} (h : k < L.length) : cntP (L.take (k + 1)) = cntP (L.take k) + (L[k].2.2.length + 1) := by
  unfold cntP; rw [List.take_succ_eq_append_getElem h, List.map_append, List.sum_append]; simp
theorem cntP_take_le (L : List Pc) (k : Nat) : cntP (L.take k) ≤ cntP L := by
  unfold cntP
  conv => rhs; rw [← List.take_append_drop k L, List.map_append, List.sum_append]
  exact Nat.le_add_right _ _
theorem flat_pairs {L : List Pc} {R : Vc → Vc → Prop} (h : (L.flatMap fun x => x.2.2).Pairwise R) {i : Nat} (hi : i < L.length) : (L[i].2.2.Pairwise R) ∧ ∀ y ∈ L.take i, ∀ u ∈ y.2.2, ∀ v ∈ L[i].2.2, R u v := by
  rw [List.pairwise_flatMap] at h
  exact ⟨h.1 _ (List.getElem_mem hi), fun y hy => pair_atq h.2 hi y hy⟩
theorem BQ.below {w w' : World} {bk base n : Nat} {es : Nat → List Bk.Ent} (h : BQ w bk base n es) (hb : Below w.heap.size w w') : BQ w' bk base n es := by
  obtain ⟨sv, h⟩ := h
  exact ⟨sv, ⟨(hb.block bk (Array.getElem?_eq_some_iff.1 h.at_).1).trans h.at_, h.k1.map (fun k => own_below k hb) (fun k => own_below k hb), h.k3.map (fun k => own_below k hb) (fun k => own_below k hb), h.k5.map (fun k => own_below k hb) (fun k => own_below k hb), h.k6.map (fun k => own_below k hb) (fun k => own_below k hb), h.k7.map (fun k => own_below k hb) (fun k => own_below k hb), h.k8.map (fun k => own_below k hb) (fun k => own_below k hb), h.z⟩⟩
theorem ForP.below {w w' : World} {base : Nat} {A : Option Addr} {c : Nat} {L : List Pc} {es3 es6 es8 : List Bk.Ent} (h : ForP w base A c L es3 es6 es8) (hb : Below w.heap.size w w') : ForP w' base A c L es3 es6 es8 :=
  ⟨own_below h.row hb, fun x hx => own_below (h.lst x hx) hb, fun x hx v hv => by obtain ⟨ys, hy⟩ := h.vec x hx v hv; exact ⟨ys, own_below hy hb⟩, h.len, h.apart, h.ap3, h.ap6, h.ap8⟩
theorem KQ.of_below {base : Nat} {w w' : World} (hb : Below w.heap.size w w') (h : base ≤ w.heap.size) : KQ base w w' := ⟨hb.mono h, fun _ _ _ _ _ _ _ ho => own_below ho hb⟩
theorem box_row (w : World) (base : Nat) (hb : base ≤ w.heap.size) (t : TypeId) (x y : Value) : (w.alloc (.cells #[x, y] t)).ownsRow base t 2 (.slice (some ⟨w.heap.size, 0, none⟩) 1 1) 1 [x, y] :=
  ⟨rfl, .inr ⟨w.heap.size, 1, #[x, y], rfl, hb, World.alloc_heap_new w _, Nat.le_refl _, by decide, rfl, rfl⟩⟩
set_option maxRecDepth 100000 in
set_option maxHeartbeats 2000000 in
theorem bqWords_any (P : Int) (bk base n : Nat) (A : Option Addr) (c : Nat) (L : List Pc) (m : Nat) (hm : m = L.length) (es : Nat → List Bk.Ent) (w : World) (hn : n + cntP L < 800000) (hb : base ≤ w.heap.size) (hbb : base ≤ bk) (hB : BQ w bk base n es)
    (hF : ForP w base A c L (es 3) (es 6) (es 8)) (hl : L.length ≤ 20000) (h3 : (es 3).length ≤ n) (h6 : (es 6).length ≤ n) (hV : (es 8).length ≤ n) :
    Calls Tryz.prog 19 #[.pointer (some ⟨bk, 0, none⟩), .agg #[.int .i64 P, .slice A m c]] w fun e w' => e = .returned (.tuple #[]) ∧ ∃ es', BQ w' bk base (n + cntP L + 1) es' ∧ KQ base w w' ∧ (∀ e' ∈ es' 3, e' ∈ es 3 ∨ ∃ x ∈ L, ∃ v ∈ x.2.2, e'.blk = vb v) ∧ (∀ e' ∈ es' 6, e' ∈ es 6 ∨ ∃ x ∈ L, e'.blk = pblk x) ∧
      (es' 3).length ≤ n + cntP L ∧ (es' 6).length ≤ n + cntP L ∧ es' 8 = es 8 ++ [⟨A, L.length, c, n + cntP L + 1⟩] ∧ ∀ j, j ≠ 3 → j ≠ 6 → j ≠ 8 → es' j = es j := by
  subst hm
  have b0 : Below w.heap.size w (w.alloc (.cells #[.int .i64 P, .slice A L.length c] 24)) := below_one (Below.refl _ _) _
  have HF := Lib.hid (hF.below b0)
  have HB := Lib.hid (hB.below b0)
  have HX := Lib.hid (box_row w base hb 24 (.int .i64 P) (.slice A L.length c))
  have HK0 := Lib.hid (KQ.of_below b0 hb)
  have HN := Lib.hid hn
  have H3 := Lib.hid h3
  have H6 := Lib.hid h6
  have hb : base ≤ (w.alloc (.cells #[.int .i64 P, .slice A L.length c] 24)).heap.size := Nat.le_trans hb b0.size
  clear hF hB hn h3 h6 b0
  go_enter Tryz.func19, Tryz.ntmps19
  go_wp2
  obtain ⟨w0, ew0⟩ : ∃ w0, w.alloc (.cells #[.int .i64 P, .slice A L.length c] 24) = w0 := ⟨_, rfl⟩
  rw [ew0] at HF HB HX HK0 hb ⊢
  clear ew0
  obtain ⟨gx, eg⟩ : ∃ gx, w.heap.size = gx := ⟨_, rfl⟩
  rw [eg] at HX ⊢
  clear eg
  go_loopw [4] (fun i wr => ∃ k : Nat, k ≤ L.length ∧ i = .int .i64 k ∧ ∃ es', BQ wr bk base (n + cntP (L.take k)) es' ∧ KQ base w0 wr ∧ (∀ e' ∈ es' 3, e' ∈ es 3 ∨ ∃ x ∈ L.take k, ∃ v ∈ x.2.2, e'.blk = vb v) ∧ (∀ e' ∈ es' 6, e' ∈ es 6 ∨ ∃ x ∈ L.take k, e'.blk = pblk x) ∧
      (es' 3).length ≤ n + cntP (L.take k) ∧ (es' 6).length ≤ n + cntP (L.take k) ∧ ∀ j, j ≠ 3 → j ≠ 6 → es' j = es j) (fun i _ => L.length - (intOf i).toNat)
  case atStart => exact ⟨0, by omega, rfl, es, HB.out, KQ.refl _ _, fun e' he => .inl he, fun e' he => .inl he, H3.out, H6.out, fun _ _ _ => rfl⟩
  case round =>
    clear HB H3 H6
    obtain ⟨k, hk, rfl, es1, hB1, hK, hE, hE6, hl3, hl6, hEo⟩ := hrel
    have HB1 := Lib.hid hB1
    have HK := Lib.hid hK
    have HE := Lib.hid hE
    have HE6 := Lib.hid hE6
    have HO := Lib.hid hEo
    have H3 := Lib.hid hl3
    have H6 := Lib.hid hl6
    have hsz := hK.below.size
    have cx : wr.cell? ⟨gx, 1, none⟩ = some (.slice A L.length c) := ((hK.row (by decide) (by decide) (by decide) (by decide) (by decide) (by decide) (by decide) HX.out).cellAt 1 (by decide)).trans rfl
    clear hB1 hK hE hE6 hEo hl3 hl6
    have HC := Lib.hid (cntP_take_le L k)
    by_cases hlt : k < L.length
    · have hrow := HK.out.rp HF.out.row
      obtain ⟨g, rfl, -⟩ := own_some hrow (by omega)
      have HX := Lib.hid (List.getElem_mem hlt)
      have HP := Lib.hid (flat_pairs HF.out.apart.vecs hlt)
      have HR := Lib.hid (pair_atq HF.out.apart.rows hlt)
      have HTK := Lib.hid (List.take_succ_eq_append_getElem hlt)
      have HCT := Lib.hid (cntP_take hlt)
      have HC1 := Lib.hid (cntP_take_le L (k + 1))
      have q0 : (cellsP L)[k]? = some (.slice (L[k]).1 (L[k]).2.2.length (L[k]).2.1) := by simp [cellsP, hlt]
      have q1 := (hrow.cellAt k (by omega)).trans q0
      obtain ⟨x, ex⟩ : ∃ x, L[k] = x := ⟨_, rfl⟩
      rw [ex] at q1 HX HP HTK HR HCT
      have KE := Lib.hid (bqVectors_any bk base (n + cntP (L.take k)) x.1 x.2.1 x.2.2 _ rfl es1 wr (by have := HN.out; have := HC1.out; have := HCT.out; omega) (by omega) hbb HB1.out
        ⟨HK.out.rv (HF.out.lst x HX.out), fun v hv => by obtain ⟨ys, hy⟩ := HF.out.vec x HX.out v hv; exact ⟨ys, HK.out.r8 hy⟩, (HF.out.len x HX.out).2, HP.out.1, fun e' he v hv => by
          rcases HE.out e' he with h1 | ⟨y, hy, u, hu, h1⟩
          · exact HF.out.ap3 e' h1 x HX.out v hv
          · rw [h1]; exact HP.out.2 y hy u hu v hv, fun e' he => by
          rcases HE6.out e' he with h1 | ⟨y, hy, h1⟩
          · exact HF.out.ap6 e' h1 x HX.out
          · rw [h1]; exact HR.out y hy⟩ (HF.out.len x HX.out).1 (by have := HN.out; have := HC1.out; have := HCT.out; have := H3.out; omega) (by have := HN.out; have := HC.out; have := H6.out; omega))
      clear hrow q0 ex
      go_wp2_with (go_at_call 30; refine KE.out.mono ?_; rintro e w1 ⟨rfl, es2, hB2, hK2, g3, g3l, g6, go⟩)
      have HB2 := Lib.hid hB2
      have HK2 := Lib.hid hK2
      have G3 := Lib.hid g3
      have G3l := Lib.hid g3l
      have G6 := Lib.hid g6
      have GO := Lib.hid go
      clear hB2 hK2 g3 g3l g6 go
      go_roundw
      case rel => exact ⟨k + 1, by omega, by go_num, es2, by rw [HCT.out, ← Nat.add_assoc, ← Nat.add_assoc]; exact HB2.out, HK.out.trans HK2.out, fun e' he => by
        rcases G3.out e' he with h1 | ⟨v, hv, h1⟩
        · rcases HE.out e' h1 with h2 | ⟨y, hy, h2⟩
          · exact .inl h2
          · exact .inr ⟨y, by rw [HTK.out]; exact List.mem_append_left _ hy, h2⟩
        · exact .inr ⟨x, by rw [HTK.out]; simp, v, hv, h1⟩, fun e' he => by
        rw [G6.out] at he
        rcases List.mem_append.1 he with h1 | h1
        · rcases HE6.out e' h1 with h2 | ⟨y, hy, h2⟩
          · exact .inl h2
          · exact .inr ⟨y, by rw [HTK.out]; exact List.mem_append_left _ hy, h2⟩
        · rw [List.mem_singleton] at h1
          subst h1
          exact .inr ⟨x, by rw [HTK.out]; simp, rfl⟩, by have := G3l.out; have := H3.out; have := HCT.out; omega, by have h1 := congrArg List.length G6.out; have := H6.out; have := HCT.out; rw [List.length_append, List.length_singleton] at h1; omega, fun j h3 h6 => (GO.out j h3 h6).trans (HO.out j h3 h6)⟩
      case measure => simp [intOf]; omega
    · obtain rfl : k = L.length := by omega
      have HC2 := Lib.hid (show cntP (L.take L.length) = cntP L by rw [List.take_length])
      have hb1 := HB1.out
      rw [HC2.out] at hb1
      have KE := Lib.hid (bqPart_any bk base (n + cntP L) A L.length c es1 _ wr (by have := HN.out; omega) (by omega) hbb hb1 (HK.out.rp HF.out.row) (by rw [HO.out 8 (by decide) (by decide)]; exact HF.out.ap8) (by omega) (by rw [HO.out 8 (by decide) (by decide)]; have := HN.out; omega))
      clear hb1
      go_wp2_with (go_at_call 42; refine KE.out.mono ?_; rintro e w1 ⟨rfl, hB2, hK2⟩)
      go_end0
      exact ⟨rfl, _, hB2, HK0.out.trans (HK.out.trans hK2), fun e' he => by
        rw [upd_other _ _ _ (by decide)] at he
        have := HE.out e' he
        rw [List.take_length] at this
        exact this, fun e' he => by
        rw [upd_other _ _ _ (by decide)] at he
        have := HE6.out e' he
        rw [List.take_length] at this
        exact this, by rw [upd_other _ _ _ (by decide), ← HC2.out]; exact H3.out, by rw [upd_other _ _ _ (by decide), ← HC2.out]; exact H6.out, by rw [upd_same, HO.out 8 (by decide) (by decide)], fun j h3 h6 h8 => (upd_other _ _ _ h8).trans (HO.out j h3 h6)⟩
/-- A book under way: its entries lie below hi. -/
def BT (w : World) (bk base n hi : Nat) : Prop := ∃ es, BQ w bk base n es ∧ (∀ j, (es j).length ≤ n) ∧ ∀ j, ∀ e ∈ es j, ∀ g, e.blk = some g → g < hi
def newBk : Obj := .cells #[.int .i64 0, .slice none 0 0, .slice none 0 0, .slice none 0 0, .slice none 0 0, .slice none 0 0, .slice none 0 0, .slice none 0 0, .slice none 0 0, .slice none 0 0, .slice none 0 0, .slice none 0 0, .slice none 0 0] 55
theorem bt_new (w : World) (base hi : Nat) : BT (w.alloc newBk) w.heap.size base 0 hi :=
  ⟨fun _ => [], ⟨fun _ => .slice none 0 0, ⟨heap_alloc_new w _, Bk.KIn.nil _ _ _ _ _ _ _, Bk.KIn.nil _ _ _ _ _ _ _, Bk.KIn.nil _ _ _ _ _ _ _, Bk.KIn.nil _ _ _ _ _ _ _, Bk.KIn.nil _ _ _ _ _ _ _, Bk.KIn.nil _ _ _ _ _ _ _, fun _ _ _ _ _ _ _ => rfl⟩⟩, fun j => Nat.le_refl _, fun j e he => by simp at he⟩
theorem BT.up {w : World} {bk base n hi hi' : Nat} (h : BT w bk base n hi) (hh : hi ≤ hi') : BT w bk base n hi' := by
  obtain ⟨es, h1, h2, h3⟩ := h
  exact ⟨es, h1, h2, fun j e he g hg => by have := h3 j e he g hg; omega⟩
theorem ne_range {lo hi : Nat} (o p : Option Nat) (ho : ∀ g, o = some g → g < lo) (hp : ∀ g, p = some g → lo ≤ g ∧ g < hi) : o = none ∨ o ≠ p := by
  cases o with
  | none => exact .inl rfl
  | some g => exact .inr (fun e => by have := ho g rfl; have := hp g e.symm; omega)
theorem upd_len {es : Nat → List Bk.Ent} {c : Nat} {x : Bk.Ent} {n : Nat} (h : ∀ j, (es j).length ≤ n) (j : Nat) : (upd es c x j).length ≤ n + 1 := by
  unfold upd
  split
  · have := h c; simp; omega
  · have := h j; omega
theorem upd_lt {es : Nat → List Bk.Ent} {c lo hi : Nat} {x : Bk.Ent} (hlo : lo ≤ hi) (h : ∀ j, ∀ e ∈ es j, ∀ g, e.blk = some g → g < lo) (hx : ∀ g, x.blk = some g → lo ≤ g ∧ g < hi) (j : Nat) : ∀ e ∈ upd es c x j, ∀ g, e.blk = some g → g < hi := by
  unfold upd
  split
  · intro e he g hg
    rcases List.mem_append.1 he with h1 | h1
    · have := h _ e h1 g hg; omega
    · rw [List.mem_singleton] at h1
      subst h1
      exact (hx g hg).2
  · intro e he g hg
    have := h _ e he g hg; omega
theorem bt_bytes {bk base n lo hi : Nat} {A : Option Addr} {len cap : Nat} {xs : List Value} {w : World} (hB : BT w bk base n lo) (hx : w.ownsRow base 5 1 (.slice A len cap) len xs) (hr : ∀ g, (Value.slice A len cap).ownBlock = some g → lo ≤ g ∧ g < hi) (hlo : lo ≤ hi) (hb : base ≤ w.heap.size) (hbb : base ≤ bk) (hlen : len ≤ 10000000) (hn : n ≤ 700000) :
    Calls Tryz.prog 21 #[.pointer (some ⟨bk, 0, none⟩), .slice A len cap] w fun e w' => e = .returned (.tuple #[]) ∧ BT w' bk base (n + 1) hi ∧ KQ base w w' := by
  obtain ⟨es, h1, h2, h3⟩ := hB
  refine (bqBytes_any bk base n A len cap es xs w (by omega) hb hbb h1 hx (fun e he => ne_range _ _ (h3 1 e he) hr) hlen (by have := h2 1; omega)).mono ?_
  rintro e w' ⟨rfl, k1, k2⟩
  exact ⟨rfl, ⟨_, k1, upd_len h2, upd_lt hlo h3 hr⟩, k2⟩
theorem bt_int8s {bk base n lo hi : Nat} {A : Option Addr} {len cap : Nat} {xs : List Value} {w : World} (hB : BT w bk base n lo) (hx : w.ownsRow base 74 1 (.slice A len cap) len xs) (hr : ∀ g, (Value.slice A len cap).ownBlock = some g → lo ≤ g ∧ g < hi) (hlo : lo ≤ hi) (hb : base ≤ w.heap.size) (hbb : base ≤ bk) (hlen : len ≤ 10000000) (hn : n ≤ 700000) :
    Calls Tryz.prog 20 #[.pointer (some ⟨bk, 0, none⟩), .slice A len cap] w fun e w' => e = .returned (.tuple #[]) ∧ BT w' bk base (n + 1) hi ∧ KQ base w w' := by
  obtain ⟨es, h1, h2, h3⟩ := hB
  refine (bqInt8s_any bk base n A len cap es xs w (by omega) hb hbb h1 hx (fun e he => ne_range _ _ (h3 3 e he) hr) hlen (by have := h2 3; omega)).mono ?_
  rintro e w' ⟨rfl, k1, k2⟩
  exact ⟨rfl, ⟨_, k1, upd_len h2, upd_lt hlo h3 hr⟩, k2⟩
/-- A list of lists of the call's own, all whose blocks lie from lo up to hi. -/
structure InQ (w : World) (base lo hi : Nat) (T t : TypeId) (A : Option Addr) (c : Nat) (L : List Vc) : Prop where
  row : w.ownsRow base T 1 (.slice A L.length c) L.length (cellsV L)
  vec : ∀ x ∈ L, ∃ ys, w.ownsRow base t 1 (.slice x.1 x.2.2.length x.2.1) x.2.2.length ys
  len : ∀ x ∈ L, x.2.2.length ≤ 10000000
  apart : L.Pairwise fun x y => vb x = none ∨ vb x ≠ vb y
  ro : ∀ g, (Value.slice A L.length c).ownBlock = some g → lo ≤ g ∧ g < hi
  rv : ∀ x ∈ L, ∀ g, vb x = some g → lo ≤ g ∧ g < hi
theorem bt_vectors {bk base n lo hi : Nat} {A : Option Addr} {c : Nat} {L : List Vc} {w : World} (hB : BT w bk base n lo) (hE : InQ w base lo hi 25 74 A c L) (hlo : lo ≤ hi) (hb : base ≤ w.heap.size) (hbb : base ≤ bk) (hl : L.length ≤ 20000) (hn : n ≤ 700000) :
    Calls Tryz.prog 30 #[.pointer (some ⟨bk, 0, none⟩), .slice A L.length c] w fun e w' => e = .returned (.tuple #[]) ∧ BT w' bk base (n + L.length + 1) hi ∧ KQ base w w' := by
  obtain ⟨es, h1, h2, h3⟩ := hB
  refine (bqVectors_any bk base n A c L _ rfl es w (by omega) hb hbb h1 ⟨hE.row, hE.vec, hE.len, hE.apart, fun e he x hx => ne_range _ _ (h3 3 e he) (hE.rv x hx), fun e he => ne_range _ _ (h3 6 e he) hE.ro⟩ hl (by have := h2 3; omega) (by have := h2 6; omega)).mono ?_
  rintro e w' ⟨rfl, es', k1, k2, k3, k4, k5, k6⟩
  refine ⟨rfl, ⟨es', k1, fun j => ?_, fun j e he g hg => ?_⟩, k2⟩
  · by_cases h : j = 3
    · subst h; have := h2 3; omega
    · by_cases h' : j = 6
      · subst h'; rw [k5]; have := h2 6; simp; omega
      · rw [k6 j h h']; have := h2 j; omega
  · by_cases h : j = 3
    · subst h
      rcases k3 e he with q | ⟨x, hx, q⟩
      · have := h3 3 e q g hg; omega
      · rw [q] at hg; exact (hE.rv x hx g hg).2
    · by_cases h' : j = 6
      · subst h'
        rw [k5] at he
        rcases List.mem_append.1 he with q | q
        · have := h3 6 e q g hg; omega
        · rw [List.mem_singleton] at q
          subst q
          exact (hE.ro g hg).2
      · rw [k6 j h h'] at he; have := h3 j e he g hg; omega
theorem bt_tables {bk base n lo hi : Nat} {A : Option Addr} {c : Nat} {L : List Vc} {w : World} (hB : BT w bk base n lo) (hE : InQ w base lo hi 80 2 A c L) (hlo : lo ≤ hi) (hb : base ≤ w.heap.size) (hbb : base ≤ bk) (hl : L.length ≤ 20000) (hn : n ≤ 700000) :
    Calls Tryz.prog 22 #[.pointer (some ⟨bk, 0, none⟩), .slice A L.length c] w fun e w' => e = .returned (.tuple #[]) ∧ BT w' bk base (n + L.length + 1) hi ∧ KQ base w w' := by
  obtain ⟨es, h1, h2, h3⟩ := hB
  refine (bqTables_any bk base n A c L _ rfl es w (by omega) hb hbb h1 ⟨hE.row, hE.vec, hE.len, hE.apart, fun e he x hx => ne_range _ _ (h3 5 e he) (hE.rv x hx), fun e he => ne_range _ _ (h3 7 e he) hE.ro⟩ hl (by have := h2 5; omega) (by have := h2 7; omega)).mono ?_
  rintro e w' ⟨rfl, es', k1, k2, k3, k4, k5, k6⟩
  refine ⟨rfl, ⟨es', k1, fun j => ?_, fun j e he g hg => ?_⟩, k2⟩
  · by_cases h : j = 5
    · subst h; have := h2 5; omega
    · by_cases h' : j = 7
      · subst h'; rw [k5]; have := h2 7; simp; omega
      · rw [k6 j h h']; have := h2 j; omega
  · by_cases h : j = 5
    · subst h
      rcases k3 e he with q | ⟨x, hx, q⟩
      · have := h3 5 e q g hg; omega
      · rw [q] at hg; exact (hE.rv x hx g hg).2
    · by_cases h' : j = 7
      · subst h'
        rw [k5] at he
        rcases List.mem_append.1 he with q | q
        · have := h3 7 e q g hg; omega
        · rw [List.mem_singleton] at q
          subst q
          exact (hE.ro g hg).2
      · rw [k6 j h h'] at he; have := h3 j e he g hg; omega
/-- The parts of a book of the call's own, all whose blocks lie from lo up to hi. -/
structure InP (w : World) (base lo hi : Nat) (A : Option Addr) (c : Nat) (L : List Pc) : Prop where
  row : w.ownsRow base 62 1 (.slice A L.length c) L.length (cellsP L)
  lst : ∀ x ∈ L, w.ownsRow base 25 1 (.slice x.1 x.2.2.length x.2.1) x.2.2.length (cellsV x.2.2)
  vec : ∀ x ∈ L, ∀ v ∈ x.2.2, ∃ ys, w.ownsRow base 74 1 (.slice v.1 v.2.2.length v.2.1) v.2.2.length ys
  len : ∀ x ∈ L, x.2.2.length ≤ 20000 ∧ ∀ v ∈ x.2.2, v.2.2.length ≤ 10000000
  apart : ApartP L
  ro : ∀ g, (Value.slice A L.length c).ownBlock = some g → lo ≤ g ∧ g < hi
  rl : ∀ x ∈ L, ∀ g, pblk x = some g → lo ≤ g ∧ g < hi
  rv : ∀ x ∈ L, ∀ v ∈ x.2.2, ∀ g, vb v = some g → lo ≤ g ∧ g < hi
theorem bt_words {P : Int} {bk base n lo hi : Nat} {A : Option Addr} {c : Nat} {L : List Pc} {w : World} (hB : BT w bk base n lo) (hE : InP w base lo hi A c L) (hlo : lo ≤ hi) (hb : base ≤ w.heap.size) (hbb : base ≤ bk) (hl : L.length ≤ 20000) (hn : n ≤ 700000) (hc : cntP L ≤ 60000) :
    Calls Tryz.prog 19 #[.pointer (some ⟨bk, 0, none⟩), .agg #[.int .i64 P, .slice A L.length c]] w fun e w' => e = .returned (.tuple #[]) ∧ BT w' bk base (n + cntP L + 1) hi ∧ KQ base w w' := by
  obtain ⟨es, h1, h2, h3⟩ := hB
  refine (bqWords_any P bk base n A c L _ rfl es w (by omega) hb hbb h1 ⟨hE.row, hE.lst, hE.vec, hE.len, hE.apart, fun e he x hx v hv => ne_range _ _ (h3 3 e he) (hE.rv x hx v hv), fun e he x hx => ne_range _ _ (h3 6 e he) (hE.rl x hx), fun e he => ne_range _ _ (h3 8 e he) hE.ro⟩ hl (h2 3) (h2 6) (h2 8)).mono ?_
  rintro e w' ⟨rfl, es', k1, k2, k3, k3', k4, k4', k5, k6⟩
  refine ⟨rfl, ⟨es', k1, fun j => ?_, fun j e he g hg => ?_⟩, k2⟩
  · by_cases h : j = 3
    · subst h; omega
    · by_cases h' : j = 6
      · subst h'; omega
      · by_cases h'' : j = 8
        · subst h''; rw [k5]; have := h2 8; simp; omega
        · rw [k6 j h h' h'']; have := h2 j; omega
  · by_cases h : j = 3
    · subst h
      rcases k3 e he with q | ⟨x, hx, v, hv, q⟩
      · have := h3 3 e q g hg; omega
      · rw [q] at hg; exact (hE.rv x hx v hv g hg).2
    · by_cases h' : j = 6
      · subst h'
        rcases k3' e he with q | ⟨x, hx, q⟩
        · have := h3 6 e q g hg; omega
        · rw [q] at hg; exact (hE.rl x hx g hg).2
      · by_cases h'' : j = 8
        · subst h''
          rw [k5] at he
          rcases List.mem_append.1 he with q | q
          · have := h3 8 e q g hg; omega
          · rw [List.mem_singleton] at q
            subst q
            exact (hE.ro g hg).2
        · rw [k6 j h h' h''] at he; have := h3 j e he g hg; omega
end Go.Proofs.YthbimjkcpmffcaaGreat
