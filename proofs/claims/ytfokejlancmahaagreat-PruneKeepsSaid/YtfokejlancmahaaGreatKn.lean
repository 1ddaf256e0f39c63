/- The Book of the statements, with numbers, small numbers and nodes: lists, and graphs. -/
import Derived.Test.YtfokejlancmahaaGreatKd
import Derived.Test.YtfokejlancmahaaGreatBa
namespace Go.Proofs.YtfokejlancmahaaGreat
open Go.RowKit
set_option linter.unusedVariables false
/-- A book with the entries es, by the kind's place. -/
structure BG1 (w : World) (bk base n : Nat) (sv : Nat → Value) (es : Nat → List Bk.Ent) : Prop where
  at_ : Bk.BookAt w bk (n : Nat) sv
  k2 : Bk.KIn w base 3 123 1 (es 2) Bk.mkInt 0 (sv 2)
  k3 : Bk.KIn w base 94 130 1 (es 3) Bk.mkInt8 0 (sv 3)
  k11 : Bk.KIn w base 73 162 3 (es 11) Bk.mkNode 0 (sv 11)
  z : ∀ j, j ≠ 2 → j ≠ 3 → j ≠ 11 → sv j = .slice none 0 0
def BG (w : World) (bk base n : Nat) (es : Nat → List Bk.Ent) : Prop := ∃ sv, BG1 w bk base n sv es
/-- One entry more. -/
def updG (es : Nat → List Bk.Ent) (c : Nat) (x : Bk.Ent) : Nat → List Bk.Ent := fun j => if j = c then es c ++ [x] else es j
theorem updG_same (es : Nat → List Bk.Ent) (c : Nat) (x : Bk.Ent) : updG es c x c = es c ++ [x] := if_pos rfl
theorem updG_other (es : Nat → List Bk.Ent) (c : Nat) (x : Bk.Ent) {j : Nat} (h : j ≠ c) : updG es c x j = es j := if_neg h
/-- Rows of other types than the book's own stay. -/
structure KG (base : Nat) (w w' : World) : Prop where
  below : Below base w w'
  row : ∀ {b2 : Nat} {T : TypeId} {size n : Nat} {v : Value} {xs : List Value}, T ≠ 123 → T ≠ 130 → T ≠ 162 → T ≠ 51 → w.ownsRow b2 T size v n xs → w'.ownsRow b2 T size v n xs
theorem KG.refl (base : Nat) (w : World) : KG base w w := ⟨Below.refl _ _, fun _ _ _ _ h => h⟩
theorem KG.trans {base : Nat} {a b c : World} (h : KG base a b) (g : KG base b c) : KG base a c := ⟨h.below.trans g.below, fun h1 h2 h3 h4 ho => g.row h1 h2 h3 h4 (h.row h1 h2 h3 h4 ho)⟩
theorem KG.r8 {base : Nat} {a b : World} (h : KG base a b) {b2 size n : Nat} {v : Value} {xs : List Value} (ho : a.ownsRow b2 94 size v n xs) : b.ownsRow b2 94 size v n xs := h.row (by decide) (by decide) (by decide) (by decide) ho
theorem KG.ri {base : Nat} {a b : World} (h : KG base a b) {b2 size n : Nat} {v : Value} {xs : List Value} (ho : a.ownsRow b2 3 size v n xs) : b.ownsRow b2 3 size v n xs := h.row (by decide) (by decide) (by decide) (by decide) ho
theorem KG.rn {base : Nat} {a b : World} (h : KG base a b) {b2 size n : Nat} {v : Value} {xs : List Value} (ho : a.ownsRow b2 73 size v n xs) : b.ownsRow b2 73 size v n xs := h.row (by decide) (by decide) (by decide) (by decide) ho
theorem bgInt_any (bk base n : Nat) (A : Option Addr) (len cap : Nat) (es : Nat → List Bk.Ent) (xs : List Value) (w : World) (hn : n < 1000000) (hb : base ≤ w.heap.size) (hbb : base ≤ bk) (hB : BG w bk base n es)
    (hx : w.ownsRow base 3 1 (.slice A len cap) len xs) (hap : ∀ e' ∈ es 2, e'.blk = none ∨ e'.blk ≠ (Value.slice A len cap).ownBlock) (hlen : len ≤ 10000000) (hes : (es 2).length < 1000000) :
    Calls Tryz.prog 40 #[.pointer (some ⟨bk, 0, none⟩), .slice A len cap] w fun e w' => e = .returned (.tuple #[]) ∧ BG w' bk base (n + 1) (updG es 2 ⟨A, len, cap, n + 1⟩) ∧ KG base w w' := by
  obtain ⟨sv, hB⟩ := hB
  refine (Bk.keepInt_any bk base n A len cap sv (es 2) xs w hn hb hbb hB.at_ hB.k2 hx hap hlen hes).mono ?_
  rintro e w' ⟨rfl, sv', h1, h2, h3, h4, h5, h6⟩
  refine ⟨rfl, ⟨sv', h2, ?_, ?_, ?_, fun j a b c => (h1 j a).trans (hB.z j a b c)⟩, ⟨h4.below, fun t1 t2 t3 t4 ho => Bk.own_frm2 ho h4 t1 t4⟩⟩
  · rw [updG_same]; exact h3
  · rw [h1 3 (by decide), updG_other _ _ _ (by decide)]; exact hB.k3.map (fun h => Bk.own_frm2 h h4 (by decide) (by decide)) (fun h => Bk.own_frm2 h h4 (by decide) (by decide))
  · rw [h1 11 (by decide), updG_other _ _ _ (by decide)]; exact hB.k11.map (fun h => Bk.own_frm2 h h4 (by decide) (by decide)) (fun h => Bk.own_frm2 h h4 (by decide) (by decide))
theorem bgInt8_any (bk base n : Nat) (A : Option Addr) (len cap : Nat) (es : Nat → List Bk.Ent) (xs : List Value) (w : World) (hn : n < 1000000) (hb : base ≤ w.heap.size) (hbb : base ≤ bk) (hB : BG w bk base n es)
    (hx : w.ownsRow base 94 1 (.slice A len cap) len xs) (hap : ∀ e' ∈ es 3, e'.blk = none ∨ e'.blk ≠ (Value.slice A len cap).ownBlock) (hlen : len ≤ 10000000) (hes : (es 3).length < 1000000) :
    Calls Tryz.prog 83 #[.pointer (some ⟨bk, 0, none⟩), .slice A len cap] w fun e w' => e = .returned (.tuple #[]) ∧ BG w' bk base (n + 1) (updG es 3 ⟨A, len, cap, n + 1⟩) ∧ KG base w w' := by
  obtain ⟨sv, hB⟩ := hB
  refine (Bk.keepInt8_any bk base n A len cap sv (es 3) xs w hn hb hbb hB.at_ hB.k3 hx hap hlen hes).mono ?_
  rintro e w' ⟨rfl, sv', h1, h2, h3, h4, h5, h6⟩
  refine ⟨rfl, ⟨sv', h2, ?_, ?_, ?_, fun j a b c => (h1 j b).trans (hB.z j a b c)⟩, ⟨h4.below, fun t1 t2 t3 t4 ho => Bk.own_frm2 ho h4 t2 t4⟩⟩
  · rw [h1 2 (by decide), updG_other _ _ _ (by decide)]; exact hB.k2.map (fun h => Bk.own_frm2 h h4 (by decide) (by decide)) (fun h => Bk.own_frm2 h h4 (by decide) (by decide))
  · rw [updG_same]; exact h3
  · rw [h1 11 (by decide), updG_other _ _ _ (by decide)]; exact hB.k11.map (fun h => Bk.own_frm2 h h4 (by decide) (by decide)) (fun h => Bk.own_frm2 h h4 (by decide) (by decide))
theorem bgNode_any (bk base n : Nat) (A : Option Addr) (len cap : Nat) (es : Nat → List Bk.Ent) (xs : List Value) (w : World) (hn : n < 1000000) (hb : base ≤ w.heap.size) (hbb : base ≤ bk) (hB : BG w bk base n es)
    (hx : w.ownsRow base 73 3 (.slice A len cap) len xs) (hap : ∀ e' ∈ es 11, e'.blk = none ∨ e'.blk ≠ (Value.slice A len cap).ownBlock) (hlen : len ≤ 10000000) (hes : (es 11).length < 1000000) :
    Calls Tryz.prog 101 #[.pointer (some ⟨bk, 0, none⟩), .slice A len cap] w fun e w' => e = .returned (.tuple #[]) ∧ BG w' bk base (n + 1) (updG es 11 ⟨A, len, cap, n + 1⟩) ∧ KG base w w' := by
  obtain ⟨sv, hB⟩ := hB
  refine (Bk.keepNode_any bk base n A len cap sv (es 11) xs w hn hb hbb hB.at_ hB.k11 hx hap hlen hes).mono ?_
  rintro e w' ⟨rfl, sv', h1, h2, h3, h4, h5, h6⟩
  refine ⟨rfl, ⟨sv', h2, ?_, ?_, ?_, fun j a b c => (h1 j c).trans (hB.z j a b c)⟩, ⟨h4.below, fun t1 t2 t3 t4 ho => Bk.own_frm2 ho h4 t3 t4⟩⟩
  · rw [h1 2 (by decide), updG_other _ _ _ (by decide)]; exact hB.k2.map (fun h => Bk.own_frm2 h h4 (by decide) (by decide)) (fun h => Bk.own_frm2 h h4 (by decide) (by decide))
  · rw [h1 3 (by decide), updG_other _ _ _ (by decide)]; exact hB.k3.map (fun h => Bk.own_frm2 h h4 (by decide) (by decide)) (fun h => Bk.own_frm2 h h4 (by decide) (by decide))
  · rw [updG_same]; exact h3
theorem bgInts_any (bk base n : Nat) (A : Option Addr) (len cap : Nat) (es : Nat → List Bk.Ent) (xs : List Value) (w : World) (hn : n < 1000000) (hb : base ≤ w.heap.size) (hbb : base ≤ bk) (hB : BG w bk base n es)
    (hx : w.ownsRow base 3 1 (.slice A len cap) len xs) (hap : ∀ e' ∈ es 2, e'.blk = none ∨ e'.blk ≠ (Value.slice A len cap).ownBlock) (hlen : len ≤ 10000000) (hes : (es 2).length < 1000000) :
    Calls Tryz.prog 15 #[.pointer (some ⟨bk, 0, none⟩), .slice A len cap] w fun e w' => e = .returned (.tuple #[]) ∧ BG w' bk base (n + 1) (updG es 2 ⟨A, len, cap, n + 1⟩) ∧ KG base w w' := by
  have H := Lib.hid (bgInt_any bk base n A len cap es xs w hn hb hbb hB hx hap hlen hes)
  clear hB hx hap
  go_enter Tryz.func15, Tryz.ntmps15
  go_wp2_with fail
  refine H.out.mono ?_
  rintro e w' ⟨rfl, h⟩
  have HR := Lib.hid h
  clear h H
  go_wp2
  go_end0
  exact ⟨rfl, HR.out⟩
theorem bgInt8s_any (bk base n : Nat) (A : Option Addr) (len cap : Nat) (es : Nat → List Bk.Ent) (xs : List Value) (w : World) (hn : n < 1000000) (hb : base ≤ w.heap.size) (hbb : base ≤ bk) (hB : BG w bk base n es)
    (hx : w.ownsRow base 94 1 (.slice A len cap) len xs) (hap : ∀ e' ∈ es 3, e'.blk = none ∨ e'.blk ≠ (Value.slice A len cap).ownBlock) (hlen : len ≤ 10000000) (hes : (es 3).length < 1000000) :
    Calls Tryz.prog 24 #[.pointer (some ⟨bk, 0, none⟩), .slice A len cap] w fun e w' => e = .returned (.tuple #[]) ∧ BG w' bk base (n + 1) (updG es 3 ⟨A, len, cap, n + 1⟩) ∧ KG base w w' := by
  have H := Lib.hid (bgInt8_any bk base n A len cap es xs w hn hb hbb hB hx hap hlen hes)
  clear hB hx hap
  go_enter Tryz.func24, Tryz.ntmps24
  go_wp2_with fail
  refine H.out.mono ?_
  rintro e w' ⟨rfl, h⟩
  have HR := Lib.hid h
  clear h H
  go_wp2
  go_end0
  exact ⟨rfl, HR.out⟩
end Go.Proofs.YtfokejlancmahaaGreat
