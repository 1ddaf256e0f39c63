/- The Book of the statements: a kind whole, with lists or without; Apart. -/
import Derived.Test.YtlkkmeeijjaeiaaX8
import Derived.Test.YtlkkmeeijjaeiaaT
namespace Go.Proofs.Ytlkkmeeijjaeiaa
open Go.RowKit
set_option linter.unusedVariables false
theorem own_frm {w w' : World} {base b2 : Nat} {t T : TypeId} {size n : Nat} {v : Value} {xs : List Value} (ho : w.ownsRow b2 T size v n xs) (hf : Frm base t w w') (hne : T ≠ t) : w'.ownsRow b2 T size v n xs := by
  refine ⟨ho.1, ?_⟩
  rcases ho.2 with h1 | ⟨g, cap, cur, h1, h2, hg, r⟩
  · exact .inl h1
  · have o : Other w t g := ⟨cur, T, _, hg, hne⟩
    exact .inr ⟨g, cap, cur, h1, h2, (hf.block g o.lt o).trans hg, r⟩
theorem own_frm2 {w w' : World} {base b2 : Nat} {t t2 T : TypeId} {size n : Nat} {v : Value} {xs : List Value} (ho : w.ownsRow b2 T size v n xs) (hf : Frm2 base t t2 w w') (hne : T ≠ t) (hne2 : T ≠ t2) : w'.ownsRow b2 T size v n xs := by
  refine ⟨ho.1, ?_⟩
  rcases ho.2 with h1 | ⟨g, cap, cur, h1, h2, hg, r⟩
  · exact .inl h1
  · have o : Other w t g := ⟨cur, T, _, hg, hne⟩
    exact .inr ⟨g, cap, cur, h1, h2, (hf.block g o.lt o ⟨cur, T, _, hg, hne2⟩).trans hg, r⟩
theorem own_bel {w w' : World} {b2 : Nat} {T : TypeId} {size n : Nat} {v : Value} {xs : List Value} (ho : w.ownsRow b2 T size v n xs) (hb : Below w.heap.size w w') : w'.ownsRow b2 T size v n xs := by
  refine ⟨ho.1, ?_⟩
  rcases ho.2 with h1 | ⟨g, cap, cur, h1, h2, hg, r⟩
  · exact .inl h1
  · exact .inr ⟨g, cap, cur, h1, h2, (hb.block g (Array.getElem?_eq_some_iff.1 hg).1).trans hg, r⟩
theorem HB.frm {w w' : World} {base h : Nat} {t T : TypeId} (hb : HB w h T) (hf : Frm base t w w') (hne : T ≠ t) : HB w' h T := hb.same (hf.block h hb.lt (hb.other hne))
theorem HB.frm2 {w w' : World} {base h : Nat} {t t2 T : TypeId} (hb : HB w h T) (hf : Frm2 base t t2 w w') (hne : T ≠ t) (hne2 : T ≠ t2) : HB w' h T := hb.same (hf.block h hb.lt (hb.other hne) (hb.other hne2))
theorem BookAt.frm {w w' : World} {base bk : Nat} {t : TypeId} {n : Int} {sb ss : Value} (h : BookAt w bk n sb ss) (hf : Frm base t w w') (hne : 43 ≠ t) : BookAt w' bk n sb ss := (hf.block bk h.hb.lt (h.hb.other hne)).trans h
theorem BookAt.frm2 {w w' : World} {base bk : Nat} {t t2 : TypeId} {n : Int} {sb ss : Value} (h : BookAt w bk n sb ss) (hf : Frm2 base t t2 w w') (hne : 43 ≠ t) (hne2 : 43 ≠ t2) : BookAt w' bk n sb ss := (hf.block bk h.hb.lt (h.hb.other hne) (h.hb.other hne2)).trans h
theorem BookAt.bel {w w' : World} {bk : Nat} {n : Int} {sb ss : Value} (h : BookAt w bk n sb ss) (hb : Below w.heap.size w w') : BookAt w' bk n sb ss := (hb.block bk h.hb.lt).trans h
theorem Lists.map {w w' : World} {base : Nat} {t : TypeId} {es : List Ent} {mk : Nat → Value} {k : Nat} (h : Lists w base t es mk k) (f : ∀ {v : Value} {n : Nat} {xs : List Value}, w.ownsRow base t 1 v n xs → w'.ownsRow base t 1 v n xs) : Lists w' base t es mk k :=
  ⟨fun j e hj => by obtain ⟨xs, h1, h2⟩ := h.own j e hj; exact ⟨xs, f h1, h2⟩, h.apart⟩
/-- A kind ahead of Apart. -/
structure KIn (w : World) (base : Nat) (t T : TypeId) (es : List Ent) (mk : Nat → Value) (k : Nat) (sv : Value) : Prop where
  lists : Lists w base t es mk k
  row : (es = [] ∧ sv = .slice none 0 0) ∨ ∃ h c, sv = .slice (some ⟨h, 0, none⟩) es.length c ∧ w.ownsRow base T 3 sv es.length (rowCells es)
  num : ∀ e ∈ es, e.num ≤ 1000000 ∧ e.len ≤ 10000000
  len : es.length ≤ 1000
theorem KIn.map {w w' : World} {base : Nat} {t T : TypeId} {es : List Ent} {mk : Nat → Value} {k : Nat} {sv : Value} (h : KIn w base t T es mk k sv) (f : ∀ {v : Value} {n : Nat} {xs : List Value}, w.ownsRow base t 1 v n xs → w'.ownsRow base t 1 v n xs) (g : ∀ {v : Value} {n : Nat} {xs : List Value}, w.ownsRow base T 3 v n xs → w'.ownsRow base T 3 v n xs) : KIn w' base t T es mk k sv :=
  ⟨h.lists.map f, by
    rcases h.row with h1 | ⟨b, c, h1, h2⟩
    · exact .inl h1
    · exact .inr ⟨b, c, h1, g h2⟩, h.num, h.len⟩
/-- A kind behind growing. -/
structure KOut (w : World) (base : Nat) (t T : TypeId) (es : List Ent) (mk : Nat → Value) (sv : Value) : Prop where
  row : (es = [] ∧ sv = .slice none 0 0) ∨ ∃ h c lg W0, sv = .slice (some ⟨h, 0, none⟩) es.length c ∧ es.length ≤ c ∧ HB w h T ∧ Held w h es lg ∧ Grown3 W0 w base t es mk lg es.length
  num : ∀ e ∈ es, e.num ≤ 1000000 ∧ e.len ≤ 10000000
  len : es.length ≤ 1000
theorem KOut.map {w w' : World} {base : Nat} {t T : TypeId} {es : List Ent} {mk : Nat → Value} {sv : Value} (h : KOut w base t T es mk sv) (f : ∀ {v : Value} {n : Nat} {xs : List Value}, w.ownsRow base t 1 v n xs → w'.ownsRow base t 1 v n xs) (g : ∀ {b : Nat}, HB w b T → w'.heap[b]? = w.heap[b]?) : KOut w' base t T es mk sv :=
  ⟨by
    rcases h.row with h1 | ⟨b, c, lg, W0, h1, h2, h3, h4, h5⟩
    · exact .inl h1
    · exact .inr ⟨b, c, lg, W0, h1, h2, h3.same (g h3), h4.same (g h3), ⟨fun j e hj => f (h5.full j e hj), fun j e hj hk => by obtain ⟨x, y, z⟩ := h5.long j e hj hk; exact ⟨x, f y, z⟩, h5.apart, h5.old⟩⟩, h.num, h.len⟩

theorem own_capv {w : World} {base e size n cap : Nat} {A : Option Addr} {xs : List Value} (h : w.ownsRow base e size (.slice A n cap) n xs) : n ≤ cap ∧ cap ≤ maxLen := by
  rcases h.2 with ⟨h1, h0⟩ | ⟨g', cap', cur, h1, _, _, h2, h3, _⟩
  · injection h1 with _ _ h4; unfold maxLen; omega
  · injection h1 with _ _ h4; subst h4; exact ⟨h2, h3⟩
theorem own_HB {w : World} {base e size n cap g : Nat} {xs : List Value} (h : w.ownsRow base e size (.slice (some ⟨g, 0, none⟩) n cap) n xs) : HB w g e := by
  rcases h.2 with ⟨h1, _⟩ | ⟨g', cap', cur, h1, _, hg, _⟩
  · cases h1
  · injection h1 with h1; injection h1 with h1; injection h1 with h1; subst h1; exact ⟨cur, hg⟩

theorem fillByte_gen {w : World} {bk base n : Nat} {sb ss : Value} {es : List Ent} (hb : base ≤ w.heap.size) (hk : BookAt w bk n sb ss) (h : KIn w base 5 82 es mkByte 0 sb) :
    Calls Try.prog 37 #[.pointer (some ⟨bk, 0, none⟩)] w fun e w' => e = .returned (.tuple #[]) ∧ Frm base 5 w w' ∧ KIn w' base 5 82 es mkByte es.length sb := by
  rcases h.row with ⟨h1, h2⟩ | ⟨b, c, h1, h2⟩
  · subst h1 h2
    exact (fillByte_nil bk w (hk.cell 1)).mono fun e w' ⟨he, hw⟩ => ⟨he, hw ▸ Frm.refl _ _ _, hw ▸ h⟩
  · subst h1
    have hcap := (own_capv h2).1
    have hB : HB w b 82 := own_HB h2
    refine (fillByte_any bk b c base es _ w h.len hcap hb (hk.cell 1) (hk.hb.other (by decide)) (hB.other (by decide)) (held_own h2) h.lists h.num).mono fun e w' ⟨he, hf, hl⟩ => ⟨he, hf, hl, .inr ⟨b, c, rfl, own_frm h2 hf (by decide)⟩, h.num, h.len⟩
theorem growByte_gen {w : World} {bk base n : Nat} {sb ss : Value} {es : List Ent} (hb : base ≤ w.heap.size) (hk : BookAt w bk n sb ss) (h : KIn w base 5 82 es mkByte es.length sb) :
    Calls Try.prog 49 #[.pointer (some ⟨bk, 0, none⟩)] w fun e w' => e = .returned (.tuple #[]) ∧ Frm2 base 5 82 w w' ∧ KOut w' base 5 82 es mkByte sb := by
  rcases h.row with ⟨h1, h2⟩ | ⟨b, c, h1, h2⟩
  · subst h1 h2
    exact (growByte_nil bk w (hk.cell 1)).mono fun e w' ⟨he, hw⟩ => ⟨he, hw ▸ Frm2.refl _ _ _ _, .inl ⟨rfl, rfl⟩, h.num, h.len⟩
  · subst h1
    have hcap := (own_capv h2).1
    have hB : HB w b 82 := own_HB h2
    have hbb : base ≤ b := (h2.lt b rfl).1
    have hG : Grown3 w w base 5 es mkByte (fun _ => ⟨none, 0, 0, 0⟩) 0 := ⟨fun j e hj => by
      obtain ⟨xs, q1, q2⟩ := h.lists.own j e hj
      rw [q2 (List.getElem?_eq_some_iff.1 hj).1] at q1
      exact q1, fun j e hj hk => by omega, h.lists.apart, fun j e hj b hb => by
      obtain ⟨xs, q1, q2⟩ := h.lists.own j e hj
      exact (q1.lt b hb).2⟩
    refine (growByte_any bk b c base es _ w h.len hcap hb hbb (hk.cell 1) (hk.hb.other (by decide)) (hk.hb.other (by decide)) hB (held_own h2) hG h.num).mono fun e w' ⟨he, hf, hh, lg, hr, hg⟩ => ⟨he, hf, .inr ⟨b, c, lg, w, rfl, hcap, hh, hr, hg⟩, h.num, h.len⟩
theorem lookByte_gen {w : World} {bk base n : Nat} {sb ss : Value} {es : List Ent} (hk : BookAt w bk n sb ss) (h : KOut w base 5 82 es mkByte sb) :
    Calls Try.prog 61 #[.pointer (some ⟨bk, 0, none⟩)] w fun e w' => e = .returned (.bool true) ∧ Below w.heap.size w w' := by
  rcases h.row with ⟨h1, h2⟩ | ⟨b, c, lg, W0, h1, h2, h3, h4, h5⟩
  · subst h1 h2
    exact (lookByte_nil bk w (hk.cell 1)).mono fun e w' ⟨he, hw⟩ => ⟨he, hw ▸ Below.refl _ _⟩
  · subst h1
    exact lookByte_any W0 bk b c base es lg w h.len h2 (hk.cell 1) hk.hb.lt h3.lt h4 h5 h.num

theorem fillInt8_gen {w : World} {bk base n : Nat} {sb ss : Value} {es : List Ent} (hb : base ≤ w.heap.size) (hk : BookAt w bk n sb ss) (h : KIn w base 74 88 es mkInt8 0 ss) :
    Calls Try.prog 39 #[.pointer (some ⟨bk, 0, none⟩)] w fun e w' => e = .returned (.tuple #[]) ∧ Frm base 74 w w' ∧ KIn w' base 74 88 es mkInt8 es.length ss := by
  rcases h.row with ⟨h1, h2⟩ | ⟨b, c, h1, h2⟩
  · subst h1 h2
    exact (fillInt8_nil bk w (hk.cell 3)).mono fun e w' ⟨he, hw⟩ => ⟨he, hw ▸ Frm.refl _ _ _, hw ▸ h⟩
  · subst h1
    have hcap := (own_capv h2).1
    have hB : HB w b 88 := own_HB h2
    refine (fillInt8_any bk b c base es _ w h.len hcap hb (hk.cell 3) (hk.hb.other (by decide)) (hB.other (by decide)) (held_own h2) h.lists h.num).mono fun e w' ⟨he, hf, hl⟩ => ⟨he, hf, hl, .inr ⟨b, c, rfl, own_frm h2 hf (by decide)⟩, h.num, h.len⟩
theorem growInt8_gen {w : World} {bk base n : Nat} {sb ss : Value} {es : List Ent} (hb : base ≤ w.heap.size) (hk : BookAt w bk n sb ss) (h : KIn w base 74 88 es mkInt8 es.length ss) :
    Calls Try.prog 51 #[.pointer (some ⟨bk, 0, none⟩)] w fun e w' => e = .returned (.tuple #[]) ∧ Frm2 base 74 88 w w' ∧ KOut w' base 74 88 es mkInt8 ss := by
  rcases h.row with ⟨h1, h2⟩ | ⟨b, c, h1, h2⟩
  · subst h1 h2
    exact (growInt8_nil bk w (hk.cell 3)).mono fun e w' ⟨he, hw⟩ => ⟨he, hw ▸ Frm2.refl _ _ _ _, .inl ⟨rfl, rfl⟩, h.num, h.len⟩
  · subst h1
    have hcap := (own_capv h2).1
    have hB : HB w b 88 := own_HB h2
    have hbb : base ≤ b := (h2.lt b rfl).1
    have hG : Grown3 w w base 74 es mkInt8 (fun _ => ⟨none, 0, 0, 0⟩) 0 := ⟨fun j e hj => by
      obtain ⟨xs, q1, q2⟩ := h.lists.own j e hj
      rw [q2 (List.getElem?_eq_some_iff.1 hj).1] at q1
      exact q1, fun j e hj hk => by omega, h.lists.apart, fun j e hj b hb => by
      obtain ⟨xs, q1, q2⟩ := h.lists.own j e hj
      exact (q1.lt b hb).2⟩
    refine (growInt8_any bk b c base es _ w h.len hcap hb hbb (hk.cell 3) (hk.hb.other (by decide)) (hk.hb.other (by decide)) hB (held_own h2) hG h.num).mono fun e w' ⟨he, hf, hh, lg, hr, hg⟩ => ⟨he, hf, .inr ⟨b, c, lg, w, rfl, hcap, hh, hr, hg⟩, h.num, h.len⟩
theorem lookInt8_gen {w : World} {bk base n : Nat} {sb ss : Value} {es : List Ent} (hk : BookAt w bk n sb ss) (h : KOut w base 74 88 es mkInt8 ss) :
    Calls Try.prog 63 #[.pointer (some ⟨bk, 0, none⟩)] w fun e w' => e = .returned (.bool true) ∧ Below w.heap.size w w' := by
  rcases h.row with ⟨h1, h2⟩ | ⟨b, c, lg, W0, h1, h2, h3, h4, h5⟩
  · subst h1 h2
    exact (lookInt8_nil bk w (hk.cell 3)).mono fun e w' ⟨he, hw⟩ => ⟨he, hw ▸ Below.refl _ _⟩
  · subst h1
    exact lookInt8_any W0 bk b c base es lg w h.len h2 (hk.cell 3) hk.hb.lt h3.lt h4 h5 h.num

set_option maxRecDepth 100000 in
set_option maxHeartbeats 4000000 in
/-- Apart answers true where the lists that a book keeps are the call's own, and apart. -/
theorem apart_any {w : World} {bk base n : Nat} {sb ss : Value} {eb es : List Ent} (hb : base ≤ w.heap.size) (hk : BookAt w bk n sb ss) (h5 : KIn w base 5 82 eb mkByte 0 sb) (h7 : KIn w base 74 88 es mkInt8 0 ss) :
    Calls Try.prog 20 #[.pointer (some ⟨bk, 0, none⟩)] w fun e w' => e = .returned (.bool true) ∧ Below base w w' := by
  have F1 := Lib.hid (fillByte_gen hb hk h5)
  have KB0 := Lib.hid hk
  have H7 := Lib.hid h7
  clear hk h5 h7
  go_enter Try.func20, Try.ntmps20
  go_wp2_with fail
  refine F1.out.mono ?_
  rintro e w1 ⟨rfl, f1, k5⟩
  have KB := Lib.hid (KB0.out.frm f1 (by decide))
  have K7 := Lib.hid (H7.out.map (w' := w1) (fun h => own_frm h f1 (by decide)) (fun h => own_frm h f1 (by decide)))
  have K5 := Lib.hid k5
  have B1 := Lib.hid f1.below
  have hb1 : base ≤ w1.heap.size := by have := f1.below.size; omega
  clear f1 k5 F1 KB0 H7
  go_wp2_with fail
  refine (fillInt_nil bk w1 (KB.out.cell 2)).mono ?_
  rintro e w' ⟨rfl, rfl⟩
  have F2 := Lib.hid (fillInt8_gen hb1 KB.out K7.out)
  go_wp2_with fail
  refine F2.out.mono ?_
  rintro e w2 ⟨rfl, f2, k7⟩
  have KB2 := Lib.hid (KB.out.frm f2 (by decide))
  have K52 := Lib.hid (K5.out.map (w' := w2) (fun h => own_frm h f2 (by decide)) (fun h => own_frm h f2 (by decide)))
  have K72 := Lib.hid k7
  have B2 := Lib.hid (B1.out.trans f2.below)
  have hb2 : base ≤ w2.heap.size := by have := f2.below.size; omega
  clear f2 k7 F2 KB K7 K5 B1 hb1
  have KB := KB2
  clear KB2
  go_wp2_with fail
  refine (fillNumber_nil bk w2 (KB.out.cell 4)).mono ?_
  rintro e w' ⟨rfl, rfl⟩
  go_wp2_with fail
  refine (fillInt64_nil bk w2 (KB.out.cell 5)).mono ?_
  rintro e w' ⟨rfl, rfl⟩
  go_wp2_with fail
  refine (fillVector_nil bk w2 (KB.out.cell 6)).mono ?_
  rintro e w' ⟨rfl, rfl⟩
  go_wp2_with fail
  refine (fillRow_nil bk w2 (KB.out.cell 7)).mono ?_
  rintro e w' ⟨rfl, rfl⟩
  go_wp2_with fail
  refine (fillPart_nil bk w2 (KB.out.cell 8)).mono ?_
  rintro e w' ⟨rfl, rfl⟩
  go_wp2_with fail
  refine (fillItem_nil bk w2 (KB.out.cell 9)).mono ?_
  rintro e w' ⟨rfl, rfl⟩
  go_wp2_with fail
  refine (fillHit_nil bk w2 (KB.out.cell 10)).mono ?_
  rintro e w' ⟨rfl, rfl⟩
  go_wp2_with fail
  refine (fillNode_nil bk w2 (KB.out.cell 11)).mono ?_
  rintro e w' ⟨rfl, rfl⟩
  go_wp2_with fail
  refine (fillUpdate_nil bk w2 (KB.out.cell 12)).mono ?_
  rintro e w' ⟨rfl, rfl⟩
  have F3 := Lib.hid (growByte_gen hb2 KB.out K52.out)
  go_wp2_with fail
  refine F3.out.mono ?_
  rintro e w3 ⟨rfl, f3, o5⟩
  have KB3 := Lib.hid (KB.out.frm2 f3 (by decide) (by decide))
  have K73 := Lib.hid (K72.out.map (w' := w3) (fun h => own_frm2 h f3 (by decide) (by decide)) (fun h => own_frm2 h f3 (by decide) (by decide)))
  have O5 := Lib.hid o5
  have B3 := Lib.hid (B2.out.trans f3.below)
  have hb3 : base ≤ w3.heap.size := by have := f3.below.size; omega
  clear f3 o5 F3 KB K52 K72 B2 hb2
  have KB := KB3
  clear KB3
  go_wp2_with fail
  refine (growInt_nil bk w3 (KB.out.cell 2)).mono ?_
  rintro e w' ⟨rfl, rfl⟩
  have F4 := Lib.hid (growInt8_gen hb3 KB.out K73.out)
  go_wp2_with fail
  refine F4.out.mono ?_
  rintro e w4 ⟨rfl, f4, o7⟩
  have KB4 := Lib.hid (KB.out.frm2 f4 (by decide) (by decide))
  have O54 := Lib.hid (O5.out.map (w' := w4) (fun h => own_frm2 h f4 (by decide) (by decide)) (fun h => f4.block _ h.lt (h.other (by decide)) (h.other (by decide))))
  have O7 := Lib.hid o7
  have B4 := Lib.hid (B3.out.trans f4.below)
  have hb4 : base ≤ w4.heap.size := by have := f4.below.size; omega
  clear f4 o7 F4 KB K73 O5 B3 hb3
  have KB := KB4
  clear KB4
  go_wp2_with fail
  refine (growNumber_nil bk w4 (KB.out.cell 4)).mono ?_
  rintro e w' ⟨rfl, rfl⟩
  go_wp2_with fail
  refine (growInt64_nil bk w4 (KB.out.cell 5)).mono ?_
  rintro e w' ⟨rfl, rfl⟩
  go_wp2_with fail
  refine (growVector_nil bk w4 (KB.out.cell 6)).mono ?_
  rintro e w' ⟨rfl, rfl⟩
  go_wp2_with fail
  refine (growRow_nil bk w4 (KB.out.cell 7)).mono ?_
  rintro e w' ⟨rfl, rfl⟩
  go_wp2_with fail
  refine (growPart_nil bk w4 (KB.out.cell 8)).mono ?_
  rintro e w' ⟨rfl, rfl⟩
  go_wp2_with fail
  refine (growItem_nil bk w4 (KB.out.cell 9)).mono ?_
  rintro e w' ⟨rfl, rfl⟩
  go_wp2_with fail
  refine (growHit_nil bk w4 (KB.out.cell 10)).mono ?_
  rintro e w' ⟨rfl, rfl⟩
  go_wp2_with fail
  refine (growNode_nil bk w4 (KB.out.cell 11)).mono ?_
  rintro e w' ⟨rfl, rfl⟩
  go_wp2_with fail
  refine (growUpdate_nil bk w4 (KB.out.cell 12)).mono ?_
  rintro e w' ⟨rfl, rfl⟩
  have L5 := Lib.hid (lookByte_gen KB.out O54.out)
  go_wp2_with fail
  refine L5.out.mono ?_
  rintro e w5 ⟨rfl, b5⟩
  have KB5 := Lib.hid (KB.out.bel b5)
  have O75 := Lib.hid (O7.out.map (w' := w5) (fun h => own_bel h b5) (fun h => b5.block _ h.lt))
  have B5 := Lib.hid (B4.out.trans (b5.mono hb4))
  have hb5 : base ≤ w5.heap.size := by have := b5.size; omega
  clear b5 L5 KB O54 O7 B4 hb4
  have KB := KB5
  clear KB5
  go_wp2_with fail
  refine (lookInt_nil bk w5 (KB.out.cell 2)).mono ?_
  rintro e w' ⟨rfl, rfl⟩
  have L7 := Lib.hid (lookInt8_gen KB.out O75.out)
  go_wp2_with fail
  refine L7.out.mono ?_
  rintro e w6 ⟨rfl, b6⟩
  have KB6 := Lib.hid (KB.out.bel b6)
  have B6 := Lib.hid (B5.out.trans (b6.mono hb5))
  clear b6 L7 KB O75 B5 hb5
  have KB := KB6
  clear KB6
  go_wp2_with fail
  refine (lookNumber_nil bk w6 (KB.out.cell 4)).mono ?_
  rintro e w' ⟨rfl, rfl⟩
  go_wp2_with fail
  refine (lookInt64_nil bk w6 (KB.out.cell 5)).mono ?_
  rintro e w' ⟨rfl, rfl⟩
  go_wp2_with fail
  refine (lookVector_nil bk w6 (KB.out.cell 6)).mono ?_
  rintro e w' ⟨rfl, rfl⟩
  go_wp2_with fail
  refine (lookRow_nil bk w6 (KB.out.cell 7)).mono ?_
  rintro e w' ⟨rfl, rfl⟩
  go_wp2_with fail
  refine (lookPart_nil bk w6 (KB.out.cell 8)).mono ?_
  rintro e w' ⟨rfl, rfl⟩
  go_wp2_with fail
  refine (lookItem_nil bk w6 (KB.out.cell 9)).mono ?_
  rintro e w' ⟨rfl, rfl⟩
  go_wp2_with fail
  refine (lookHit_nil bk w6 (KB.out.cell 10)).mono ?_
  rintro e w' ⟨rfl, rfl⟩
  go_wp2_with fail
  refine (lookNode_nil bk w6 (KB.out.cell 11)).mono ?_
  rintro e w' ⟨rfl, rfl⟩
  go_wp2_with fail
  refine (lookUpdate_nil bk w6 (KB.out.cell 12)).mono ?_
  rintro e w' ⟨rfl, rfl⟩
  go_wp2
  go_ret
  exact ⟨rfl, B6.out⟩
end Go.Proofs.Ytlkkmeeijjaeiaa
