/- The Book of the statements: a list of vectors, a list of lists of numbers, and what they hold. -/
import Derived.Test.YthbimjkcpmffcaaQa
namespace Go.Proofs.Ythbimjkcpmffcaa
open Go.RowKit
set_option linter.unusedVariables false
theorem bqBytes_any (bk base n : Nat) (A : Option Addr) (len cap : Nat) (es : Nat → List Bk.Ent) (xs : List Value) (w : World) (hn : n < 1000000) (hb : base ≤ w.heap.size) (hbb : base ≤ bk) (hB : BQ w bk base n es)
    (hx : w.ownsRow base 5 1 (.slice A len cap) len xs) (hap : ∀ e' ∈ es 1, e'.blk = none ∨ e'.blk ≠ (Value.slice A len cap).ownBlock) (hlen : len ≤ 10000000) (hes : (es 1).length < 1000000) :
    Calls Try.prog 21 #[.pointer (some ⟨bk, 0, none⟩), .slice A len cap] w fun e w' => e = .returned (.tuple #[]) ∧ BQ w' bk base (n + 1) (upd es 1 ⟨A, len, cap, n + 1⟩) ∧ KQ base w w' := by
  have H := Lib.hid (bqByte_any bk base n A len cap es xs w hn hb hbb hB hx hap hlen hes)
  clear hB hx hap
  go_enter Try.func21, Try.ntmps21
  go_wp2_with fail
  refine H.out.mono ?_
  rintro e w' ⟨rfl, h⟩
  have HR := Lib.hid h
  clear h H
  go_wp2
  go_end0
  exact ⟨rfl, HR.out⟩
theorem bqInt8s_any (bk base n : Nat) (A : Option Addr) (len cap : Nat) (es : Nat → List Bk.Ent) (xs : List Value) (w : World) (hn : n < 1000000) (hb : base ≤ w.heap.size) (hbb : base ≤ bk) (hB : BQ w bk base n es)
    (hx : w.ownsRow base 79 1 (.slice A len cap) len xs) (hap : ∀ e' ∈ es 3, e'.blk = none ∨ e'.blk ≠ (Value.slice A len cap).ownBlock) (hlen : len ≤ 10000000) (hes : (es 3).length < 1000000) :
    Calls Try.prog 22 #[.pointer (some ⟨bk, 0, none⟩), .slice A len cap] w fun e w' => e = .returned (.tuple #[]) ∧ BQ w' bk base (n + 1) (upd es 3 ⟨A, len, cap, n + 1⟩) ∧ KQ base w w' := by
  have H := Lib.hid (bqInt8_any bk base n A len cap es xs w hn hb hbb hB hx hap hlen hes)
  clear hB hx hap
  go_enter Try.func22, Try.ntmps22
  go_wp2_with fail
  refine H.out.mono ?_
  rintro e w' ⟨rfl, h⟩
  have HR := Lib.hid h
  clear h H
  go_wp2
  go_end0
  exact ⟨rfl, HR.out⟩
/-- What a list of lists must be for a book to hold it, and the lists themselves: T the lists' type, t the numbers'. -/
structure ForQ (w : World) (base : Nat) (T t : TypeId) (A : Option Addr) (c : Nat) (L : List Vc) (es8 esV : List Bk.Ent) : Prop where
  row : w.ownsRow base T 1 (.slice A L.length c) L.length (cellsV L)
  vec : ∀ x ∈ L, ∃ ys, w.ownsRow base t 1 (.slice x.1 x.2.2.length x.2.1) x.2.2.length ys
  len : ∀ x ∈ L, x.2.2.length ≤ 10000000
  apart : L.Pairwise fun x y => vb x = none ∨ vb x ≠ vb y
  ap8 : ∀ e' ∈ es8, ∀ x ∈ L, e'.blk = none ∨ e'.blk ≠ vb x
  apV : ∀ e' ∈ esV, e'.blk = none ∨ e'.blk ≠ (Value.slice A L.length c).ownBlock
theorem pair_atq {α : Type} {L : List α} {p : α → α → Prop} (h : L.Pairwise p) {i : Nat} (hi : i < L.length) : ∀ x ∈ L.take i, p x (L[i]) := by
  have h1 := h.sublist (List.take_sublist (i + 1) L)
  rw [List.take_succ_eq_append_getElem hi] at h1
  intro x hx
  exact (List.pairwise_append.1 h1).2.2 x hx _ (List.mem_singleton.2 rfl)
set_option maxRecDepth 100000 in
set_option maxHeartbeats 2000000 in
theorem bqVectors_any (bk base n : Nat) (A : Option Addr) (c : Nat) (L : List Vc) (m : Nat) (hm : m = L.length) (es : Nat → List Bk.Ent) (w : World) (hn : n + L.length < 900000) (hb : base ≤ w.heap.size) (hbb : base ≤ bk) (hB : BQ w bk base n es)
    (hF : ForQ w base 30 79 A c L (es 3) (es 6)) (hl : L.length ≤ 20000) (h8 : (es 3).length + L.length < 900000) (hV : (es 6).length < 900000) :
    Calls Try.prog 43 #[.pointer (some ⟨bk, 0, none⟩), .slice A m c] w fun e w' => e = .returned (.tuple #[]) ∧ ∃ es', BQ w' bk base (n + L.length + 1) es' ∧ KQ base w w' ∧ (∀ e' ∈ es' 3, e' ∈ es 3 ∨ ∃ x ∈ L, e'.blk = vb x) ∧ (es' 3).length = (es 3).length + L.length ∧
      es' 6 = es 6 ++ [⟨A, L.length, c, n + L.length + 1⟩] ∧ ∀ j, j ≠ 3 → j ≠ 6 → es' j = es j := by
  subst hm
  have HF := Lib.hid hF
  have HB := Lib.hid hB
  clear hF hB
  go_enter Try.func43, Try.ntmps43
  go_wp2
  go_loopw [4] (fun i wr => ∃ k : Nat, k ≤ L.length ∧ i = .int .i64 k ∧ ∃ es', BQ wr bk base (n + k) es' ∧ KQ base w wr ∧ (∀ e' ∈ es' 3, e' ∈ es 3 ∨ ∃ x ∈ L.take k, e'.blk = vb x) ∧ (es' 3).length = (es 3).length + k ∧ ∀ j, j ≠ 3 → es' j = es j) (fun i _ => L.length - (intOf i).toNat)
  case atStart => exact ⟨0, by omega, rfl, es, HB.out, KQ.refl _ _, fun e' he => .inl he, by omega, fun _ _ => rfl⟩
  case round =>
    clear HB
    obtain ⟨k, hk, rfl, es1, hB1, hK, hE, hEl, hEo⟩ := hrel
    have HB1 := Lib.hid hB1
    have HK := Lib.hid hK
    have HE := Lib.hid hE
    have HO := Lib.hid hEo
    have HL := Lib.hid hEl
    have hsz := hK.below.size
    clear hB1 hK hE hEo hEl
    by_cases hlt : k < L.length
    · have hrow := HK.out.rv HF.out.row
      obtain ⟨g, rfl, -⟩ := own_some hrow (by omega)
      have HX := Lib.hid (List.getElem_mem hlt)
      have HP := Lib.hid (pair_atq HF.out.apart hlt)
      have HTK := Lib.hid (List.take_succ_eq_append_getElem hlt)
      have q0 : (cellsV L)[k]? = some (.slice (L[k]).1 (L[k]).2.2.length (L[k]).2.1) := by simp [cellsV, hlt]
      have q1 := (hrow.cellAt k (by omega)).trans q0
      obtain ⟨x, ex⟩ : ∃ x, L[k] = x := ⟨_, rfl⟩
      rw [ex] at q1 HX HP HTK
      obtain ⟨ys, hy⟩ := HF.out.vec x HX.out
      have KE := Lib.hid (bqInt8s_any bk base (n + k) x.1 x.2.2.length x.2.1 es1 ys wr (by omega) (by omega) hbb HB1.out (HK.out.r8 hy) (fun e' he => by
        rcases HE.out e' he with h1 | ⟨y, hy, h1⟩
        · exact HF.out.ap8 e' h1 x HX.out
        · rw [h1]; exact HP.out y hy) (HF.out.len x HX.out) (by have := HL.out; omega))
      clear hrow q0 ex hy
      go_wp2_with (go_at_call 22; refine KE.out.mono ?_; rintro e w1 ⟨rfl, hB2, hK2⟩)
      have HB2 := Lib.hid hB2
      have HK2 := Lib.hid hK2
      clear hB2 hK2
      go_roundw
      case rel => exact ⟨k + 1, by omega, by go_num, upd es1 3 ⟨x.1, x.2.2.length, x.2.1, n + k + 1⟩, by rw [← Nat.add_assoc]; exact HB2.out, HK.out.trans HK2.out, fun e' he => by
        rw [upd_same] at he
        rcases List.mem_append.1 he with h1 | h1
        · rcases HE.out e' h1 with h2 | ⟨y, hy, h2⟩
          · exact .inl h2
          · exact .inr ⟨y, by rw [HTK.out]; exact List.mem_append_left _ hy, h2⟩
        · rw [List.mem_singleton] at h1
          subst h1
          exact .inr ⟨x, by rw [HTK.out]; simp, rfl⟩, by have := HL.out; rw [upd_same, List.length_append, List.length_singleton]; omega, fun j hj => (upd_other _ _ _ hj).trans (HO.out j hj)⟩
      case measure => simp [intOf]; omega
    · obtain rfl : k = L.length := by omega
      have KE := Lib.hid (bqVector_any bk base (n + L.length) A L.length c es1 _ wr (by omega) (by omega) hbb HB1.out (HK.out.rv HF.out.row) (by rw [HO.out 6 (by decide)]; exact HF.out.apV) (by omega) (by rw [HO.out 6 (by decide)]; omega))
      go_wp2_with (go_at_call 105; refine KE.out.mono ?_; rintro e w1 ⟨rfl, hB2, hK2⟩)
      go_end0
      exact ⟨rfl, _, hB2, HK.out.trans hK2, fun e' he => by
        rw [upd_other _ _ _ (by decide)] at he
        have := HE.out e' he
        rw [List.take_length] at this
        exact this, by rw [upd_other _ _ _ (by decide)]; exact HL.out, by rw [upd_same, HO.out 6 (by decide)], fun j h3 h6 => (upd_other _ _ _ h6).trans (HO.out j h3)⟩
end Go.Proofs.Ythbimjkcpmffcaa
