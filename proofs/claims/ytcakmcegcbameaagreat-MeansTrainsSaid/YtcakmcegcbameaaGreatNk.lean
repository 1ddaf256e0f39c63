/- The Book of the statements: a list of vectors, and the vectors themselves. -/
import Derived.Test.YtcakmcegcbameaaGreatNj
import Derived.Test.YtcakmcegcbameaaGreatBa
namespace Go.Proofs.YtcakmcegcbameaaGreat
open Go.RowKit
set_option linter.unusedVariables false
/-- A book that holds vectors and lists of them. -/
structure BV (w : World) (bk base n : Nat) (sv : Nat → Value) (es8 esV : List Bk.Ent) : Prop where
  at_ : Bk.BookAt w bk (n : Nat) sv
  k8 : Bk.KIn w base 75 91 1 es8 Bk.mkInt8 0 (sv 3)
  kv : Bk.KIn w base 54 82 1 esV Bk.mkVector 0 (sv 6)
  z : ∀ j, j ≠ 3 → j ≠ 6 → sv j = .slice none 0 0
/-- Rows of other types than the book's own stay. -/
structure KR (base : Nat) (w w' : World) : Prop where
  below : Below base w w'
  row : ∀ {b2 : Nat} {T : TypeId} {size n : Nat} {v : Value} {xs : List Value}, T ≠ 91 → T ≠ 82 → T ≠ 44 → w.ownsRow b2 T size v n xs → w'.ownsRow b2 T size v n xs
theorem KR.refl (base : Nat) (w : World) : KR base w w := ⟨Below.refl _ _, fun _ _ _ h => h⟩
theorem KR.trans {base : Nat} {a b c : World} (h : KR base a b) (g : KR base b c) : KR base a c := ⟨h.below.trans g.below, fun h1 h2 h3 ho => g.row h1 h2 h3 (h.row h1 h2 h3 ho)⟩
def vblk (x : Vc) : Option Nat := (Value.slice x.1 x.2.2.length x.2.1).ownBlock
theorem keep8_any (bk base n : Nat) (A : Option Addr) (len cap : Nat) (sv : Nat → Value) (es8 esV : List Bk.Ent) (xs : List Value) (w : World) (hn : n < 1000000) (hb : base ≤ w.heap.size) (hbb : base ≤ bk) (hB : BV w bk base n sv es8 esV)
    (hx : w.ownsRow base 75 1 (.slice A len cap) len xs) (hap : ∀ e' ∈ es8, e'.blk = none ∨ e'.blk ≠ (Value.slice A len cap).ownBlock) (hlen : len ≤ 10000000) (hes : es8.length < 1000000) :
    Calls Tryz.prog 29 #[.pointer (some ⟨bk, 0, none⟩), .slice A len cap] w fun e w' => e = .returned (.tuple #[]) ∧ ∃ sv', BV w' bk base (n + 1) sv' (es8 ++ [⟨A, len, cap, n + 1⟩]) esV ∧ KR base w w' := by
  have H := Lib.hid (Bk.keepInt8_any bk base n A len cap sv es8 xs w hn hb hbb hB.at_ hB.k8 hx hap hlen hes)
  have HB := Lib.hid hB
  clear hB hx hap
  go_enter Tryz.func29, Tryz.ntmps29
  go_wp2_with fail
  refine H.out.mono ?_
  rintro e w' ⟨rfl, sv', h1, h2, h3, h4, h5, h6⟩
  have HR : Hid (∃ sv', BV w' bk base (n + 1) sv' (es8 ++ [⟨A, len, cap, n + 1⟩]) esV ∧ KR base w w') := Lib.hid ⟨sv', ⟨h2, h3, by
    rw [h1 6 (by decide)]
    exact HB.out.kv.map (fun h => Bk.own_frm2 h h4 (by decide) (by decide)) (fun h => Bk.own_frm2 h h4 (by decide) (by decide)), fun j hj1 hj2 => (h1 j hj1).trans (HB.out.z j hj1 hj2)⟩,
    ⟨h4.below, fun t1 t2 t3 ho => Bk.own_frm2 ho h4 t1 t3⟩⟩
  clear h1 h2 h3 h4 h5 h6 H HB
  go_wp2
  go_end0
  exact ⟨rfl, HR.out⟩
theorem keepV_any (bk base n : Nat) (A : Option Addr) (len cap : Nat) (sv : Nat → Value) (es8 esV : List Bk.Ent) (xs : List Value) (w : World) (hn : n < 1000000) (hb : base ≤ w.heap.size) (hbb : base ≤ bk) (hB : BV w bk base n sv es8 esV)
    (hx : w.ownsRow base 54 1 (.slice A len cap) len xs) (hap : ∀ e' ∈ esV, e'.blk = none ∨ e'.blk ≠ (Value.slice A len cap).ownBlock) (hlen : len ≤ 10000000) (hes : esV.length < 1000000) :
    Calls Tryz.prog 30 #[.pointer (some ⟨bk, 0, none⟩), .slice A len cap] w fun e w' => e = .returned (.tuple #[]) ∧ ∃ sv', BV w' bk base (n + 1) sv' es8 (esV ++ [⟨A, len, cap, n + 1⟩]) ∧ KR base w w' := by
  refine (Bk.keepVector_any bk base n A len cap sv esV xs w hn hb hbb hB.at_ hB.kv hx hap hlen hes).mono ?_
  rintro e w' ⟨rfl, sv', h1, h2, h3, h4, h5, h6⟩
  exact ⟨rfl, sv', ⟨h2, by
    rw [h1 3 (by decide)]
    exact hB.k8.map (fun h => Bk.own_frm2 h h4 (by decide) (by decide)) (fun h => Bk.own_frm2 h h4 (by decide) (by decide)), h3, fun j hj1 hj2 => (h1 j hj2).trans (hB.z j hj1 hj2)⟩,
    ⟨h4.below, fun t1 t2 t3 ho => Bk.own_frm2 ho h4 t2 t3⟩⟩
/-- What a list of vectors must be for a book to hold it, and the vectors themselves. -/
structure ForBook (w : World) (base : Nat) (A : Option Addr) (c : Nat) (L : List Vc) (es8 esV : List Bk.Ent) : Prop where
  row : w.ownsRow base 54 1 (.slice A L.length c) L.length (cellsV L)
  vec : ∀ x ∈ L, ∃ ys, w.ownsRow base 75 1 (.slice x.1 x.2.2.length x.2.1) x.2.2.length ys
  len : ∀ x ∈ L, x.2.2.length ≤ 10000000
  apart : L.Pairwise fun x y => vblk x = none ∨ vblk x ≠ vblk y
  ap8 : ∀ e' ∈ es8, ∀ x ∈ L, e'.blk = none ∨ e'.blk ≠ vblk x
  apV : ∀ e' ∈ esV, e'.blk = none ∨ e'.blk ≠ (Value.slice A L.length c).ownBlock
theorem pair_at {L : List Vc} {p : Vc → Vc → Prop} (h : L.Pairwise p) {i : Nat} (hi : i < L.length) : ∀ x ∈ L.take i, p x (L[i]) := by
  have h1 := h.sublist (List.take_sublist (i + 1) L)
  rw [List.take_succ_eq_append_getElem hi] at h1
  intro x hx
  exact (List.pairwise_append.1 h1).2.2 x hx _ (List.mem_singleton.2 rfl)
set_option maxRecDepth 100000 in
set_option maxHeartbeats 2000000 in
theorem vectors_any (bk base n : Nat) (A : Option Addr) (c : Nat) (L : List Vc) (m : Nat) (hm : m = L.length) (sv : Nat → Value) (es8 esV : List Bk.Ent) (w : World) (hn : n + L.length < 900000) (hb : base ≤ w.heap.size) (hbb : base ≤ bk) (hB : BV w bk base n sv es8 esV)
    (hF : ForBook w base A c L es8 esV) (hl : L.length ≤ 20000) (h8 : es8.length + L.length < 900000) (hV : esV.length < 900000) :
    Calls Tryz.prog 13 #[.pointer (some ⟨bk, 0, none⟩), .slice A m c] w fun e w' => e = .returned (.tuple #[]) ∧ ∃ sv' es8', BV w' bk base (n + L.length + 1) sv' es8' (esV ++ [⟨A, L.length, c, n + L.length + 1⟩]) ∧ KR base w w' ∧ (∀ e' ∈ es8', e' ∈ es8 ∨ ∃ x ∈ L, e'.blk = vblk x) ∧ es8'.length = es8.length + L.length := by
  subst hm
  have HF := Lib.hid hF
  have HB := Lib.hid hB
  clear hF hB
  go_enter Tryz.func13, Tryz.ntmps13
  go_wp2
  go_loopw [4] (fun i wr => ∃ k : Nat, k ≤ L.length ∧ i = .int .i64 k ∧ ∃ sv' es8', BV wr bk base (n + k) sv' es8' esV ∧ KR base w wr ∧ (∀ e' ∈ es8', e' ∈ es8 ∨ ∃ x ∈ L.take k, e'.blk = vblk x) ∧ es8'.length = es8.length + k) (fun i _ => L.length - (intOf i).toNat)
  case atStart => exact ⟨0, by omega, rfl, sv, es8, HB.out, KR.refl _ _, fun e' he => .inl he, by omega⟩
  case round =>
    clear HB
    obtain ⟨k, hk, rfl, sv1, es1, hB1, hK, hE, hEl⟩ := hrel
    have HB1 := Lib.hid hB1
    have HK := Lib.hid hK
    have HE := Lib.hid hE
    have hsz := hK.below.size
    clear hB1 hK hE
    by_cases hlt : k < L.length
    · have hrow := HK.out.row (by decide) (by decide) (by decide) HF.out.row
      obtain ⟨g, rfl, -⟩ := own_some hrow (by omega)
      have HX := Lib.hid (List.getElem_mem hlt)
      have HP := Lib.hid (pair_at HF.out.apart hlt)
      have HTK := Lib.hid (List.take_succ_eq_append_getElem hlt)
      have q0 : (cellsV L)[k]? = some (.slice (L[k]).1 (L[k]).2.2.length (L[k]).2.1) := by simp [cellsV, hlt]
      have q1 := (hrow.cellAt k (by omega)).trans q0
      obtain ⟨x, ex⟩ : ∃ x, L[k] = x := ⟨_, rfl⟩
      rw [ex] at q1 HX HP HTK
      obtain ⟨ys, hy⟩ := HF.out.vec x HX.out
      have KE := Lib.hid (keep8_any bk base (n + k) x.1 x.2.2.length x.2.1 sv1 es1 esV ys wr (by omega) (by omega) hbb HB1.out (HK.out.row (by decide) (by decide) (by decide) hy) (fun e' he => by
        rcases HE.out e' he with h1 | ⟨y, hy, h1⟩
        · exact HF.out.ap8 e' h1 x HX.out
        · rw [h1]; exact HP.out y hy) (HF.out.len x HX.out) (by omega))
      clear hrow q0 ex hy
      go_wp2_with (go_at_call 29; refine KE.out.mono ?_; rintro e w1 ⟨rfl, sv2, hB2, hK2⟩)
      have HB2 := Lib.hid hB2
      have HK2 := Lib.hid hK2
      clear hB2 hK2
      go_roundw
      case rel => exact ⟨k + 1, by omega, by go_num, sv2, _, by rw [← Nat.add_assoc]; exact HB2.out, HK.out.trans HK2.out, fun e' he => by
        rcases List.mem_append.1 he with h1 | h1
        · rcases HE.out e' h1 with h2 | ⟨y, hy, h2⟩
          · exact .inl h2
          · exact .inr ⟨y, by rw [HTK.out]; exact List.mem_append_left _ hy, h2⟩
        · rw [List.mem_singleton] at h1
          subst h1
          exact .inr ⟨x, by rw [HTK.out]; simp, rfl⟩, by simp; omega⟩
      case measure => simp [intOf]; omega
    · obtain rfl : k = L.length := by omega
      have KE := Lib.hid (keepV_any bk base (n + L.length) A L.length c sv1 es1 esV _ wr (by omega) (by omega) hbb HB1.out (HK.out.row (by decide) (by decide) (by decide) HF.out.row) HF.out.apV (by omega) (by omega))
      go_wp2_with (go_at_call 30; refine KE.out.mono ?_; rintro e w1 ⟨rfl, sv2, hB2, hK2⟩)
      go_end0
      exact ⟨rfl, sv2, es1, hB2, HK.out.trans hK2, fun e' he => by
        have := HE.out e' he
        rw [List.take_length] at this
        exact this, hEl⟩
end Go.Proofs.YtcakmcegcbameaaGreat
