/- The walk of DrawsShuffles. -/
import Derived.Test.YtmlfcnjfaonaiaaGreatEb
import Derived.Test.YtmlfcnjfaonaiaaGreatBa
namespace Go.Proofs.YtmlfcnjfaonaiaaGreat
open Go.RowKit Go.Shelf
set_option linter.unusedVariables false
/-- What a call answers that tells a list, a number and an errno. -/
def Ans (L : List Nat) (T E : Int) (w : World) (e : Ending) (w' : World) : Prop :=
  ∃ A c, e = .returned (.tuple #[.slice A L.length c, .int .u64 T, .int .i64 E]) ∧ w'.ownsRow w.heap.size 3 1 (.slice A L.length c) L.length ((ints L).map (Value.int .i64)) ∧ Below w.heap.size w w'
theorem ans_of_own {L : List Nat} {T E : Int} {w w' : World} {v : Value} {n : Nat} (h : w'.ownsRow w.heap.size 3 1 v n ((ints L).map (Value.int .i64))) (hn : L.length = n) (hb : Below w.heap.size w w') : Ans L T E w (.returned (.tuple #[v, .int .u64 T, .int .i64 E])) w' := by
  obtain ⟨A, m, c, rfl⟩ := own_form h
  obtain rfl := own_len h
  subst hn
  exact ⟨A, c, rfl, h, hb⟩
theorem ans_none {w w' : World} (hb : Below w.heap.size w w') : Ans [] 0 1 w (.returned (.tuple #[.slice none 0 0, .int .u64 0, .int .i64 1])) w' :=
  ⟨none, 0, rfl, own_nil_row _ _ _, hb⟩
theorem whole_own {w : World} {base g : Nat} {l : List Nat} (h : Whole w g 3 (rowI l)) (hb : base ≤ g) (hl : l.length ≤ 2048) : w.ownsRow base 3 1 (.slice (some ⟨g, 0, none⟩) l.length l.length) l.length ((ints l).map (Value.int .i64)) :=
  ⟨by simp [ints], .inr ⟨g, l.length, rowI l, rfl, hb, h, Nat.le_refl _, Nat.le_trans hl (by decide), by rw [rowI_size, Nat.mul_one], by rw [rowI_ints, Nat.mul_one]; exact List.take_of_length_le (by simp [ints])⟩⟩
theorem shuf_both (s : Nat) (n : Int) (hs : s < 18446744073709551616) : ∃ L T E, L.length ≤ 2048 ∧ (∀ w, Calls Tryz.prog 4 #[.int .u64 s, .int .i64 n] w (Ans L T E w)) ∧ ∀ w, Calls Tryz.prog 6 #[.int .u64 s, .int .i64 n] w (Ans L T E w) := by
  by_cases h : 0 ≤ n ∧ n ≤ 2048
  · obtain ⟨m, rfl⟩ := Int.eq_ofNat_of_zero_le h.1
    have hm : m ≤ 2048 := by omega
    refine ⟨shufL s m, ((shufS s m : Nat) : Int), 0, by rw [shufL_len]; exact hm, fun w => (callsIn_wide.1 (shuffle_yes s m hm w)).mono ?_, fun w => (rShuffle_yes s m hs hm w).mono ?_⟩
    · rintro e w' ⟨g, rfl, hg, hw, hb⟩
      have ho := whole_own hw hg (by rw [shufL_len]; exact hm)
      rw [shufL_len] at ho
      exact ans_of_own ho (shufL_len s m) hb
    · rintro e w' ⟨v, rfl, ho, hb⟩
      exact ans_of_own ho (shufL_len s m) hb
  · refine ⟨[], 0, 1, by simp, fun w => (shuffle_no s n h w).mono ?_, fun w => (rShuffle_no s n h w).mono ?_⟩
    · rintro e w' ⟨rfl, hb⟩
      exact ans_none hb
    · rintro e w' ⟨rfl, rfl⟩
      exact ans_none (Below.refl _ _)
theorem pick_both (s : Nat) (n k : Int) (hs : s < 18446744073709551616) : ∃ L T E, L.length ≤ 2048 ∧ (∀ w, Calls Tryz.prog 5 #[.int .u64 s, .int .i64 n, .int .i64 k] w (Ans L T E w)) ∧ ∀ w, Calls Tryz.prog 7 #[.int .u64 s, .int .i64 n, .int .i64 k] w (Ans L T E w) := by
  by_cases h : 0 ≤ k ∧ k ≤ n ∧ n ≤ 2048
  · obtain ⟨m, rfl⟩ := Int.eq_ofNat_of_zero_le (show 0 ≤ n by omega)
    obtain ⟨q, rfl⟩ := Int.eq_ofNat_of_zero_le h.1
    have hm : m ≤ 2048 := by omega
    have hq : q ≤ m := by omega
    refine ⟨pkL s m q, ((shufS s m : Nat) : Int), 0, by rw [pkL_len hq]; omega, fun w => (pick_yes s m q hm hq w).mono ?_, fun w => (rPick_yes s m q hs hm hq w).mono ?_⟩
    · rintro e w' ⟨v, rfl, hv, ho, hb⟩
      exact ans_of_own ho (pkL_len hq) hb
    · rintro e w' ⟨v, rfl, ho, hb⟩
      exact ans_of_own ho (pkL_len hq) hb
  · refine ⟨[], 0, 1, by simp, fun w => (pick_no s n k h w).mono ?_, fun w => (rPick_no s n k h w).mono ?_⟩
    · rintro e w' ⟨rfl, hb⟩
      exact ans_none hb
    · rintro e w' ⟨rfl, rfl⟩
      exact ans_none (Below.refl _ _)
/-- A list of the call's own, whose block lies from lo up to hi. -/
structure Kp (base : Nat) (W : World) (A : Option Addr) (c : Nat) (L : List Nat) (lo hi : Nat) : Prop where
  own : W.ownsRow base 3 1 (.slice A L.length c) L.length ((ints L).map (Value.int .i64))
  rng : ∀ g, (Value.slice A L.length c).ownBlock = some g → lo ≤ g ∧ g < hi
theorem Kp.new {base : Nat} {w W : World} {A : Option Addr} {c : Nat} {L : List Nat} (h : W.ownsRow w.heap.size 3 1 (.slice A L.length c) L.length ((ints L).map (Value.int .i64))) (hb : base ≤ w.heap.size) : Kp base W A c L w.heap.size W.heap.size :=
  ⟨own_base h hb, fun g hg => h.lt g hg⟩
theorem Kp.step {base : Nat} {W W' : World} {A : Option Addr} {c : Nat} {L : List Nat} {lo hi : Nat} (h : Kp base W A c L lo hi) (hb : Below W.heap.size W W') : Kp base W' A c L lo hi := ⟨own_below h.own hb, h.rng⟩
theorem Kp.apart {base : Nat} {W : World} {A A' : Option Addr} {c c' : Nat} {L L' : List Nat} {lo hi lo' hi' : Nat} (h : Kp base W A c L lo hi) (k : Kp base W A' c' L' lo' hi') (hh : hi ≤ lo') : (Value.slice A L.length c).ownBlock = none ∨ (Value.slice A L.length c).ownBlock ≠ (Value.slice A' L'.length c').ownBlock := by
  cases hx : (Value.slice A L.length c).ownBlock with
  | none => exact .inl rfl
  | some g => exact .inr (fun e => by have := h.rng g hx; have := k.rng g e.symm; omega)
theorem Kp.rd {base : Nat} {W : World} {A : Option Addr} {c : Nat} {L : List Nat} {lo hi : Nat} (h : Kp base W A c L lo hi) : Rd .i64 W W.heap.size A (ints L) := by
  obtain ⟨A', c', hv, _, _, hrd, _⟩ := own_slice h.own
  injection hv with q1 q2 q3
  subst q1
  exact hrd
/-- Four lists of the call's own, apart. -/
structure Four (w W : World) (A B C D : Option Addr) (a b c d : Nat) (L M : List Nat) : Prop where
  oa : W.ownsRow w.heap.size 3 1 (.slice A L.length a) L.length ((ints L).map (Value.int .i64))
  ob : W.ownsRow w.heap.size 3 1 (.slice B L.length b) L.length ((ints L).map (Value.int .i64))
  oc : W.ownsRow w.heap.size 3 1 (.slice C M.length c) M.length ((ints M).map (Value.int .i64))
  od : W.ownsRow w.heap.size 3 1 (.slice D M.length d) M.length ((ints M).map (Value.int .i64))
  ab : (Value.slice A L.length a).ownBlock = none ∨ (Value.slice A L.length a).ownBlock ≠ (Value.slice B L.length b).ownBlock
  ac : (Value.slice A L.length a).ownBlock = none ∨ (Value.slice A L.length a).ownBlock ≠ (Value.slice C M.length c).ownBlock
  ad : (Value.slice A L.length a).ownBlock = none ∨ (Value.slice A L.length a).ownBlock ≠ (Value.slice D M.length d).ownBlock
  bc : (Value.slice B L.length b).ownBlock = none ∨ (Value.slice B L.length b).ownBlock ≠ (Value.slice C M.length c).ownBlock
  bd : (Value.slice B L.length b).ownBlock = none ∨ (Value.slice B L.length b).ownBlock ≠ (Value.slice D M.length d).ownBlock
  cd : (Value.slice C M.length c).ownBlock = none ∨ (Value.slice C M.length c).ownBlock ≠ (Value.slice D M.length d).ownBlock
  bel : Below w.heap.size w W
theorem Four.step {w W W' : World} {A B C D : Option Addr} {a b c d : Nat} {L M : List Nat} (h : Four w W A B C D a b c d L M) (hb : Below W.heap.size W W') : Four w W' A B C D a b c d L M :=
  ⟨own_below h.oa hb, own_below h.ob hb, own_below h.oc hb, own_below h.od hb, h.ab, h.ac, h.ad, h.bc, h.bd, h.cd, h.bel.trans (hb.mono h.bel.size)⟩
theorem kept_ints (bk base n : Nat) (A : Option Addr) (len cap : Nat) (sv : Nat → Value) (es : List Bk.Ent) (xs : List Value) (w : World) (hn : n < 1000000) (hb : base ≤ w.heap.size) (hbb : base ≤ bk) (hk : Bk.BookAt w bk n sv)
    (hK : Bk.KIn w base 3 66 1 es Bk.mkInt 0 (sv 2)) (hx : w.ownsRow base 3 1 (.slice A len cap) len xs) (hap : ∀ e' ∈ es, e'.blk = none ∨ e'.blk ≠ (Value.slice A len cap).ownBlock) (hlen : len ≤ 10000000) (hes : es.length < 1000000) :
    Calls Tryz.prog 9 #[.pointer (some ⟨bk, 0, none⟩), .slice A len cap] w (Bk.Kept 2 66 3 1 Bk.mkInt w bk base n sv (es ++ [⟨A, len, cap, n + 1⟩])) := by
  have H := Lib.hid (Bk.keepInt_any bk base n A len cap sv es xs w hn hb hbb hk hK hx hap hlen hes)
  clear hk hK hx hap
  go_enter Tryz.func9, Tryz.ntmps9
  go_wp2_with fail
  refine H.out.mono ?_
  rintro e w' ⟨rfl, h⟩
  go_wp2
  go_end0
  exact ⟨rfl, h⟩
def svNil : Nat → Value := fun _ => .slice none 0 0
def newBook : Obj := .cells #[.int .i64 0, .slice none 0 0, .slice none 0 0, .slice none 0 0, .slice none 0 0, .slice none 0 0, .slice none 0 0, .slice none 0 0, .slice none 0 0, .slice none 0 0, .slice none 0 0, .slice none 0 0, .slice none 0 0] 42
theorem book_new (w : World) : Bk.BookAt (w.alloc newBook) w.heap.size ((0 : Nat) : Int) svNil := heap_alloc_new w _
theorem same_at (L : List Nat) (A B : Option Addr) (c d : Nat) (w : World) (D D' : Nat) (hx : Rd .i64 w D A (ints L)) (hy : Rd .i64 w D' B (ints L)) (hl : L.length ≤ 2048) (q : Nat) :
    Calls Tryz.prog 8 #[.slice A L.length c, .slice B L.length d] (w.drewN q) fun e w' => e = .returned (.bool true) ∧ ∃ nq, w' = w.drewN nq := by
  have h := sameInts_any A B c d (ints L) (w.drewN q) (max D D') ((hx.below (below_drewN (Below.refl D w) q)).more (by omega)) ((hy.below (below_drewN (Below.refl D' w) q)).more (by omega)) (by rw [ints_len]; omega)
  rw [ints_len] at h
  refine h.mono ?_
  rintro e w' ⟨h1, nq, rfl⟩
  exact ⟨h1, q + nq, World.drewN_drewN ..⟩
set_option maxRecDepth 100000 in
set_option maxHeartbeats 4000000 in
theorem drawsShuffles_yes (s : Nat) (n k : Int) (hs : s < 18446744073709551616) (w : World) : Calls Tryz.prog 3 #[.int .u64 s, .int .i64 n, .int .i64 k] w fun e w' => e = .returned (.bool true) ∧ Below w.heap.size w w' := by
  obtain ⟨L, T, E, hL0, CA0, CX0⟩ := shuf_both s n hs
  obtain ⟨M, U, F, hM0, CC0, CY0⟩ := pick_both s n k hs
  have hL := Lib.hid hL0
  have hM := Lib.hid hM0
  have CA := Lib.hid CA0
  have CX := Lib.hid CX0
  have CC := Lib.hid CC0
  have CY := Lib.hid CY0
  clear hL0 hM0 CA0 CX0 CC0 CY0 hs
  have eT : (T != T) = false := by simp
  have eU : (U != U) = false := by simp
  have eE : (E != E) = false := by simp
  have eF : (F != F) = false := by simp
  go_enter Tryz.func3, Tryz.ntmps3
  go_wp2_with fail
  refine (CA.out _).mono ?_
  rintro e w1 ⟨A, a, rfl, oa, ba⟩
  have s1 := ba.size
  have KA1 := Lib.hid (Kp.new oa (Nat.le_refl _))
  have BA1 := Lib.hid ba
  clear oa ba
  dsimp only
  go_wp2_with fail
  refine (CA.out _).mono ?_
  rintro e w2 ⟨B, b, rfl, ob, bb⟩
  have s2 := bb.size
  have KA2 := Lib.hid (KA1.out.step bb)
  have KB2 := Lib.hid (Kp.new ob s1)
  have BA2 := Lib.hid (BA1.out.trans (bb.mono s1))
  clear ob bb KA1 BA1
  dsimp only
  go_wp2_with fail
  refine (CC.out _).mono ?_
  rintro e w3 ⟨C, c, rfl, oc, bc⟩
  have s3 := bc.size
  have KA3 := Lib.hid (KA2.out.step bc)
  have KB3 := Lib.hid (KB2.out.step bc)
  have KC3 := Lib.hid (Kp.new oc (Nat.le_trans s1 s2))
  have BA3 := Lib.hid (BA2.out.trans (bc.mono (Nat.le_trans s1 s2)))
  clear oc bc KA2 KB2 BA2
  dsimp only
  go_wp2_with fail
  refine (CC.out _).mono ?_
  rintro e w4 ⟨D, d, rfl, od, bd⟩
  have s4 := bd.size
  have KA4 := Lib.hid (KA3.out.step bd)
  have KB4 := Lib.hid (KB3.out.step bd)
  have KC4 := Lib.hid (KC3.out.step bd)
  have KD4 := Lib.hid (Kp.new od (Nat.le_trans (Nat.le_trans s1 s2) s3))
  have BA4 := Lib.hid (BA3.out.trans (bd.mono (Nat.le_trans (Nat.le_trans s1 s2) s3)))
  have HF := Lib.hid (Four.mk KA4.out.own KB4.out.own KC4.out.own KD4.out.own (KA4.out.apart KB4.out (Nat.le_refl _)) (KA4.out.apart KC4.out s2) (KA4.out.apart KD4.out (Nat.le_trans s2 s3)) (KB4.out.apart KC4.out (Nat.le_refl _)) (KB4.out.apart KD4.out s3) (KC4.out.apart KD4.out (Nat.le_refl _)) BA4.out)
  have RA := Lib.hid KA4.out.rd
  have RC := Lib.hid KC4.out.rd
  clear od bd KA3 KB3 KC3 BA3 KA4 KB4 KC4 KD4 BA4 s1 s2 s3 s4
  dsimp only
  go_wp2_with fail
  refine (CX.out _).mono ?_
  rintro e w5 ⟨X, x, rfl, ox, bx⟩
  have HF5 := Lib.hid (HF.out.step bx)
  have RA5 := Lib.hid (RA.out.below bx)
  have RC5 := Lib.hid (RC.out.below bx)
  have RX5 := Lib.hid (Kp.new ox (Nat.le_refl _)).rd
  have s5 := bx.size
  clear ox bx HF RA RC
  dsimp only
  go_wp2_with fail
  refine (CY.out _).mono ?_
  rintro e w6 ⟨Y, y, rfl, oy, byy⟩
  have HF6 := Lib.hid (HF5.out.step byy)
  have SA := Lib.hid (fun q => same_at L A X a x w6 _ _ (RA5.out.below (byy.mono s5)) (RX5.out.below byy) hL.out q)
  have SC := Lib.hid (fun q => same_at M C Y c y w6 _ _ (RC5.out.below (byy.mono s5)) (Kp.new oy (Nat.le_refl _)).rd hM.out q)
  have SA0 : Calls Tryz.prog 8 #[.slice A L.length a, .slice X L.length x] w6 (fun e w' => e = .returned (.bool true) ∧ ∃ nq, w' = w6.drewN nq) := SA.out 0
  have SB := Lib.hid SA0
  clear oy byy HF5 RA5 RC5 RX5 s5 CA CX CC CY SA SA0
  dsimp only
  go_wp2_with (first
    | (go_at_call 8; (with_reducible refine SB.out.mono ?_); rintro e w7 ⟨rfl, nq, rfl⟩)
    | (go_at_call 8; (with_reducible refine (SC.out _).mono ?_); rintro e w8 ⟨rfl, hw8⟩; have HW8 := Lib.hid hw8; clear hw8))
  have HF8 := Lib.hid (show Four w w8 A B C D a b c d L M from by
    obtain ⟨mq, rfl⟩ := HW8.out
    exact HF6.out.step (below_drewN (Below.refl _ _) mq))
  clear SB SC HF6 HW8
  have hb0 := book_new w8
  have hbk : w.heap.size ≤ w8.heap.size := HF8.out.bel.size
  have HF9 := Lib.hid (HF8.out.step ((Below.refl _ w8).alloc (Nat.le_refl _) newBook))
  obtain ⟨w9, ew⟩ : ∃ w9, w8.alloc newBook = w9 := ⟨_, rfl⟩
  obtain ⟨bk, ebk⟩ : ∃ bk, w8.heap.size = bk := ⟨_, rfl⟩
  have e9 : w8.alloc (Obj.cells #[Value.int IntKind.i64 0, Value.slice none 0 0, Value.slice none 0 0, Value.slice none 0 0, Value.slice none 0 0, Value.slice none 0 0, Value.slice none 0 0, Value.slice none 0 0, Value.slice none 0 0, Value.slice none 0 0, Value.slice none 0 0, Value.slice none 0 0, Value.slice none 0 0] 42) = w9 := ew
  rw [e9, ebk]
  rw [ew, ebk] at hb0
  rw [ew] at HF9
  rw [ebk] at hbk
  clear e9 ew ebk HF8
  have K0 : Bk.KIn w9 w.heap.size 3 66 1 [] Bk.mkInt 0 (svNil 2) := Bk.KIn.nil _ _ _ _ _ _ _
  have hL10 : L.length ≤ 10000000 := by have := hL.out; omega
  have hM10 : M.length ≤ 10000000 := by have := hM.out; omega
  have z9 := HF9.out.bel.size
  have HK1 := Lib.hid (kept_ints bk w.heap.size 0 A L.length a svNil [] _ w9 (by omega) z9 hbk hb0 K0 HF9.out.oa (fun e' he => by simp at he) hL10 (by simp))
  clear K0 hb0
  refine HK1.out.mono ?_
  rintro e wa ⟨rfl, sv1, hsv1, k1, K1, f1, loc1, fr1⟩
  have OB := Bk.own_frm2 HF9.out.ob f1 (by decide) (by decide)
  have OC := Lib.hid (Bk.own_frm2 HF9.out.oc f1 (by decide) (by decide))
  have OD := Lib.hid (Bk.own_frm2 HF9.out.od f1 (by decide) (by decide))
  have za := Nat.le_trans z9 f1.below.size
  have HK2 := Lib.hid (kept_ints bk w.heap.size 1 B L.length b sv1 _ _ wa (by omega) za hbk k1 K1 OB (fun e' he => by
    simp only [List.nil_append, List.mem_singleton] at he
    subst he
    exact HF9.out.ab) hL10 (by simp))
  have BA := Lib.hid (HF9.out.bel.trans f1.below)
  have SV1 := Lib.hid hsv1
  clear HK1 f1 hsv1 k1 K1 loc1 fr1 OB
  dsimp only
  go_wp2_with fail
  refine HK2.out.mono ?_
  rintro e wb ⟨rfl, sv2, hsv2, k2, K2, f2, loc2, fr2⟩
  have OC2 := Bk.own_frm2 OC.out f2 (by decide) (by decide)
  have OD2 := Lib.hid (Bk.own_frm2 OD.out f2 (by decide) (by decide))
  have zb := Nat.le_trans za f2.below.size
  have HK3 := Lib.hid (kept_ints bk w.heap.size 2 C M.length c sv2 _ _ wb (by omega) zb hbk k2 K2 OC2 (fun e' he => by
    simp only [List.nil_append, List.mem_append, List.mem_singleton] at he
    rcases he with rfl | rfl
    · exact HF9.out.ac
    · exact HF9.out.bc) hM10 (by simp))
  have BB := Lib.hid (BA.out.trans f2.below)
  have SV2 := Lib.hid (show ∀ j, j ≠ 2 → sv2 j = svNil j from fun j hj => (hsv2 j hj).trans (SV1.out j hj))
  clear HK2 f2 hsv2 k2 K2 loc2 fr2 OC OD OC2 SV1 BA
  dsimp only
  go_wp2_with fail
  refine HK3.out.mono ?_
  rintro e wc ⟨rfl, sv3, hsv3, k3, K3, f3, loc3, fr3⟩
  have OD3 := Bk.own_frm2 OD2.out f3 (by decide) (by decide)
  have zc := Nat.le_trans zb f3.below.size
  have HK4 := Lib.hid (kept_ints bk w.heap.size 3 D M.length d sv3 _ _ wc (by omega) zc hbk k3 K3 OD3 (fun e' he => by
    simp only [List.nil_append, List.mem_append, List.mem_singleton] at he
    rcases he with (rfl | rfl) | rfl
    · exact HF9.out.ad
    · exact HF9.out.bd
    · exact HF9.out.cd) hM10 (by simp))
  have BC := Lib.hid (BB.out.trans f3.below)
  have SV3 := Lib.hid (show ∀ j, j ≠ 2 → sv3 j = svNil j from fun j hj => (hsv3 j hj).trans (SV2.out j hj))
  clear HK3 f3 hsv3 k3 K3 loc3 fr3 OD2 OD3 SV2 BB
  dsimp only
  go_wp2_with fail
  refine HK4.out.mono ?_
  rintro e wd ⟨rfl, sv4, hsv4, k4, K4, f4, loc4, fr4⟩
  have SV : ∀ j, j ≠ 2 → sv4 j = svNil j := fun j hj => (hsv4 j hj).trans (SV3.out j hj)
  have zd := Nat.le_trans zc f4.below.size
  have AP := Lib.hid (Bk.apart_any zd k4 K4 (SV 1 (by decide)) (SV 3 (by decide)) (SV 4 (by decide)) (SV 5 (by decide)) (SV 6 (by decide)) (SV 7 (by decide)) (SV 8 (by decide)) (SV 9 (by decide)) (SV 10 (by decide)) (SV 11 (by decide)) (SV 12 (by decide)))
  have BD := Lib.hid (BC.out.trans f4.below)
  clear HK4 f4 hsv4 k4 K4 loc4 fr4 SV SV3 BC
  dsimp only
  go_wp2_with fail
  refine AP.out.mono ?_
  rintro e we ⟨rfl, b9⟩
  have BE := Lib.hid (BD.out.trans b9)
  clear AP BD b9
  dsimp only
  go_wp2
  go_ret
  exact ⟨rfl, BE.out⟩
end Go.Proofs.YtmlfcnjfaonaiaaGreat
