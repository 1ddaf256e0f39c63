/- The walk of the statement NumsPuts. -/
import Derived.Test.YtlkkmeeijjaeiaaN
import Derived.Test.YtlkkmeeijjaeiaaY
namespace Go.Proofs.Ytlkkmeeijjaeiaa
open Go.RowKit
set_option linter.unusedVariables false
set_option maxHeartbeats 400000 in
theorem refPut_no (N : Int) (h : 4611686018427387903 < N) (w : World) :
    Calls Try.prog 13 #[.int .u64 N] w fun e w' => e = .returned (.tuple #[.slice none 0 0, .int .i64 1]) ∧ w = w' := by
  go_enter Try.func13, Try.ntmps13
  go_wp2
  go_ret2
  exact ⟨rfl, rfl⟩
set_option maxRecDepth 100000 in
set_option maxHeartbeats 1000000 in
theorem refPut_yes (N : Nat) (h : N ≤ 4611686018427387903) (w : World) : Calls Try.prog 13 #[.int .u64 N] w (PutYes w N) := by
  obtain ⟨i0, hi, hz0, hz1, hz2⟩ := info_parts Try.info5p
  have h9 := putL_len9 N h
  have hI : ¬ 4611686018427387903 < (N : Int) := by omega
  have hI0 : 0 ≤ (N : Int) := by omega
  obtain ⟨I, hNI⟩ : ∃ I : Int, (N : Int) = I := ⟨_, rfl⟩
  rw [hNI] at hI hI0 ⊢
  have HNI := Lib.hid hNI
  have HNM := Lib.hid h
  clear hNI h
  go_enter Try.func13, Try.ntmps13
  go_wp2
  clear hI
  go_loopw [0, 4] (fun p v wr => ∃ (pre : List Int) (r : Nat), p = .int .u64 r ∧ Hid (putL N = pre ++ putL r) ∧ (∃ A c, v = .slice A pre.length c) ∧ wr.ownsRow w.heap.size 5 1 v pre.length (pre.map (Value.int .u8)) ∧ Below w.heap.size w wr ∧ r ≤ 4611686018427387903) (fun p _ _ => (intOf p).toNat)
  case atStart => exact ⟨[], N, by rw [HNI.out], rfl, ⟨_, _, rfl⟩, World.ownsRow_nil _ _ _ _, Below.refl _ _, HNM.out⟩
  case round =>
    obtain ⟨pre, r, rfl, hp, ⟨A, c, rfl⟩, hown, hB, hr⟩ := hrel
    have hsz := hB.size
    have hlen : pre.length + (putL r).length ≤ 9 := by have := congrArg List.length hp.out; rw [List.length_append] at this; omega
    have hR := Lib.hid hr
    by_cases hs : r < 128
    · have hq : Hid (putL r = [(r : Int)]) := putL_small hs
      have hl1 : pre.length ≤ 8 := by have := putL_ne r; omega
      go_wp2_with (at_builtin; refine wpList_append_own _ rfl (.tmp 18) (.tmp 21) 23 rfl w.heap.size 5 i0 (.int .u8 0) 1 1 Try.underlying23 hi hz0 hz1 hz2 rfl (by decide) _ _ _ rfl (hown.alloc _) ⟨wr.heap.size, 0, none⟩ 1 1 [.int .u8 (r : Int)] rfl rfl (cell_one_new _ _ _) (by simp [Value.oneCell']) (by unfold maxLen; omega) (by omega) (by simp; omega) ?_; intro v' w3 hown' hgrow _)
      have hB3 : Below w.heap.size w w3 := (hB.alloc (by omega) _).grown hgrow (by simp; omega) (fun j hj => (hown.lt j hj).1)
      have hEQ : pre ++ [(r : Int)] = putL N := by rw [hp.out, hq.out]
      have hL : pre.length + 1 = (putL N).length := by rw [← hEQ]; simp
      have hown2 : w3.ownsRow w.heap.size 5 1 v' (putL N).length ((putL N).map (Value.int .u8)) := by
        rw [← hL, ← hEQ, List.map_append]; exact hown'
      obtain ⟨g, cap, hv⟩ := slice_of_own hown2 (putL_ne N)
      rw [hv] at hown2 ⊢
      clear hown' hgrow hv hEQ hL hB hown
      go_wp2
      go_ret2
      exact ⟨g, cap, rfl, hown2, hB3⟩
    · have hq : Hid (putL r = ((r : Int) % 128 + 128) :: putL (r / 128)) := putL_big hs
      have hl1 : pre.length ≤ 8 := by have := putL_ne r; omega
      have hr0 : (128 : Int) ≤ (r : Int) := by omega
      go_wp2_with (at_builtin; refine wpList_append_own _ rfl (.tmp 9) (.tmp 14) 23 rfl w.heap.size 5 i0 (.int .u8 0) 1 1 Try.underlying23 hi hz0 hz1 hz2 rfl (by decide) _ _ _ rfl (hown.alloc _) ⟨wr.heap.size, 0, none⟩ 1 1 [.int .u8 ((r : Int) % 128 + 128)] rfl rfl (cell_one_new _ _ _) (by simp [Value.oneCell']) (by unfold maxLen; omega) (by omega) (by simp; omega) ?_; intro v' w3 hown' hgrow _)
      have hB3 : Below w.heap.size w w3 := (hB.alloc (by omega) _).grown hgrow (by simp; omega) (fun j hj => (hown.lt j hj).1)
      have hown2 : w3.ownsRow w.heap.size 5 1 v' (pre ++ [(r : Int) % 128 + 128]).length ((pre ++ [(r : Int) % 128 + 128]).map (Value.int .u8)) := by
        rw [List.length_append, List.map_append]; exact hown'
      obtain ⟨g, cap, hv⟩ := slice_of_own hown2 (by simp)
      rw [hv] at hown2 ⊢
      clear hown' hgrow hv hB hown
      go_wp2
      go_roundw
      case rel => exact ⟨pre ++ [(r : Int) % 128 + 128], r / 128, by go_num, (by rw [hp.out, hq.out]; simp : putL N = (pre ++ [(r : Int) % 128 + 128]) ++ putL (r / 128)), ⟨_, _, rfl⟩, hown2, hB3, by have := hR.out; omega⟩
      case measure => simp [intOf]; omega
set_option maxHeartbeats 400000 in
theorem refFold_any (n : Int) (h : -9223372036854775808 ≤ n ∧ n ≤ 9223372036854775807) (w : World) :
    Calls Try.prog 16 #[.int .i64 n] w fun e w' => e = .returned (.int .u64 (foldS n)) ∧ w = w' := by
  obtain ⟨h1, h2⟩ := h
  by_cases h0 : 0 ≤ n
  · have e : foldS n = 2 * n := by unfold foldS; rw [if_pos h0]
    rw [e]; clear e
    go_enter Try.func16, Try.ntmps16
    go_wp2
    go_ret
    exact ⟨rfl, rfl⟩
  · have e : foldS n = 2 * -(n + 1) + 1 := by unfold foldS; rw [if_neg h0]; omega
    rw [e]; clear e
    go_enter Try.func16, Try.ntmps16
    go_wp2
    go_ret
    exact ⟨rfl, rfl⟩
set_option maxHeartbeats 400000 in
theorem refUnfold_any (n : Int) (h : 0 ≤ n ∧ n ≤ 18446744073709551615) (w : World) :
    Calls Try.prog 18 #[.int .u64 n] w fun e w' => e = .returned (.int .i64 (unfoldS n)) ∧ w = w' := by
  obtain ⟨h1, h2⟩ := h
  by_cases h0 : n % 2 = 0
  · have e : unfoldS n = n / 2 := by unfold unfoldS; rw [if_pos h0]
    rw [e]; clear e
    have h0' : ((n % 2) == 0) = true := by simpa using h0
    clear h0
    go_enter Try.func18, Try.ntmps18
    go_wp2
    go_ret
    exact ⟨rfl, rfl⟩
  · have e : unfoldS n = -(n / 2) - 1 := by unfold unfoldS; rw [if_neg h0]
    rw [e]; clear e
    have h0' : ((n % 2) == 0) = false := by simpa using h0
    clear h0
    go_enter Try.func18, Try.ntmps18
    go_wp2
    go_ret
    exact ⟨rfl, rfl⟩
theorem bytes_any (bk base n : Nat) (A B : Option Addr) (len cap bc : Nat) (ss : Value) (es : List Ent) (w : World) (hn : n ≤ 1000) (hb : base ≤ w.heap.size) (hbb : base ≤ bk) (hk : BookAt w bk n (.slice B es.length bc) ss)
    (ho : w.ownsRow base 82 3 (.slice B es.length bc) es.length (rowCells es)) (hes : es.length ≤ 1000) :
    Calls Try.prog 19 #[.pointer (some ⟨bk, 0, none⟩), .slice A len cap] w (Kept w bk base (n + 1) ss (es ++ [⟨A, len, cap, n + 1⟩])) := by
  have H := Lib.hid (keepByte_any bk base n A B len cap bc ss es w hn hb hbb hk ho hes)
  clear hk ho
  go_enter Try.func19, Try.ntmps19
  go_wp2_with fail
  refine H.out.mono ?_
  rintro e w' ⟨g, c, rfl, h1, h2, h3⟩
  go_wp2
  go_end0
  exact ⟨g, c, rfl, h1, h2, h3⟩
/-! NumsPuts -/
theorem two_lists {w : World} {base : Nat} {t : TypeId} {A1 A2 : Option Addr} {l1 l2 c1 c2 n1 n2 : Nat} {x1 x2 : List Value} {mk : Nat → Value} (h1 : w.ownsRow base t 1 (.slice A1 l1 c1) l1 x1) (h2 : w.ownsRow base t 1 (.slice A2 l2 c2) l2 x2)
    (hap : ∀ g, (Value.slice A1 l1 c1).ownBlock = some g → (Value.slice A2 l2 c2).ownBlock ≠ some g) : Lists w base t [⟨A1, l1, c1, n1⟩, ⟨A2, l2, c2, n2⟩] mk 0 := by
  refine ⟨fun j e hj => ?_, fun i j e e' hij hi hj => ?_⟩
  · match j, hj with
    | 0, hj => simp at hj; subst hj; exact ⟨x1, h1, fun h => by omega⟩
    | 1, hj => simp at hj; subst hj; exact ⟨x2, h2, fun h => by omega⟩
    | j + 2, hj => simp at hj
  · match i, j, hi, hj with
    | 0, 0, _, _ => exact absurd rfl hij
    | 0, 1, hi, hj =>
      simp at hi hj; subst hi hj
      cases hb : (Value.slice A1 l1 c1).ownBlock with
      | none => exact .inl hb
      | some g => exact .inr (fun e => hap g hb (e.symm.trans hb))
    | 1, 0, hi, hj =>
      simp at hi hj; subst hi hj
      cases hb : (Value.slice A1 l1 c1).ownBlock with
      | none =>
        cases hb2 : (Value.slice A2 l2 c2).ownBlock with
        | none => exact .inl hb2
        | some g => exact .inr (fun e => by have e' : (Value.slice A2 l2 c2).ownBlock = (Value.slice A1 l1 c1).ownBlock := e; rw [hb, hb2] at e'; cases e')
      | some g => exact .inr (fun e => hap g hb (by have e' : (Value.slice A2 l2 c2).ownBlock = (Value.slice A1 l1 c1).ownBlock := e; rw [e', hb]))
    | 1, 1, _, _ => exact absurd rfl hij
    | i + 2, _, hi, _ => simp at hi
    | 0, j + 2, _, hj => simp at hj
    | 1, j + 2, _, hj => simp at hj
theorem no_lists {w : World} {base : Nat} {t : TypeId} {mk : Nat → Value} : Lists w base t [] mk 0 := ⟨fun j e hj => by simp at hj, fun i j e e' _ hi => by simp at hi⟩
set_option maxRecDepth 100000 in
set_option maxHeartbeats 2000000 in
theorem numsPuts_no (N m : Int) (h : 4611686018427387903 < N) (hN : 0 ≤ N ∧ N ≤ 18446744073709551615) (hm : -9223372036854775808 ≤ m ∧ m ≤ 9223372036854775807) (w : World) :
    Calls Try.prog 3 #[.int .u64 N, .int .i64 m] w fun e w' => e = .returned (.bool true) ∧ Below w.heap.size w w' := by
  have PN := Lib.hid (fun W => put_no N h W)
  have RN := Lib.hid (fun W => refPut_no N h W)
  have FO := Lib.hid (fun W => fold_any m hm W)
  have RF := Lib.hid (fun W => refFold_any m hm W)
  have UN := Lib.hid (fun W => unfold_any N hN W)
  have RU := Lib.hid (fun W => refUnfold_any N hN W)
  have SB := Lib.hid (sameBytes_any none none 0 0 [] 0 0 rfl rfl w w.heap.size (fun h => by simp at h) (fun h => by simp at h) (by simp))
  have SB2 := Lib.hid (fun nq => sameBytes_any none none 0 0 [] 0 0 rfl rfl (w.drewN nq) w.heap.size (fun h => by simp at h) (fun h => by simp at h) (by simp))
  clear h hN hm
  generalize foldS m = x at *
  generalize unfoldS N = y at *
  go_enter Try.func3, Try.ntmps3
  go_wp2_with fail
  refine (PN.out w).mono ?_
  rintro e w' ⟨rfl, rfl⟩
  go_wp2_with fail
  refine (PN.out w).mono ?_
  rintro e w' ⟨rfl, rfl⟩
  go_wp2_with fail
  refine (RN.out w).mono ?_
  rintro e w' ⟨rfl, rfl⟩
  go_wp2_with fail
  refine SB.out.mono ?_
  rintro e w' ⟨rfl, nq, rfl⟩
  go_wp2_with fail
  refine (SB2.out nq).mono ?_
  rintro e w' ⟨rfl, nq2, rfl⟩
  have hB4 : Below w.heap.size w ((w.drewN nq).drewN nq2) := below_drewN (below_drewN (Below.refl _ _) nq) nq2
  clear SB SB2 PN RN
  generalize (w.drewN nq).drewN nq2 = w4 at *
  go_wp2_with fail
  refine (FO.out w4).mono ?_
  rintro e w' ⟨rfl, rfl⟩
  go_wp2_with fail
  refine (RF.out w4).mono ?_
  rintro e w' ⟨rfl, rfl⟩
  go_wp2_with fail
  refine (UN.out w4).mono ?_
  rintro e w' ⟨rfl, rfl⟩
  go_wp2_with fail
  refine (RU.out w4).mono ?_
  rintro e w' ⟨rfl, rfl⟩
  clear FO RF UN RU
  have o1 : w4.ownsRow w.heap.size 5 1 (.slice none 0 0) 0 [] := World.ownsRow_nil _ _ _ _
  have o2 : w4.ownsRow w.heap.size 5 1 (.slice none 0 0) 0 [] := World.ownsRow_nil _ _ _ _
  have hap : ∀ g, (Value.slice none 0 0).ownBlock = some g → (Value.slice none 0 0).ownBlock ≠ some g := fun g h => by simp [Value.ownBlock] at h
  obtain ⟨w5, hw5⟩ : ∃ w5, w4.alloc (.cells #[.int .i64 0, .slice none 0 0, .slice none 0 0, .slice none 0 0, .slice none 0 0, .slice none 0 0, .slice none 0 0, .slice none 0 0, .slice none 0 0, .slice none 0 0, .slice none 0 0, .slice none 0 0, .slice none 0 0] 43) = w5 := ⟨_, rfl⟩
  have hk5 : BookAt w5 w4.heap.size ((0 : Nat) : Int) (.slice none 0 0) (.slice none 0 0) := by rw [← hw5]; exact heap_alloc_new w4 _
  have b5 : Below w4.heap.size w4 w5 := by rw [← hw5]; exact (Below.refl _ _).alloc (Nat.le_refl _) _
  have hsz4 := hB4.size
  have hsz5 := b5.size
  have BY1 := Lib.hid (bytes_any w4.heap.size w.heap.size 0 none none 0 0 0 (.slice none 0 0) [] w5 (by omega) (by omega) hB4.size hk5 (World.ownsRow_nil _ _ _ _) (by simp))
  have HW5 := Lib.hid hw5
  have P1 := own_bel o1 b5
  have P2 := own_bel o2 b5
  clear hw5 o1 o2
  go_wp2_with fail
  rw [HW5.out]
  refine BY1.out.mono ?_
  rintro e w6 ⟨g6, c6, rfl, hk6, hr6, f6⟩
  have Q1 := own_frm2 P1 f6 (by decide) (by decide)
  have Q2 := own_frm2 P2 f6 (by decide) (by decide)
  have hsz6 := f6.below.size
  have BY2 := Lib.hid (bytes_any w4.heap.size w.heap.size 1 none (some ⟨g6, 0, none⟩) 0 0 c6 (.slice none 0 0) [⟨none, 0, 0, 1⟩] w6 (by omega) (by omega) hB4.size hk6 hr6 (by simp))
  clear BY1 HW5 P1 P2 hk5 hk6 hr6
  go_wp2_with fail
  refine BY2.out.mono ?_
  rintro e w7 ⟨g7, c7, rfl, hk7, hr7, f7⟩
  have R1 := own_frm2 Q1 f7 (by decide) (by decide)
  have R2 := own_frm2 Q2 f7 (by decide) (by decide)
  have hsz7 := f7.below.size
  have AP := Lib.hid (apart_any (w := w7) (base := w.heap.size) (eb := [⟨none, 0, 0, 1⟩, ⟨none, 0, 0, 2⟩]) (es := []) (by omega) hk7
    ⟨two_lists R1 R2 hap, .inr ⟨g7, c7, rfl, hr7⟩, by simp, by simp⟩ ⟨no_lists, .inl ⟨rfl, rfl⟩, by simp, by simp⟩)
  have hBw : Below w.heap.size w w7 := ((hB4.trans (b5.mono hsz4)).trans f6.below).trans f7.below
  clear BY2 Q1 Q2 R1 R2 hk7 hr7 f6 f7 b5 hB4
  go_wp2_with fail
  refine AP.out.mono ?_
  rintro e w8 ⟨rfl, hB8⟩
  go_wp2
  go_ret
  exact ⟨rfl, hBw.trans hB8⟩

set_option maxRecDepth 100000 in
set_option maxHeartbeats 2000000 in
theorem numsPuts_yes (N : Nat) (m : Int) (h : N ≤ 4611686018427387903) (hm : -9223372036854775808 ≤ m ∧ m ≤ 9223372036854775807) (w : World) :
    Calls Try.prog 3 #[.int .u64 N, .int .i64 m] w fun e w' => e = .returned (.bool true) ∧ Below w.heap.size w w' := by
  have PN := Lib.hid (fun W => put_yes N h W)
  have RN := Lib.hid (fun W => refPut_yes N h W)
  have FO := Lib.hid (fun W => fold_any m hm W)
  have RF := Lib.hid (fun W => refFold_any m hm W)
  have UN := Lib.hid (fun W => unfold_any (N : Int) (by omega) W)
  have RU := Lib.hid (fun W => refUnfold_any (N : Int) (by omega) W)
  have h9 := putL_len9 N h
  clear h hm
  generalize foldS m = x at *
  generalize unfoldS (N : Int) = y at *
  go_enter Try.func3, Try.ntmps3
  go_wp2_with fail
  refine (PN.out w).mono ?_
  rintro e w1 ⟨g1, c1, rfl, o1, hB1⟩
  go_wp2_with fail
  refine (PN.out w1).mono ?_
  rintro e w2 ⟨g2, c2, rfl, o2, hB2⟩
  have z1 := hB1.size
  have o1b := own_keep o1 hB2
  have hg1 : g1 < w1.heap.size := (o1.lt g1 rfl).2
  have hg2 : w1.heap.size ≤ g2 := (o2.lt g2 rfl).1
  have hB2' : Below w.heap.size w w2 := hB1.trans (hB2.mono z1)
  clear PN o1 hB1 hB2
  go_wp2_with fail
  refine (RN.out w2).mono ?_
  rintro e w3 ⟨g3, c3, rfl, o3, hB3⟩
  have z2 := hB2'.size
  have o1 := own_keep o1b hB3
  have o2b := own_keep o2 hB3
  have o2' := owns_base o2b (by omega : w.heap.size ≤ w1.heap.size)
  have hB3' : Below w.heap.size w w3 := hB2'.trans (hB3.mono z2)
  have r1 := rd_own o1
  have r2 := rd_own o2b
  have r3 := rd_own o3
  have SB := Lib.hid (sameBytes_any (some ⟨g1, 0, none⟩) (some ⟨g3, 0, none⟩) c1 c3 (putL N) (putL N).length (putL N).length rfl rfl w3 w3.heap.size r3 r1 (by omega))
  have SB2 := Lib.hid (fun nq => sameBytes_any (some ⟨g2, 0, none⟩) (some ⟨g3, 0, none⟩) c2 c3 (putL N) (putL N).length (putL N).length rfl rfl (w3.drewN nq) w3.heap.size r3 r2 (by omega))
  have hq : ∀ a b, ((w3.drewN a).drewN b).ownsRow w.heap.size 5 1 (.slice (some ⟨g1, 0, none⟩) (putL N).length c1) (putL N).length ((putL N).map (Value.int .u8)) ∧ ((w3.drewN a).drewN b).ownsRow w.heap.size 5 1 (.slice (some ⟨g2, 0, none⟩) (putL N).length c2) (putL N).length ((putL N).map (Value.int .u8)) := fun a b => ⟨o1, o2'⟩
  have HQ := Lib.hid hq
  clear RN o1b o2 o2b o3 r1 r2 r3 hB2' hB3 o1 o2' hq
  go_wp2_with fail
  refine SB.out.mono ?_
  rintro e w' ⟨rfl, nq, rfl⟩
  go_wp2_with fail
  refine (SB2.out nq).mono ?_
  rintro e w' ⟨rfl, nq2, rfl⟩
  have hB4 : Below w.heap.size w ((w3.drewN nq).drewN nq2) := below_drewN (below_drewN hB3' nq) nq2
  obtain ⟨o1, o2⟩ := HQ.out nq nq2
  clear SB SB2 HQ hB3'
  generalize (w3.drewN nq).drewN nq2 = w4 at *
  generalize (putL N).map (Value.int .u8) = xx at *
  generalize (putL N).length = ll at *
  go_wp2_with fail
  refine (FO.out w4).mono ?_
  rintro e w' ⟨rfl, rfl⟩
  go_wp2_with fail
  refine (RF.out w4).mono ?_
  rintro e w' ⟨rfl, rfl⟩
  go_wp2_with fail
  refine (UN.out w4).mono ?_
  rintro e w' ⟨rfl, rfl⟩
  go_wp2_with fail
  refine (RU.out w4).mono ?_
  rintro e w' ⟨rfl, rfl⟩
  clear FO RF UN RU
  have hap : ∀ g, (Value.slice (some ⟨g1, 0, none⟩) ll c1).ownBlock = some g → (Value.slice (some ⟨g2, 0, none⟩) ll c2).ownBlock ≠ some g := fun g h h' => by
    simp [Value.ownBlock] at h h'; omega
  obtain ⟨w5, hw5⟩ : ∃ w5, w4.alloc (.cells #[.int .i64 0, .slice none 0 0, .slice none 0 0, .slice none 0 0, .slice none 0 0, .slice none 0 0, .slice none 0 0, .slice none 0 0, .slice none 0 0, .slice none 0 0, .slice none 0 0, .slice none 0 0, .slice none 0 0] 43) = w5 := ⟨_, rfl⟩
  have hk5 : BookAt w5 w4.heap.size ((0 : Nat) : Int) (.slice none 0 0) (.slice none 0 0) := by rw [← hw5]; exact heap_alloc_new w4 _
  have b5 : Below w4.heap.size w4 w5 := by rw [← hw5]; exact (Below.refl _ _).alloc (Nat.le_refl _) _
  have hsz4 := hB4.size
  have hsz5 := b5.size
  have BY1 := Lib.hid (bytes_any w4.heap.size w.heap.size 0 (some ⟨g1, 0, none⟩) none ll c1 0 (.slice none 0 0) [] w5 (by omega) (by omega) hB4.size hk5 (World.ownsRow_nil _ _ _ _) (by simp))
  have HW5 := Lib.hid hw5
  have P1 := own_bel o1 b5
  have P2 := own_bel o2 b5
  clear hw5 o1 o2
  go_wp2_with fail
  rw [HW5.out]
  refine BY1.out.mono ?_
  rintro e w6 ⟨g6, c6, rfl, hk6, hr6, f6⟩
  have Q1 := own_frm2 P1 f6 (by decide) (by decide)
  have Q2 := own_frm2 P2 f6 (by decide) (by decide)
  have hsz6 := f6.below.size
  have BY2 := Lib.hid (bytes_any w4.heap.size w.heap.size 1 (some ⟨g2, 0, none⟩) (some ⟨g6, 0, none⟩) ll c2 c6 (.slice none 0 0) [⟨some ⟨g1, 0, none⟩, ll, c1, 1⟩] w6 (by omega) (by omega) hB4.size hk6 hr6 (by simp))
  clear BY1 HW5 P1 P2 hk5 hk6 hr6
  go_wp2_with fail
  refine BY2.out.mono ?_
  rintro e w7 ⟨g7, c7, rfl, hk7, hr7, f7⟩
  have R1 := own_frm2 Q1 f7 (by decide) (by decide)
  have R2 := own_frm2 Q2 f7 (by decide) (by decide)
  have hsz7 := f7.below.size
  have AP := Lib.hid (apart_any (w := w7) (base := w.heap.size) (eb := [⟨some ⟨g1, 0, none⟩, ll, c1, 1⟩, ⟨some ⟨g2, 0, none⟩, ll, c2, 2⟩]) (es := []) (by omega) hk7
    ⟨two_lists R1 R2 hap, .inr ⟨g7, c7, rfl, hr7⟩, by simp; omega, by simp⟩ ⟨no_lists, .inl ⟨rfl, rfl⟩, by simp, by simp⟩)
  have hBw : Below w.heap.size w w7 := ((hB4.trans (b5.mono hsz4)).trans f6.below).trans f7.below
  clear BY2 Q1 Q2 R1 R2 hk7 hr7 f6 f7 b5 hB4
  go_wp2_with fail
  refine AP.out.mono ?_
  rintro e w8 ⟨rfl, hB8⟩
  go_wp2
  go_ret
  exact ⟨rfl, hBw.trans hB8⟩
end Go.Proofs.Ytlkkmeeijjaeiaa
