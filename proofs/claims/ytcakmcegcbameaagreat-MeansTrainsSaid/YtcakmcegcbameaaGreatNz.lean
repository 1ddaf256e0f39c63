/- The walk of MeansTrains, over what is asked of Train. -/
import Derived.Test.YtcakmcegcbameaaGreatN2
import Derived.Test.YtcakmcegcbameaaGreatNm
import Derived.Test.YtcakmcegcbameaaGreatNh
namespace Go.Proofs.YtcakmcegcbameaaGreat
open Go.RowKit
set_option linter.unusedVariables false
theorem arg_twin {w : World} {base g r : Nat} {T L : List Vc} (h : TwinV w base g r T) (hv : vecs T = vecs L) (s : Small L) (b : B8 (vecs L)) : VArg w (some ⟨g, 0, none⟩) T :=
  ⟨h.rd, by have := s.len; rw [← vecs_len, hv, vecs_len]; omega, fun v hv' => by rw [hv] at hv'; have := s.vec hv'; omega, by rw [hv]; exact b⟩
theorem trainA_len (vs : List (List Int)) (k r : Int) (s : Nat) (b : B8 vs) : (trainA vs k r s).length ≤ 64 ∧ (∀ v ∈ trainA vs k r s, v.length ≤ 64) ∧ B8 (trainA vs k r s) := by
  unfold trainA
  cases h : mayTB vs k r with
  | false => exact ⟨by simp, fun v hv => by simp at hv, fun v hv => by simp at hv⟩
  | true =>
    obtain ⟨h1, h2, h3, h4, _⟩ := mayTB_yes h
    have hmm := stepsL_may (firstL_may (s := s) (k := k.toNat) h1 (by omega) (by omega) (by omega)) r.toNat
    have hm := mayM_yes hmm
    have hb := mayB_yes hm.2.1
    exact ⟨hm.1, fun v hv => by rw [mayB_len hm.2.1 v hv]; exact hb.2.2.2.1, stepsL_b8 (fun v hv => b v (firstL_mem hv)) b _⟩
theorem refTrain_arg (A : Option Addr) (c : Nat) (L : List Vc) (k r : Int) (s : Nat) (w : World) (hx : VArg w A L) (hs : s < 18446744073709551616) :
    Calls Tryz.prog 17 #[.slice A L.length c, .int .i64 k, .int .i64 r, .int .u64 s] w fun e w' => ∃ A' c' L', e = .returned (.tuple #[.slice A' (L' : List Vc).length c', .int .i64 (errE (mayTB (vecs L) k r))]) ∧ OwnV w' w.heap.size A' c' L' ∧ vecs L' = trainA (vecs L) k r s ∧ Below w.heap.size w w' := by
  cases h : mayTB (vecs L) k r with
  | false =>
    refine (rTrain_no A c L _ rfl k r s w _ hx.rd (by have := hx.len; omega) (mayTB_no h)).mono ?_
    rintro e w' ⟨rfl, nq, rfl⟩
    exact ⟨none, 0, [], rfl, OwnV.nil _ _, by unfold trainA; rw [h]; rfl, below_drewN (Below.refl _ _) nq⟩
  | true =>
    obtain ⟨h1, h2, h3, h4, h5, h6⟩ := mayTB_yes h
    obtain ⟨k, rfl⟩ : ∃ n : Nat, k = n := ⟨k.toNat, by omega⟩
    obtain ⟨r, rfl⟩ : ∃ n : Nat, r = n := ⟨r.toNat, by omega⟩
    rw [vecs_len] at h4
    refine (rTrain_yes A c L _ rfl k r s w hs hx.rd h1 (by omega) (by omega) (by omega) (by omega) hx.b8).mono ?_
    rintro e w' ⟨A', c', L', rfl, q1, q2, q3⟩
    exact ⟨A', c', L', rfl, q1, by rw [q2]; unfold trainA; rw [h]; rfl, q3⟩
set_option maxRecDepth 100000 in
set_option maxHeartbeats 2000000 in
theorem meansTrains_main (hT : TrainSpec) (A : Option Addr) (c : Nat) (L : List Vc) (K R : Int) (S : Nat) (w : World) (hx : Given w A L) (hr : RoomOk L) (hs : S < 18446744073709551616) :
    Calls Tryz.prog 4 #[.slice A L.length c, .agg #[.int .i64 K, .int .i64 R, .int .u64 (S : Nat)]] w fun e w' => e = .returned (.bool true) ∧ Below w.heap.size w w' := by
  have HT := Lib.hid hT
  have HS := Lib.hid hs
  have HR := Lib.hid hr
  have cw0 : Below w.heap.size w (w.alloc (.cells #[.int .i64 K, .int .i64 R, .int .u64 (S : Nat)] 49)) := below_one (Below.refl _ _) _
  have HX0 := Lib.hid (hx.below cw0)
  have C0 := Lib.hid cw0
  have BX0 : Whole (w.alloc (.cells #[.int .i64 K, .int .i64 R, .int .u64 (S : Nat)] 49)) w.heap.size 49 #[.int .i64 K, .int .i64 R, .int .u64 (S : Nat)] := Whole.new w 49 _
  have HB0 := Lib.hid BX0
  clear hT hx hs hr cw0 BX0
  go_enter Tryz.func4, Tryz.ntmps4
  go_wp2_with fail
  obtain ⟨bx, ebx⟩ : ∃ bx, w.heap.size = bx := ⟨_, rfl⟩
  obtain ⟨w0, ew0⟩ : ∃ w0, w.alloc (.cells #[.int .i64 K, .int .i64 R, .int .u64 (S : Nat)] 49) = w0 := ⟨_, rfl⟩
  rw [ew0] at HX0 C0 HB0 ⊢
  have hz : w0.heap.size = bx + 1 := by rw [← ew0, ← ebx]; simp
  rw [ebx] at HB0 ⊢
  rw [← hz]
  clear ew0 ebx hz
  refine (great_one HX0.out _).mono ?_
  rintro e w1 ⟨⟨b, rfl, hb⟩, rfl⟩
  have cw1 : Below w0.heap.size w0 (w0.alloc (.cells #[.slice A L.length c] 22)) := below_one (Below.refl _ _) _
  have C1 := Lib.hid (C0.out.trans (cw1.mono C0.out.size))
  have HX1 := Lib.hid (HX0.out.below cw1)
  have HB1 := Lib.hid (HB0.out.below cw1 HB0.out.lt)
  obtain ⟨w1, ew1⟩ : ∃ w1, w0.alloc (.cells #[.slice A L.length c] 22) = w1 := ⟨_, rfl⟩
  rw [ew1] at C1 HX1 HB1 ⊢
  clear ew1 cw1 HX0 HB0 C0
  dsimp only
  cases b with
  | true =>
    go_wp2
    go_ret
    exact ⟨rfl, C1.out⟩
  | false =>
    have SM := Lib.hid (hb rfl (A, c, L) (by simp))
    clear hb
    go_wp2_with fail
    refine (size_any A c L _ rfl w1 _ HX1.out.rd HX1.out.len HX1.out.vec).mono ?_
    rintro e w2 ⟨⟨z, rfl, hz⟩, rfl⟩
    have r0 : w1.cell? ⟨bx, 0, none⟩ = some (.int .i64 K) := HB1.out.cell 0
    have r1 : w1.cell? ⟨bx, 1, none⟩ = some (.int .i64 R) := HB1.out.cell 1
    have r2 : w1.cell? ⟨bx, 2, none⟩ = some (.int .u64 (S : Nat)) := HB1.out.cell 2
    clear hz
    dsimp only
    by_cases hbig : 2000 < z ∧ 4 < K ∧ 4 < R
    · have e1 : decide (2000 < z) = true := decide_eq_true hbig.1
      have e2 : decide (4 < K) = true := decide_eq_true hbig.2.1
      have e3 : decide (4 < R) = true := decide_eq_true hbig.2.2
      clear hbig
      go_wp2
      go_ret
      exact ⟨rfl, C1.out⟩
    have tri : decide (2000 < z) = false ∨ (decide (2000 < z) = true ∧ decide (4 < K) = false) ∨ (decide (2000 < z) = true ∧ decide (4 < K) = true ∧ decide (4 < R) = false) := by
      by_cases h1 : 2000 < z
      · by_cases h2 : 4 < K
        · exact .inr (.inr ⟨decide_eq_true h1, decide_eq_true h2, decide_eq_false (fun h => hbig ⟨h1, h2, h⟩)⟩)
        · exact .inr (.inl ⟨decide_eq_true h1, decide_eq_false h2⟩)
      · exact .inl (decide_eq_false h1)
    clear hbig
    rcases tri with e1 | ⟨e1, e2⟩ | ⟨e1, e2, e3⟩
    all_goals
      go_wp2_with fail
      clear r0 r1 r2
      refine (twin_arg HX1.out SM.out).mono ?_
      rintro e w2 ⟨rfl, ⟨T, hT, hTv, hTl⟩, b2⟩
      have RT2 := Lib.hid (twin_range hT hTv SM.out w.heap.size C1.out.size)
      have T2 := Lib.hid hT
      have TV := Lib.hid hTv
      have TL := Lib.hid hTl
      have HX2 := Lib.hid (HX1.out.below b2)
      have HB2 := Lib.hid (HB1.out.below b2 HB1.out.lt)
      have C2 := Lib.hid (C1.out.trans (b2.mono C1.out.size))
      have z2 := b2.size
      have zw := C1.out.size
      clear hT hTv hTl b2 HX1 HB1 C1
      obtain ⟨g, eg⟩ : ∃ g, w1.heap.size = g := ⟨_, rfl⟩
      rw [eg] at RT2 T2 z2 zw ⊢
      clear eg
      dsimp only
      have TRE : Hid (∀ W, TwinV W g g 2 T → Calls Tryz.prog 16 #[.slice (some ⟨g, 0, none⟩) L.length (L.length + 2), .int .i64 K, .int .i64 R, .int .u64 (S : Nat)] W (VAns W (trainA (vecs L) K R S) (errE (mayTB (vecs L) K R)))) := Lib.hid (fun W h1 => by
        have h3 := HT.out _ (L.length + 2) T K R S W (arg_twin h1 TV.out SM.out HX2.out.b8) HS.out
        rw [TL.out, TV.out] at h3; exact h3)
      have AL := Lib.hid (trainA_len (vecs L) K R S HX2.out.b8)
      have eE : (errE (mayTB (vecs L) K R) != errE (mayTB (vecs L) K R)) = false := by simp
      have RTE := Lib.hid (fun W (h1 : Given W A L) => refTrain_arg A c L K R S W (h1.arg SM.out) HS.out)
      obtain ⟨E, ee⟩ : ∃ E, errE (mayTB (vecs L) K R) = E := ⟨_, rfl⟩
      obtain ⟨Z, er⟩ : ∃ Z, trainA (vecs L) K R S = Z := ⟨_, rfl⟩
      simp only [ee, er] at TRE eE RTE AL
      clear ee er HT HS
      have r0 : w2.cell? ⟨bx, 0, none⟩ = some (.int .i64 K) := HB2.out.cell 0
      have r1 : w2.cell? ⟨bx, 1, none⟩ = some (.int .i64 R) := HB2.out.cell 1
      have r2 : w2.cell? ⟨bx, 2, none⟩ = some (.int .u64 (S : Nat)) := HB2.out.cell 2
      go_wp2_with fail
      clear r0 r1 r2
      refine (TRE.out w2 T2.out).mono ?_
      rintro e w4 ⟨A4, k4, L4, rfl, o4, p4, v4, b4⟩
      have RA4 := Lib.hid (ans_range o4 p4 v4 AL.out.2.1 w.heap.size C2.out.size)
      have VA4 := Lib.hid (argOf o4 v4 (by have := AL.out.1; omega) AL.out.2.1 AL.out.2.2)
      have LV4 := Lib.hid v4
      have RT4 := Lib.hid (RT2.out.below b4)
      have T4 := Lib.hid (T2.out.below b4)
      have HX4 := Lib.hid (HX2.out.below b4)
      have HB4 := Lib.hid (HB2.out.below b4 HB2.out.lt)
      have C4 := Lib.hid (C2.out.trans (b4.mono C2.out.size))
      have z4 := b4.size
      clear o4 p4 v4 b4 RT2 T2 HX2 HB2 C2
      dsimp only
      have r0 : w4.cell? ⟨bx, 0, none⟩ = some (.int .i64 K) := HB4.out.cell 0
      have r1 : w4.cell? ⟨bx, 1, none⟩ = some (.int .i64 R) := HB4.out.cell 1
      have r2 : w4.cell? ⟨bx, 2, none⟩ = some (.int .u64 (S : Nat)) := HB4.out.cell 2
      go_wp2_with fail
      clear r0 r1 r2
      refine (TRE.out w4 T4.out).mono ?_
      rintro e w5 ⟨A5, k5, L5, rfl, o5, p5, v5, b5⟩
      have RB5 := Lib.hid (ans_range o5 p5 v5 AL.out.2.1 w.heap.size C4.out.size)
      have VB5 := Lib.hid (argOf o5 v5 (by have := AL.out.1; omega) AL.out.2.1 AL.out.2.2)
      have LV5 := Lib.hid v5
      have RA5 := Lib.hid (RA4.out.below b5)
      have VA5 := Lib.hid (VA4.out.below b5)
      have RT5 := Lib.hid (RT4.out.below b5)
      have T5 := Lib.hid (T4.out.below b5)
      have HX5 := Lib.hid (HX4.out.below b5)
      have HB5 := Lib.hid (HB4.out.below b5 HB4.out.lt)
      have C5 := Lib.hid (C4.out.trans (b5.mono C4.out.size))
      have z5 := b5.size
      clear o5 p5 v5 b5 RT4 T4 HX4 HB4 C4 RA4 VA4 TRE
      dsimp only
      have r0 : w5.cell? ⟨bx, 0, none⟩ = some (.int .i64 K) := HB5.out.cell 0
      have r1 : w5.cell? ⟨bx, 1, none⟩ = some (.int .i64 R) := HB5.out.cell 1
      have r2 : w5.cell? ⟨bx, 2, none⟩ = some (.int .u64 (S : Nat)) := HB5.out.cell 2
      go_wp2_with fail
      clear r0 r1 r2
      refine (RTE.out w5 HX5.out).mono ?_
      rintro e w7 ⟨A7, k7, L7, rfl, o7, v7, b7⟩
      have VW7 := Lib.hid (argOf o7 v7 (by have := AL.out.1; omega) AL.out.2.1 AL.out.2.2)
      have LV7 := Lib.hid v7
      have RB7 := Lib.hid (RB5.out.below b7)
      have VB7 := Lib.hid (VB5.out.below b7)
      have RA7 := Lib.hid (RA5.out.below b7)
      have VA7 := Lib.hid (VA5.out.below b7)
      have RT7 := Lib.hid (RT5.out.below b7)
      have T7 := Lib.hid (T5.out.below b7)
      have HX7 := Lib.hid (HX5.out.below b7)
      have C7 := Lib.hid (C5.out.trans (b7.mono C5.out.size))
      clear o7 v7 b7 RT5 T5 HX5 HB5 C5 RA5 VA5 RB5 VB5 RTE
      have b8 : Below w7.heap.size w7 w7 := Below.refl _ _
      have S1 := Lib.hid (fun W (hb : Below w7.heap.size w7 W) => same_arg A4 k4 L4 A7 k7 L7 W (VA7.out.below hb) (VW7.out.below hb))
      have S2' := Lib.hid (fun W (hb : Below w7.heap.size w7 W) => same_arg A5 k5 L5 A7 k7 L7 W (VB7.out.below hb) (VW7.out.below hb))
      have Q1 : decide (vecs L4 = vecs L7) = true := decide_eq_true (LV4.out.trans LV7.out.symm)
      have Q2 : decide (vecs L5 = vecs L7) = true := decide_eq_true (LV5.out.trans LV7.out.symm)
      rw [Q1] at S1
      rw [Q2] at S2'
      have LE1 := Lib.hid (fun W (hb : Below w7.heap.size w7 W) => left_arg (c := c) (T7.out.below hb) TV.out (HX7.out.below hb) HR.out SM.out)
      have L4l : L4.length ≤ 20000 := by have := AL.out.1; rw [← vecs_len, LV4.out]; omega
      have L5l : L5.length ≤ 20000 := by have := AL.out.1; rw [← vecs_len, LV5.out]; omega
      have B4 := Lib.hid L4l
      have B5 := Lib.hid L5l
      clear Q1 Q2 T7 HX7 VA7 VB7 VW7 LV4 LV5 LV7 AL L4l L5l
      dsimp only
      go_wp2_with (first
        | (go_at_call 11; (with_reducible refine (S1.out _ b8).mono ?_); rintro e w9 ⟨rfl, b9⟩; have c9 := b8.trans (b9.mono b8.size))
        | (go_at_call 11; (with_reducible refine (S2'.out _ c9).mono ?_); rintro e w10 ⟨rfl, b10⟩; have c10 := c9.trans (b10.mono c9.size))
        | (go_at_call 12; (with_reducible refine (LE1.out _ c10).mono ?_); rintro e w12 ⟨rfl, b12⟩; have c12 := Lib.hid (c10.trans (b12.mono c10.size))))
      have cz := c12.out.size
      have RT := Lib.hid (RT7.out.below c12.out)
      have RA := Lib.hid (RA7.out.below c12.out)
      have RB := Lib.hid (RB7.out.below c12.out)
      have CC := Lib.hid (C7.out.trans (c12.out.mono C7.out.size))
      clear RT7 RA7 RB7 S1 S2' LE1 c9 c10 b9 b10 b12 b8 C7 eE
      have BS0 := bs_new w12 w.heap.size g
      have cn : Below w12.heap.size w12 (w12.alloc newBook) := below_one (Below.refl _ _) _
      have RT' := Lib.hid (RT.out.below cn)
      have RA' := Lib.hid (RA.out.below cn)
      have RB' := Lib.hid (RB.out.below cn)
      have CD := Lib.hid (CC.out.trans (cn.mono CC.out.size))
      have hbk : w.heap.size ≤ w12.heap.size := CC.out.size
      obtain ⟨wb, ewb⟩ : ∃ wb, w12.alloc newBook = wb := ⟨_, rfl⟩
      obtain ⟨bk, ebk⟩ : ∃ bk, w12.heap.size = bk := ⟨_, rfl⟩
      have e9 : w12.alloc (Obj.cells #[Value.int IntKind.i64 0, Value.slice none 0 0, Value.slice none 0 0, Value.slice none 0 0, Value.slice none 0 0, Value.slice none 0 0, Value.slice none 0 0, Value.slice none 0 0, Value.slice none 0 0, Value.slice none 0 0, Value.slice none 0 0, Value.slice none 0 0, Value.slice none 0 0] 44) = wb := ewb
      rw [e9, ebk]
      rw [ewb, ebk] at BS0
      rw [ewb] at RT' RA' RB' CD
      rw [ebk] at hbk
      have B0 := Lib.hid BS0
      clear e9 ewb ebk cn BS0 RT RA RB CC c12
      have hTl : T.length ≤ 20000 := by rw [TL.out]; exact SM.out.len
      have K1 := bs_step B0.out RT'.out z2 CD.out.size hbk hTl (by omega)
      rw [TL.out] at K1
      have K1' := Lib.hid K1
      have Hz4 := Lib.hid z4
      have Hz5 := Lib.hid z5
      have HL1 := Lib.hid SM.out.len
      clear K1 hTl z2 z4 z5 B0
      refine K1'.out.mono ?_
      rintro e wa ⟨rfl, h1, q1⟩
      have B1 := Lib.hid h1
      have RA1 := Lib.hid (RA'.out.kr q1)
      have RB1 := Lib.hid (RB'.out.kr q1)
      have CE := Lib.hid (CD.out.trans q1.below)
      clear h1 q1 RT' RA' RB' CD K1'
      dsimp only
      have K3' := Lib.hid (bs_step B1.out RA1.out Hz4.out CE.out.size hbk B4.out (by have := HL1.out; omega))
      go_wp2_with fail
      refine K3'.out.mono ?_
      rintro e wd ⟨rfl, h1, q1⟩
      have B3 := Lib.hid h1
      have RB3 := Lib.hid (RB1.out.kr q1)
      have CG := Lib.hid (CE.out.trans q1.below)
      clear h1 q1 RA1 RB1 CE K3' B1
      dsimp only
      have K4' := Lib.hid (bs_step B3.out RB3.out Hz5.out CG.out.size hbk B5.out (by have := HL1.out; have := B4.out; omega))
      go_wp2_with fail
      refine K4'.out.mono ?_
      rintro e we ⟨rfl, h1, q1⟩
      have AP := Lib.hid (bs_apart h1 (CG.out.trans q1.below).size)
      have CH := Lib.hid (CG.out.trans q1.below)
      clear h1 q1 RB3 CG K4' B3
      dsimp only
      go_wp2_with fail
      refine AP.out.mono ?_
      rintro e wf ⟨rfl, b13⟩
      have CI := Lib.hid (CH.out.trans b13)
      clear b13 AP CH
      dsimp only
      go_wp2
      go_ret
      exact ⟨rfl, CI.out⟩
end Go.Proofs.YtcakmcegcbameaaGreat
