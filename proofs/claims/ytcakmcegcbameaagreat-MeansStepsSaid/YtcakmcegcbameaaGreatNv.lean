/- The walk of MeansSteps. -/
import Derived.Test.YtcakmcegcbameaaGreatN1
import Derived.Test.YtcakmcegcbameaaGreatN2
import Derived.Test.YtcakmcegcbameaaGreatN3
import Derived.Test.YtcakmcegcbameaaGreatNg
import Derived.Test.YtcakmcegcbameaaGreatNm
namespace Go.Proofs.YtcakmcegcbameaaGreat
open Go.RowKit
set_option linter.unusedVariables false
theorem great_false {L M : List Vc} {A B : Option Addr} {c d : Nat} {b : Bool} (h : b = false → ∀ x ∈ [(A, c, L), (B, d, M)], Small x.2.2) (e : b = false) : Small L ∧ Small M := ⟨h e (A, c, L) (by simp), h e (B, d, M) (by simp)⟩
/-- What is carried along: two arguments, their twins. -/
structure Four2 (w0 w : World) (A B : Option Addr) (L M : List Vc) (g h : Nat) (S T : List Vc) : Prop where
  gx : Given w A L
  gy : Given w B M
  s : TwinV w g g 2 S
  t : TwinV w h h 2 T
  bel : Below w0.heap.size w0 w
theorem Four2.below {w0 w w' : World} {A B : Option Addr} {L M : List Vc} {g h : Nat} {S T : List Vc} (f : Four2 w0 w A B L M g h S T) (k : Below w.heap.size w w') : Four2 w0 w' A B L M g h S T :=
  ⟨f.gx.below k, f.gy.below k, f.s.below k, f.t.below k, f.bel.trans (k.mono f.bel.size)⟩
theorem stepA_len (ms vs : List (List Int)) (b1 : B8 ms) (b2 : B8 vs) : (stepA ms vs).length ≤ 64 ∧ (∀ v ∈ stepA ms vs, v.length ≤ 64) ∧ B8 (stepA ms vs) := by
  unfold stepA
  cases h : mayM ms vs with
  | false => exact ⟨by simp, fun v hv => by simp at hv, fun v hv => by simp at hv⟩
  | true =>
    have hm := mayM_yes (stepL_may h).1
    have hb := mayB_yes hm.2.1
    exact ⟨hm.1, fun v hv => by rw [mayB_len hm.2.1 v hv]; exact hb.2.2.2.1, stepL_b8 b1 b2⟩
theorem refStep_arg (A : Option Addr) (c : Nat) (L : List Vc) (B : Option Addr) (d : Nat) (M : List Vc) (w : World) (hx : VArg w A L) (hy : VArg w B M) :
    Calls Tryz.prog 9 #[.slice A L.length c, .slice B M.length d] w fun e w' => ∃ A' c' L', e = .returned (.tuple #[.slice A' (L' : List Vc).length c', .int .i64 (errE (mayM (vecs L) (vecs M)))]) ∧ OwnV w' w.heap.size A' c' L' ∧ vecs L' = stepA (vecs L) (vecs M) ∧ Below w.heap.size w w' := by
  cases h : mayM (vecs L) (vecs M) with
  | false =>
    refine (rStep_no A c L _ rfl B d M _ rfl w _ hx.rd hy.rd (by have := hx.len; omega) (by have := hy.len; omega) h).mono ?_
    rintro e w' ⟨rfl, nq, rfl⟩
    exact ⟨none, 0, [], rfl, OwnV.nil _ _, by unfold stepA; rw [h]; rfl, below_drewN (Below.refl _ _) nq⟩
  | true =>
    refine (rStep_yes A c L _ rfl B d M _ rfl w hx.rd hy.rd h hx.b8 hy.b8).mono ?_
    rintro e w' ⟨A', c', L', rfl, h1, h2, h3⟩
    exact ⟨A', c', L', rfl, h1, by rw [h2]; unfold stepA; rw [h]; rfl, h3⟩
set_option maxRecDepth 100000 in
set_option maxHeartbeats 2000000 in
theorem meansSteps_main (hS : StepSpec) (hC : CostSpec) (A : Option Addr) (c : Nat) (L : List Vc) (B : Option Addr) (d : Nat) (M : List Vc) (w : World) (hx : Given w A L) (hr : RoomOk L) (hy : Given w B M) (hr2 : RoomOk M) :
    Calls Tryz.prog 3 #[.slice A L.length c, .slice B M.length d] w fun e w' => e = .returned (.bool true) ∧ Below w.heap.size w w' := by
  have HS := Lib.hid hS
  have HC := Lib.hid hC
  have HR := Lib.hid hr
  have HR2 := Lib.hid hr2
  have HX := Lib.hid hx
  have HY := Lib.hid hy
  clear hS hC hx hy hr hr2
  go_enter Tryz.func3, Tryz.ntmps3
  go_wp2_with fail
  refine (great_two HX.out HY.out _).mono ?_
  rintro e w1 ⟨⟨b, rfl, hb⟩, rfl⟩
  have cw1 : Below w.heap.size w (w.alloc (.cells #[.slice A L.length c, .slice B M.length d] 22)) := below_one (Below.refl _ _) _
  have C1 := Lib.hid cw1
  have HX1 := Lib.hid (HX.out.below cw1)
  have HY1 := Lib.hid (HY.out.below cw1)
  obtain ⟨w1, ew1⟩ : ∃ w1, w.alloc (.cells #[.slice A L.length c, .slice B M.length d] 22) = w1 := ⟨_, rfl⟩
  rw [ew1] at C1 HX1 HY1 ⊢
  clear ew1 cw1 HX HY
  dsimp only
  cases b with
  | true =>
    go_wp2
    go_ret
    exact ⟨rfl, C1.out⟩
  | false =>
    have HS2 := Lib.hid (great_false (c := c) (d := d) hb rfl)
    clear hb
    go_wp2_with fail
    refine (twin_arg HX1.out HS2.out.1).mono ?_
    rintro e w2 ⟨rfl, ⟨S, hT, hSv, hSl⟩, b2⟩
    have RS2 := Lib.hid (twin_range hT hSv HS2.out.1 w.heap.size C1.out.size)
    have S2 := Lib.hid hT
    have SV := Lib.hid hSv
    have SL := Lib.hid hSl
    have HX2 := Lib.hid (HX1.out.below b2)
    have HY2 := Lib.hid (HY1.out.below b2)
    have C2 := Lib.hid (C1.out.trans (b2.mono C1.out.size))
    have z2 := b2.size
    clear hT hSv hSl b2 HX1 HY1
    obtain ⟨g, eg⟩ : ∃ g, w1.heap.size = g := ⟨_, rfl⟩
    have zw := C1.out.size
    rw [eg] at RS2 S2 z2 zw ⊢
    clear eg C1
    dsimp only
    go_wp2_with fail
    refine (twin_arg HY2.out HS2.out.2).mono ?_
    rintro e w3 ⟨rfl, ⟨T, hT, hTv, hTl⟩, b3⟩
    have RT3 := Lib.hid (twin_range hT hTv HS2.out.2 w.heap.size C2.out.size)
    have T3 := Lib.hid hT
    have TV := Lib.hid hTv
    have TL := Lib.hid hTl
    have RS3 := Lib.hid (RS2.out.below b3)
    have S3 := Lib.hid (S2.out.below b3)
    have HX3 := Lib.hid (HX2.out.below b3)
    have HY3 := Lib.hid (HY2.out.below b3)
    have C3 := Lib.hid (C2.out.trans (b3.mono C2.out.size))
    have z3 := b3.size
    clear hT hTv hTl b3 HX2 HY2 RS2 S2 C2
    obtain ⟨h, eh⟩ : ∃ h, w2.heap.size = h := ⟨_, rfl⟩
    rw [eh] at RT3 T3 RS3 z2 z3 ⊢
    clear eh
    dsimp only
    have STE : Hid (∀ W, TwinV W g g 2 S → TwinV W h h 2 T → Calls Tryz.prog 7 #[.slice (some ⟨g, 0, none⟩) L.length (L.length + 2), .slice (some ⟨h, 0, none⟩) M.length (M.length + 2)] W (VAns W (stepA (vecs L) (vecs M)) (errE (mayM (vecs L) (vecs M))))) := Lib.hid (fun W h1 h2 => by
      have h3 := HS.out _ (L.length + 2) S _ (M.length + 2) T W (h1.arg SV.out HS2.out.1 HX3.out.b8) (h2.arg TV.out HS2.out.2 HY3.out.b8)
      rw [SL.out, TL.out, SV.out, TV.out] at h3; exact h3)
    have COE : Hid (∀ W, TwinV W g g 2 S → TwinV W h h 2 T → Calls Tryz.prog 8 #[.slice (some ⟨g, 0, none⟩) L.length (L.length + 2), .slice (some ⟨h, 0, none⟩) M.length (M.length + 2)] W fun e w' => e = .returned (.tuple #[.int .i64 (costA (vecs L) (vecs M)), .int .i64 (errE (mayM (vecs L) (vecs M)))]) ∧ Below W.heap.size W w') := Lib.hid (fun W h1 h2 => by
      have h3 := HC.out _ (L.length + 2) S _ (M.length + 2) T W (h1.arg SV.out HS2.out.1 HX3.out.b8) (h2.arg TV.out HS2.out.2 HY3.out.b8)
      rw [SL.out, TL.out, SV.out, TV.out] at h3; exact h3)
    have AL := Lib.hid (stepA_len (vecs L) (vecs M) HX3.out.b8 HY3.out.b8)
    have eE : (errE (mayM (vecs L) (vecs M)) != errE (mayM (vecs L) (vecs M))) = false := by simp
    have eN : (costA (vecs L) (vecs M) != costA (vecs L) (vecs M)) = false := by simp
    have RSE := Lib.hid (fun W (h1 : Given W A L) (h2 : Given W B M) => refStep_arg A c L B d M W (h1.arg HS2.out.1) (h2.arg HS2.out.2))
    have RCE := Lib.hid (fun W (h1 : Given W A L) (h2 : Given W B M) => refCost_any A c L B d M W (h1.arg HS2.out.1) (h2.arg HS2.out.2))
    obtain ⟨E, ee⟩ : ∃ E, errE (mayM (vecs L) (vecs M)) = E := ⟨_, rfl⟩
    obtain ⟨N, en⟩ : ∃ N, costA (vecs L) (vecs M) = N := ⟨_, rfl⟩
    obtain ⟨R, er⟩ : ∃ R, stepA (vecs L) (vecs M) = R := ⟨_, rfl⟩
    simp only [ee, en, er] at STE COE eE eN RSE RCE AL
    clear ee en er HS HC
    go_wp2_with fail
    refine (STE.out w3 S3.out T3.out).mono ?_
    rintro e w4 ⟨A4, k4, L4, rfl, o4, p4, v4, b4⟩
    have RA4 := Lib.hid (ans_range o4 p4 v4 AL.out.2.1 w.heap.size C3.out.size)
    have VA4 := Lib.hid (argOf o4 v4 (by have := AL.out.1; omega) AL.out.2.1 AL.out.2.2)
    have LV4 := Lib.hid v4
    have RS4 := Lib.hid (RS3.out.below b4)
    have RT4 := Lib.hid (RT3.out.below b4)
    have S4 := Lib.hid (S3.out.below b4)
    have T4 := Lib.hid (T3.out.below b4)
    have HX4 := Lib.hid (HX3.out.below b4)
    have HY4 := Lib.hid (HY3.out.below b4)
    have C4 := Lib.hid (C3.out.trans (b4.mono C3.out.size))
    have z4 := b4.size
    clear o4 p4 v4 b4 RS3 RT3 S3 T3 HX3 HY3 C3
    dsimp only
    go_wp2_with fail
    refine (STE.out w4 S4.out T4.out).mono ?_
    rintro e w5 ⟨A5, k5, L5, rfl, o5, p5, v5, b5⟩
    have RB5 := Lib.hid (ans_range o5 p5 v5 AL.out.2.1 w.heap.size C4.out.size)
    have VB5 := Lib.hid (argOf o5 v5 (by have := AL.out.1; omega) AL.out.2.1 AL.out.2.2)
    have LV5 := Lib.hid v5
    have RA5 := Lib.hid (RA4.out.below b5)
    have VA5 := Lib.hid (VA4.out.below b5)
    have RS5 := Lib.hid (RS4.out.below b5)
    have RT5 := Lib.hid (RT4.out.below b5)
    have S5 := Lib.hid (S4.out.below b5)
    have T5 := Lib.hid (T4.out.below b5)
    have HX5 := Lib.hid (HX4.out.below b5)
    have HY5 := Lib.hid (HY4.out.below b5)
    have C5 := Lib.hid (C4.out.trans (b5.mono C4.out.size))
    have z5 := b5.size
    clear o5 p5 v5 b5 RS4 RT4 S4 T4 HX4 HY4 C4 RA4 VA4 STE
    dsimp only
    go_wp2_with fail
    refine (COE.out w5 S5.out T5.out).mono ?_
    rintro e w6 ⟨rfl, b6⟩
    have RB6 := Lib.hid (RB5.out.below b6)
    have VB6 := Lib.hid (VB5.out.below b6)
    have RA6 := Lib.hid (RA5.out.below b6)
    have VA6 := Lib.hid (VA5.out.below b6)
    have RS6 := Lib.hid (RS5.out.below b6)
    have RT6 := Lib.hid (RT5.out.below b6)
    have S6 := Lib.hid (S5.out.below b6)
    have T6 := Lib.hid (T5.out.below b6)
    have HX6 := Lib.hid (HX5.out.below b6)
    have HY6 := Lib.hid (HY5.out.below b6)
    have C6 := Lib.hid (C5.out.trans (b6.mono C5.out.size))
    clear b6 RS5 RT5 S5 T5 HX5 HY5 C5 RA5 VA5 RB5 VB5 COE
    dsimp only
    go_wp2_with fail
    refine (RSE.out w6 HX6.out HY6.out).mono ?_
    rintro e w7 ⟨A7, k7, L7, rfl, o7, v7, b7⟩
    have VW7 := Lib.hid (argOf o7 v7 (by have := AL.out.1; omega) AL.out.2.1 AL.out.2.2)
    have LV7 := Lib.hid v7
    have RB7 := Lib.hid (RB6.out.below b7)
    have VB7 := Lib.hid (VB6.out.below b7)
    have RA7 := Lib.hid (RA6.out.below b7)
    have VA7 := Lib.hid (VA6.out.below b7)
    have RS7 := Lib.hid (RS6.out.below b7)
    have RT7 := Lib.hid (RT6.out.below b7)
    have S7 := Lib.hid (S6.out.below b7)
    have T7 := Lib.hid (T6.out.below b7)
    have HX7 := Lib.hid (HX6.out.below b7)
    have HY7 := Lib.hid (HY6.out.below b7)
    have C7 := Lib.hid (C6.out.trans (b7.mono C6.out.size))
    clear o7 v7 b7 RS6 RT6 S6 T6 HX6 HY6 C6 RA6 VA6 RB6 VB6 RSE
    dsimp only
    go_wp2_with fail
    refine (RCE.out w7 HX7.out HY7.out).mono ?_
    rintro e w8 ⟨rfl, nq, hw8⟩
    have b8 : Below w7.heap.size w7 w8 := by rw [hw8]; exact below_drewN (Below.refl _ _) nq
    have S1 := Lib.hid (fun W (hb : Below w7.heap.size w7 W) => same_arg A4 k4 L4 A7 k7 L7 W (VA7.out.below hb) (VW7.out.below hb))
    have S2' := Lib.hid (fun W (hb : Below w7.heap.size w7 W) => same_arg A5 k5 L5 A7 k7 L7 W (VB7.out.below hb) (VW7.out.below hb))
    have Q1 : decide (vecs L4 = vecs L7) = true := decide_eq_true (LV4.out.trans LV7.out.symm)
    have Q2 : decide (vecs L5 = vecs L7) = true := decide_eq_true (LV5.out.trans LV7.out.symm)
    rw [Q1] at S1
    rw [Q2] at S2'
    have LE1 := Lib.hid (fun W (hb : Below w7.heap.size w7 W) => left_arg (c := c) (S7.out.below hb) SV.out (HX7.out.below hb) HR.out HS2.out.1)
    have LE2 := Lib.hid (fun W (hb : Below w7.heap.size w7 W) => left_arg (c := d) (T7.out.below hb) TV.out (HY7.out.below hb) HR2.out HS2.out.2)
    have L4l : L4.length ≤ 20000 := by have := AL.out.1; rw [← vecs_len, LV4.out]; omega
    have L5l : L5.length ≤ 20000 := by have := AL.out.1; rw [← vecs_len, LV5.out]; omega
    have B4 := Lib.hid L4l
    have B5 := Lib.hid L5l
    clear hw8 Q1 Q2 S7 T7 HX7 HY7 VA7 VB7 VW7 LV4 LV5 LV7 RCE AL L4l L5l
    dsimp only
    go_wp2_with (first
      | (go_at_call 11; (with_reducible refine (S1.out _ b8).mono ?_); rintro e w9 ⟨rfl, b9⟩; have c9 := b8.trans (b9.mono b8.size))
      | (go_at_call 11; (with_reducible refine (S2'.out _ c9).mono ?_); rintro e w10 ⟨rfl, b10⟩; have c10 := c9.trans (b10.mono c9.size))
      | (go_at_call 12; (with_reducible refine (LE1.out _ c10).mono ?_); rintro e w11 ⟨rfl, b11⟩; have c11 := c10.trans (b11.mono c10.size))
      | (go_at_call 12; (with_reducible refine (LE2.out _ c11).mono ?_); rintro e w12 ⟨rfl, b12⟩; have c12 := Lib.hid (c11.trans (b12.mono c11.size))))
    have cz := c12.out.size
    have RS := Lib.hid (RS7.out.below c12.out)
    have RT := Lib.hid (RT7.out.below c12.out)
    have RA := Lib.hid (RA7.out.below c12.out)
    have RB := Lib.hid (RB7.out.below c12.out)
    have CC := Lib.hid (C7.out.trans (c12.out.mono C7.out.size))
    clear RS7 RT7 RA7 RB7 S1 S2' LE1 LE2 c9 c10 c11 b9 b10 b11 b12 b8 C7 eE eN
    have BS0 := bs_new w12 w.heap.size g
    have cn : Below w12.heap.size w12 (w12.alloc newBook) := below_one (Below.refl _ _) _
    have RS' := Lib.hid (RS.out.below cn)
    have RT' := Lib.hid (RT.out.below cn)
    have RA' := Lib.hid (RA.out.below cn)
    have RB' := Lib.hid (RB.out.below cn)
    have CD := Lib.hid (CC.out.trans (cn.mono CC.out.size))
    have hbk : w.heap.size ≤ w12.heap.size := CC.out.size
    obtain ⟨wb, ewb⟩ : ∃ wb, w12.alloc newBook = wb := ⟨_, rfl⟩
    obtain ⟨bk, ebk⟩ : ∃ bk, w12.heap.size = bk := ⟨_, rfl⟩
    have e9 : w12.alloc (Obj.cells #[Value.int IntKind.i64 0, Value.slice none 0 0, Value.slice none 0 0, Value.slice none 0 0, Value.slice none 0 0, Value.slice none 0 0, Value.slice none 0 0, Value.slice none 0 0, Value.slice none 0 0, Value.slice none 0 0, Value.slice none 0 0, Value.slice none 0 0, Value.slice none 0 0] 44) = wb := ewb
    rw [e9, ebk]
    rw [ewb, ebk] at BS0
    rw [ewb] at RS' RT' RA' RB' CD
    rw [ebk] at hbk
    have B0 := Lib.hid BS0
    clear e9 ewb ebk cn BS0 RS RT RA RB CC c12
    have hSl : S.length ≤ 20000 := by rw [SL.out]; exact HS2.out.1.len
    have hTl : T.length ≤ 20000 := by rw [TL.out]; exact HS2.out.2.len
    have K1 := bs_step B0.out RS'.out z2 CD.out.size hbk hSl (by omega)
    rw [SL.out] at K1
    have K1' := Lib.hid K1
    have HSL := Lib.hid hSl
    have HTL := Lib.hid hTl
    have Hz2 := Lib.hid z2
    have Hz3 := Lib.hid z3
    have Hz4 := Lib.hid z4
    have Hz5 := Lib.hid z5
    have HL1 := Lib.hid HS2.out.1.len
    have HL2 := Lib.hid HS2.out.2.len
    clear K1 hSl hTl z2 z3 z4 z5 B0
    refine K1'.out.mono ?_
    rintro e wa ⟨rfl, h1, q1⟩
    have B1 := Lib.hid h1
    have RT1 := Lib.hid (RT'.out.kr q1)
    have RA1 := Lib.hid (RA'.out.kr q1)
    have RB1 := Lib.hid (RB'.out.kr q1)
    have CE := Lib.hid (CD.out.trans q1.below)
    clear h1 q1 RS' RT' RA' RB' CD K1'
    dsimp only
    have K2 := bs_step B1.out RT1.out Hz3.out CE.out.size hbk HTL.out (by have := HL1.out; omega)
    rw [TL.out] at K2
    have K2' := Lib.hid K2
    clear K2
    go_wp2_with fail
    refine K2'.out.mono ?_
    rintro e wc ⟨rfl, h1, q1⟩
    have B2 := Lib.hid h1
    have RA2 := Lib.hid (RA1.out.kr q1)
    have RB2 := Lib.hid (RB1.out.kr q1)
    have CF := Lib.hid (CE.out.trans q1.below)
    clear h1 q1 RT1 RA1 RB1 CE K2' B1
    dsimp only
    have K3' := Lib.hid (bs_step B2.out RA2.out Hz4.out CF.out.size hbk B4.out (by have := HL1.out; have := HL2.out; omega))
    go_wp2_with fail
    refine K3'.out.mono ?_
    rintro e wd ⟨rfl, h1, q1⟩
    have B3 := Lib.hid h1
    have RB3 := Lib.hid (RB2.out.kr q1)
    have CG := Lib.hid (CF.out.trans q1.below)
    clear h1 q1 RA2 RB2 CF K3' B2
    dsimp only
    have K4' := Lib.hid (bs_step B3.out RB3.out Hz5.out CG.out.size hbk B5.out (by have := HL1.out; have := HL2.out; have := B4.out; omega))
    go_wp2_with fail
    refine K4'.out.mono ?_
    rintro e we ⟨rfl, h1, q1⟩
    have AP := Lib.hid (bs_apart h1 (CG.out.trans q1.below).size)
    have CH := Lib.hid (CG.out.trans q1.below)
    clear h1 q1 RB3 CG K4' B3
    dsimp only
    go_wp2_with fail
    refine AP.out.mono ?_
    rintro e wf ⟨rfl, b13⟩
    have CI := Lib.hid (CH.out.trans b13)
    clear b13 AP CH
    dsimp only
    go_wp2
    go_ret
    exact ⟨rfl, CI.out⟩
end Go.Proofs.YtcakmcegcbameaaGreat
