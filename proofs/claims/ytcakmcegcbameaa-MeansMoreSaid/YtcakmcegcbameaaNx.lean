/- The walk of MeansMore. -/
import Derived.Test.YtcakmcegcbameaaNs
namespace Go.Proofs.Ytcakmcegcbameaa
open Go.RowKit
set_option linter.unusedVariables false
theorem mayTB_rounds {vs : List (List Int)} {k r : Int} (h0 : 0 ≤ r) (h1 : r ≤ 100) : mayTB vs k r = mayTB vs k 0 := by
  unfold mayTB
  congr 1
  apply propext
  constructor
  · rintro ⟨a, b, c, d, _, _⟩; exact ⟨a, b, c, d, by omega, by omega⟩
  · rintro ⟨a, b, c, d, _, _⟩; exact ⟨a, b, c, d, h0, h1⟩
theorem given_small {w : World} {A : Option Addr} {L : List Vc} {z : Int} (hx : Given w A L) (hz : SzIs (vecs L) z) (h : z ≤ 1000) : Small L := by
  rcases hz.2.2 with h1 | h1
  · unfold Small; omega
  · omega
theorem train_yes {vs : List (List Int)} {k : Nat} {r : Int} {s : Nat} (h : mayTB vs k r = true) : trainA vs k r s = stepsL vs r.toNat (firstL vs s k) := by
  unfold trainA; rw [h]; rfl
theorem train_may {vs : List (List Int)} {k : Nat} {s : Nat} (h : mayTB vs k 0 = true) (n : Nat) : mayM (stepsL vs n (firstL vs s k)) vs = true := by
  obtain ⟨h1, h2, h3, h4, _⟩ := mayTB_yes h
  exact stepsL_may (firstL_may h1 (by omega) (by omega) (by omega)) n
theorem train_b8 {vs : List (List Int)} {k s : Nat} (hb : B8 vs) (n : Nat) : B8 (stepsL vs n (firstL vs s k)) := stepsL_b8 (fun v hv => hb v (firstL_mem hv)) hb n
theorem may_arg {w : World} {base : Nat} {A : Option Addr} {c : Nat} {L : List Vc} {ms vs : List (List Int)} (o : OwnV w base A c L) (v : vecs L = ms) (h : mayM ms vs = true) (b : B8 ms) : VArg w A L := by
  have hm := mayM_yes h
  have hb := mayB_yes hm.2.1
  exact argOf o v (by omega) (fun u hu => by rw [mayB_len hm.2.1 u hu]; exact hb.2.2.2.1) b
set_option maxRecDepth 100000 in
set_option maxHeartbeats 4000000 in
theorem meansMore_main (hS : StepSpec) (hC : CostSpec) (hN : NearSpec) (hT : TrainSpec) (A : Option Addr) (c : Nat) (L : List Vc) (K R : Int) (S : Nat) (w : World) (hx : Given w A L) (hs : S < 18446744073709551616) (hR1 : -9223372036854775808 ≤ R) (hR2 : R ≤ 9223372036854775807) :
    Calls Try.prog 7 #[.slice A L.length c, .agg #[.int .i64 K, .int .i64 R, .int .u64 (S : Nat)]] w fun e w' => e = .returned (.bool true) ∧ Below w.heap.size w w' := by
  have HT := Lib.hid hT
  have HC := Lib.hid hC
  have AL := Lib.hid (fun w => alive_any hS hC hN hT w)
  have HS := Lib.hid hs
  have cw0 : Below w.heap.size w (w.alloc (.cells #[.int .i64 K, .int .i64 R, .int .u64 (S : Nat)] 44)) := below_one (Below.refl _ _) _
  have HX0 := Lib.hid (hx.below cw0)
  have C0 := Lib.hid cw0
  have BX0 : Whole (w.alloc (.cells #[.int .i64 K, .int .i64 R, .int .u64 (S : Nat)] 44)) w.heap.size 44 #[.int .i64 K, .int .i64 R, .int .u64 (S : Nat)] := Whole.new w 44 _
  have HB0 := Lib.hid BX0
  clear hS hC hN hT hx hs cw0 BX0
  go_enter Try.func7, Try.ntmps7
  go_wp2_with fail
  obtain ⟨bx, ebx⟩ : ∃ bx, w.heap.size = bx := ⟨_, rfl⟩
  obtain ⟨w0, ew0⟩ : ∃ w0, w.alloc (.cells #[.int .i64 K, .int .i64 R, .int .u64 (S : Nat)] 44) = w0 := ⟨_, rfl⟩
  rw [ew0] at HX0 C0 HB0 ⊢
  rw [ebx] at HB0 ⊢
  clear ew0 ebx
  refine (AL.out _).mono ?_
  rintro e w1 ⟨rfl, b1⟩
  have HX1 := Lib.hid (HX0.out.below b1)
  have HB1 := Lib.hid (HB0.out.below b1 HB0.out.lt)
  have C1 := Lib.hid (C0.out.trans (b1.mono C0.out.size))
  clear HX0 HB0 C0 b1
  dsimp only
  go_wp2_with fail
  refine (size_any A c L _ rfl w1 _ HX1.out.rd HX1.out.len HX1.out.vec).mono ?_
  rintro e w2 ⟨⟨z, rfl, hz⟩, rfl⟩
  have HZ := Lib.hid hz
  have hz0 := hz.1
  have hz1 := hz.2.1
  have r0 : w1.cell? ⟨bx, 0, none⟩ = some (.int .i64 K) := HB1.out.cell 0
  have r1 : w1.cell? ⟨bx, 1, none⟩ = some (.int .i64 R) := HB1.out.cell 1
  have r2 : w1.cell? ⟨bx, 2, none⟩ = some (.int .u64 (S : Nat)) := HB1.out.cell 2
  clear hz
  dsimp only
  by_cases hbig : 1000 < z ∨ R < 0 ∨ 20 < R
  · have fin : ∀ w3, Below w1.heap.size w1 w3 → Below w.heap.size w w3 := fun w3 b3 => C1.out.trans (b3.mono C1.out.size)
    have FIN := Lib.hid fin
    clear fin
    by_cases h1 : 1000 < z
    · have e1 : decide (1000 < z) = true := decide_eq_true h1
      clear hbig h1
      go_wp2_with fail
      refine (AL.out _).mono ?_
      rintro e w3 ⟨rfl, b3⟩
      go_wp2
      go_ret
      exact ⟨rfl, FIN.out _ b3⟩
    · have e1 : decide (1000 < z) = false := decide_eq_false h1
      by_cases h2 : R < 0
      · have e2 : decide (R < 0) = true := decide_eq_true h2
        clear hbig h1 h2
        go_wp2_with fail
        refine (AL.out _).mono ?_
        rintro e w3 ⟨rfl, b3⟩
        go_wp2
        go_ret
        exact ⟨rfl, FIN.out _ b3⟩
      · have e2 : decide (R < 0) = false := decide_eq_false h2
        have e3 : decide (20 < R) = true := decide_eq_true (by omega)
        clear hbig h1 h2
        go_wp2_with fail
        refine (AL.out _).mono ?_
        rintro e w3 ⟨rfl, b3⟩
        go_wp2
        go_ret
        exact ⟨rfl, FIN.out _ b3⟩
  · have e1 : decide (1000 < z) = false := decide_eq_false (by omega)
    have e2 : decide (R < 0) = false := decide_eq_false (by omega)
    have e3 : decide (20 < R) = false := decide_eq_false (by omega)
    have hR0 : 0 ≤ R := by omega
    have hR20 : R ≤ 20 := by omega
    have VX1 := Lib.hid (HX1.out.arg (given_small HX1.out HZ.out (by omega)))
    have T1 := Lib.hid (fun W (h : VArg W A L) => HT.out A c L K 0 S W h HS.out)
    have T2 := Lib.hid (fun W (h : VArg W A L) => HT.out A c L K R S W h HS.out)
    have T3 := Lib.hid (fun W (h : VArg W A L) => HT.out A c L K (R + 1) S W h HS.out)
    rw [show mayTB (vecs L) K R = mayTB (vecs L) K 0 from mayTB_rounds hR0 (by omega)] at T2
    rw [show mayTB (vecs L) K (R + 1) = mayTB (vecs L) K 0 from mayTB_rounds (by omega) (by omega)] at T3
    clear hbig AL HX1 HZ hz0 hz1 HT
    go_wp2_with fail
    refine (T1.out w1 VX1.out).mono ?_
    rintro e w3 ⟨A3, k3, L3, rfl, o3, p3, v3, b3⟩
    have VX3 := Lib.hid (VX1.out.below b3)
    have HB3 := Lib.hid (HB1.out.below b3 HB1.out.lt)
    have C3 := Lib.hid (C1.out.trans (b3.mono C1.out.size))
    have O3 := Lib.hid o3
    have s0 : w3.cell? ⟨bx, 0, none⟩ = some (.int .i64 K) := HB3.out.cell 0
    have s1 : w3.cell? ⟨bx, 1, none⟩ = some (.int .i64 R) := HB3.out.cell 1
    have s2 : w3.cell? ⟨bx, 2, none⟩ = some (.int .u64 (S : Nat)) := HB3.out.cell 2
    clear r0 r1 r2 o3 p3 b3 VX1 HB1 C1 T1
    dsimp only
    go_wp2_with fail
    refine (T2.out w3 VX3.out).mono ?_
    rintro e w4 ⟨A4, k4, L4, rfl, o4, p4, v4, b4⟩
    have VX4 := Lib.hid (VX3.out.below b4)
    have HB4 := Lib.hid (HB3.out.below b4 HB3.out.lt)
    have C4 := Lib.hid (C3.out.trans (b4.mono C3.out.size))
    have O3' := Lib.hid (O3.out.below b4)
    have O4 := Lib.hid o4
    have t0 : w4.cell? ⟨bx, 0, none⟩ = some (.int .i64 K) := HB4.out.cell 0
    have t1 : w4.cell? ⟨bx, 1, none⟩ = some (.int .i64 R) := HB4.out.cell 1
    have t2 : w4.cell? ⟨bx, 2, none⟩ = some (.int .u64 (S : Nat)) := HB4.out.cell 2
    clear s0 s1 s2 o4 p4 b4 VX3 HB3 C3 T2 O3
    dsimp only
    go_wp2_with fail
    refine (T3.out w4 VX4.out).mono ?_
    rintro e w5 ⟨A5, k5, L5, rfl, o5, p5, v5, b5⟩
    have VX5 := Lib.hid (VX4.out.below b5)
    have HB5 := Lib.hid (HB4.out.below b5 HB4.out.lt)
    have C5 := Lib.hid (C4.out.trans (b5.mono C4.out.size))
    have O3'' := Lib.hid (O3'.out.below b5)
    have O4' := Lib.hid (O4.out.below b5)
    have O5 := Lib.hid o5
    clear t0 t1 t2 o5 p5 b5 VX4 HB4 C4 T3 O3' O4
    dsimp only
    cases hm : mayTB (vecs L) K 0 with
    | false =>
      have E : L3 = [] := by
        have h2 : vecs L3 = [] := by rw [v3]; unfold trainA; rw [hm]; rfl
        exact List.eq_nil_of_length_eq_zero (by rw [← vecs_len, h2]; rfl)
      subst E
      rw [show errE false = 1 from rfl]
      clear hm v3 v4 v5
      go_wp2
      go_ret
      exact ⟨rfl, C5.out⟩
    | true =>
      rw [show errE true = 0 from rfl]
      obtain ⟨k, rfl⟩ := Int.eq_ofNat_of_zero_le (show 0 ≤ K by have := (mayTB_yes hm).2.1; omega)
      obtain ⟨r, rfl⟩ := Int.eq_ofNat_of_zero_le hR0
      have hkl : k ≤ (vecs L).length := by have := (mayTB_yes hm).2.2.2.1; omega
      have V3 : vecs L3 = firstL (vecs L) S k := by rw [v3, train_yes hm]; rfl
      have V4 : vecs L4 = stepsL (vecs L) r (firstL (vecs L) S k) := by rw [v4, train_yes (by rw [mayTB_rounds hR0 (by omega)]; exact hm)]; rfl
      have V5 : vecs L5 = stepsL (vecs L) (r + 1) (firstL (vecs L) S k) := by rw [v5, train_yes (by rw [mayTB_rounds (by omega) (by omega)]; exact hm)]; rfl
      have m3 := train_may (s := S) hm 0
      have m4 := train_may (s := S) hm r
      have m5 := train_may (s := S) hm (r + 1)
      have A3' := Lib.hid (may_arg O3''.out V3 m3 (train_b8 VX5.out.b8 0))
      have A4' := Lib.hid (may_arg O4'.out V4 m4 (train_b8 VX5.out.b8 r))
      have A5' := Lib.hid (may_arg O5.out V5 m5 (train_b8 VX5.out.b8 (r + 1)))
      have Q3 := Lib.hid (fun W (h1 : VArg W A3 L3) (h2 : VArg W A L) => HC.out A3 k3 L3 A c L W h1 h2)
      have Q4 := Lib.hid (fun W (h1 : VArg W A4 L4) (h2 : VArg W A L) => HC.out A4 k4 L4 A c L W h1 h2)
      have Q5 := Lib.hid (fun W (h1 : VArg W A5 L5) (h2 : VArg W A L) => HC.out A5 k5 L5 A c L W h1 h2)
      have F3 : costA (vecs L3) (vecs L) = costL (vecs L3) (vecs L) := by unfold costA; rw [V3, show mayM (firstL (vecs L) S k) (vecs L) = true from m3]; rfl
      have F4 : costA (vecs L4) (vecs L) = costL (vecs L4) (vecs L) := by unfold costA; rw [V4, m4]; rfl
      have F5 : costA (vecs L5) (vecs L) = costL (vecs L5) (vecs L) := by unfold costA; rw [V5, m5]; rfl
      have M3 : mayM (vecs L3) (vecs L) = true := by rw [V3]; exact m3
      have M4 : mayM (vecs L4) (vecs L) = true := by rw [V4]; exact m4
      have M5 : mayM (vecs L5) (vecs L) = true := by rw [V5]; exact m5
      simp only [F3, M3, show errE true = 0 from rfl] at Q3
      simp only [F4, M4, show errE true = 0 from rfl] at Q4
      simp only [F5, M5, show errE true = 0 from rfl] at Q5
      have c1 : costL (vecs L4) (vecs L) ≤ costL (vecs L3) (vecs L) := by rw [V3, V4]; exact steps_cost0 m3 r
      have c2 : costL (vecs L5) (vecs L) ≤ costL (vecs L4) (vecs L) := by rw [V4, V5]; exact steps_cost m3 r
      have c3 : k = L.length → costL (vecs L3) (vecs L) = 0 := fun h => by
        rw [V3, show k = (vecs L).length by rw [vecs_len]; exact h, firstL_all]; exact costL_self _
      have hl3 : L3.length = k := by rw [← vecs_len, V3, firstL_len hkl]
      have HMEM : Hid (∀ u ∈ vecs L3, u ∈ vecs L) := Lib.hid (fun u hu => by rw [V3] at hu; exact firstL_mem hu)
      obtain ⟨x, ex⟩ : ∃ x, costL (vecs L3) (vecs L) = x := ⟨_, rfl⟩
      obtain ⟨y, ey⟩ : ∃ y, costL (vecs L4) (vecs L) = y := ⟨_, rfl⟩
      obtain ⟨z', ez⟩ : ∃ z, costL (vecs L5) (vecs L) = z := ⟨_, rfl⟩
      simp only [ex] at Q3 c1 c3
      simp only [ey] at Q4 c1 c2
      simp only [ez] at Q5 c2
      have g1 : decide (x < y) = false := decide_eq_false (by omega)
      have g2 : decide (y < z') = false := decide_eq_false (by omega)
      have g3 : ((L3.length : Int) != (k : Int)) = false := by simp; omega
      have HC3 := Lib.hid c3
      have HL3 := Lib.hid hl3
      clear hm v3 v4 v5 V3 V4 V5 m3 m4 m5 F3 F4 F5 M3 M4 M5 c1 c2 c3 ex ey ez hkl O3'' O4' O5 HC hl3
      go_wp2_with fail
      refine (Q3.out w5 A3'.out VX5.out).mono ?_
      rintro e w6 ⟨rfl, b6⟩
      have A3a := Lib.hid (A3'.out.below b6)
      have A4a := Lib.hid (A4'.out.below b6)
      have A5a := Lib.hid (A5'.out.below b6)
      have VX6 := Lib.hid (VX5.out.below b6)
      have HB6 := Lib.hid (HB5.out.below b6 HB5.out.lt)
      have C6 := Lib.hid (C5.out.trans (b6.mono C5.out.size))
      clear b6 A3' A4' A5' VX5 HB5 C5 Q3
      dsimp only
      go_wp2_with fail
      refine (Q4.out w6 A4a.out VX6.out).mono ?_
      rintro e w7 ⟨rfl, b7⟩
      have A3b := Lib.hid (A3a.out.below b7)
      have A5b := Lib.hid (A5a.out.below b7)
      have VX7 := Lib.hid (VX6.out.below b7)
      have HB7 := Lib.hid (HB6.out.below b7 HB6.out.lt)
      have C7 := Lib.hid (C6.out.trans (b7.mono C6.out.size))
      clear b7 A3a A4a A5a VX6 HB6 C6 Q4
      dsimp only
      go_wp2_with fail
      refine (Q5.out w7 A5b.out VX7.out).mono ?_
      rintro e w8 ⟨rfl, b8⟩
      have A3c := Lib.hid (A3b.out.below b8)
      have VX8 := Lib.hid (VX7.out.below b8)
      have u0 : w8.cell? ⟨bx, 0, none⟩ = some (.int .i64 (k : Nat)) := (HB7.out.below b8 HB7.out.lt).cell 0
      have C8 := Lib.hid (C7.out.trans (b8.mono C7.out.size))
      clear b8 A3b A5b VX7 HB7 C7 Q5
      dsimp only
      have hxL := Lib.hid (show ∀ q, RdV (w8.drewN q) w8.heap.size A L from fun q => VX8.out.rd.below (below_drewN (Below.refl _ w8) q))
      have hx3 := Lib.hid (show ∀ q, RdV (w8.drewN q) w8.heap.size A3 L3 from fun q => A3c.out.rd.below (below_drewN (Below.refl _ w8) q))
      have hLb := VX8.out.len
      have hL3b := A3c.out.len
      have hvl := Lib.hid VX8.out.vec
      have hv3 := Lib.hid A3c.out.vec
      by_cases hkL : k = L.length
      · have g4 : ((k : Int) == (L.length : Int)) = true := by simp; omega
        have g5 : (x != 0) = false := by rw [HC3.out hkL]; rfl
        clear hkL HC3
        go_wp2
        go_loopw [17] (fun i wr => ∃ j nq : Nat, j ≤ L3.length ∧ i = .int .i64 j ∧ Hid (wr = w8.drewN nq)) (fun i _ => L3.length - (intOf i).toNat)
        case atStart => exact ⟨0, 0, by omega, rfl, rfl⟩
        case round =>
          obtain ⟨j, nq0, hj, rfl, hwr⟩ := hrel
          by_cases hlt : j < L3.length
          · have h3r : RdV wr w8.heap.size A3 L3 := by rw [hwr.out]; exact hx3.out nq0
            obtain ⟨b, off, a1, d1, v1, rfl, hBk, hck, hrd, hv1⟩ := h3r.at_ hlt
            have MEM := Lib.hid (HMEM.out v1 (List.mem_of_getElem? (vecs_at hv1.out)))
            have HVL := Lib.hid (hv3.out v1 (List.mem_of_getElem? (vecs_at hv1.out)))
            have HJ := Lib.hid hv1.out
            have gj : (j : Int) < (L3.length : Int) := by omega
            clear h3r hrd hv1 hck
            go_wp2
            go_loopw [18, 19] (fun fv i w2 => ∃ (fb : Bool) (n nq : Nat), n ≤ L.length ∧ i = .int .i64 n ∧ fv = .bool fb ∧ Hid (w2 = w8.drewN nq) ∧ Hid (fb = true ∨ ∀ q, q < n → vAt (vecs L) q ≠ v1)) (fun _ i _ => L.length - (intOf i).toNat)
            case atStart => exact ⟨false, 0, nq0, by omega, rfl, rfl, hwr, Lib.hid (.inr (fun q hq => absurd hq (Nat.not_lt_zero _)))⟩
            case round =>
              clear hwr
              obtain ⟨fb, n, nq1, hn, rfl, rfl, hwr, HF⟩ := hrel
              by_cases hlt2 : n < L.length
              · have gn0 : (0 : Int) ≤ (n : Int) := by omega
                have gn : (n : Int) < (L.length : Int) := by omega
                have gj0 : (0 : Int) ≤ (j : Int) := by omega
                cases fb with
                | true =>
                  clear HF
                  go_wp2
                  go_quiet (fail)
                  go_wp2
                  go_roundw
                  case rel => exact ⟨true, n + 1, _, by omega, by go_num, rfl, Lib.hid (by rw [hwr.out, World.drewN_drewN]), Lib.hid (.inl rfl)⟩
                  case measure => simp [intOf]; omega
                | false =>
                  have HF2 : Hid (∀ q, q < n → vAt (vecs L) q ≠ v1) := Lib.hid (by
                    rcases HF.out with h | h
                    · cases h
                    · exact h)
                  have h3r : RdV wr w8.heap.size (some ⟨b, off, none⟩) L3 := by rw [hwr.out]; exact hx3.out nq1
                  have hLr : RdV wr w8.heap.size A L := by rw [hwr.out]; exact hxL.out nq1
                  obtain ⟨b', off', a1', d1', v1', hA, hBk', hck', hrd', hv1'⟩ := h3r.at_ hlt
                  simp only [Option.some.injEq, Addr.mk.injEq, and_true] at hA
                  obtain ⟨rfl, rfl⟩ := hA
                  have e0 : (a1', d1', v1') = (a1, d1, v1) := by
                    have h1 := hv1'.out
                    rw [HJ.out] at h1
                    injection h1 with h1
                    exact h1.symm
                  injection e0 with q1 q2
                  injection q2 with q2 q3
                  subst q1 q2 q3
                  obtain ⟨b2, off2, a2, d2, v2, rfl, hBk2, hck2, hrd2, hv2⟩ := hLr.at_ hlt2
                  have SE := Lib.hid (fun q => same8_any a1' a2 d1' d2 v1' v2 (wr.drewN q) w8.heap.size (hrd'.below (below_drewN (Below.refl _ wr) q)) (hrd2.below (below_drewN (Below.refl _ wr) q)) (by have := HVL.out; omega) (by have := hvl.out v2 (List.mem_of_getElem? (vecs_at hv2.out)); omega))
                  have HE := Lib.hid (vecs_vAt hv2.out)
                  clear h3r hLr hrd' hrd2 hv1' hv2 HF
                  by_cases he : v1' = v2
                  · have eb : eqB v1' v2 = true := decide_eq_true he
                    rw [eb] at SE
                    clear eb he
                    go_wp2
                    go_quiet ((go_at_call 24; with_reducible exact Calls.quiet_of (SE.out _)))
                    go_wp2
                    go_roundw
                    case rel => exact ⟨true, n + 1, _, by omega, by go_num, rfl, Lib.hid (by rw [hwr.out, World.drewN_drewN]), Lib.hid (.inl rfl)⟩
                    case measure => simp [intOf]; omega
                  · have eb : eqB v1' v2 = false := decide_eq_false he
                    rw [eb] at SE
                    have HN : Hid (false = true ∨ ∀ q, q < n + 1 → vAt (vecs L) q ≠ v1') := Lib.hid (.inr (fun q hq => by
                      rcases Nat.lt_or_ge q n with h | h
                      · exact HF2.out q h
                      · obtain rfl : q = n := by omega
                        rw [HE.out]; exact fun e => he e.symm))
                    clear eb he HF2
                    go_wp2
                    go_quiet ((go_at_call 24; with_reducible exact Calls.quiet_of (SE.out _)))
                    go_wp2
                    go_roundw
                    case rel => exact ⟨false, n + 1, _, by omega, by go_num, rfl, Lib.hid (by rw [hwr.out, World.drewN_drewN]), HN⟩
                    case measure => simp [intOf]; omega
              · obtain rfl : n = L.length := by omega
                have hfb : fb = true := by
                  rcases HF.out with h | h
                  · exact h
                  · obtain ⟨q, hq, e⟩ := mem_vAt MEM.out
                    rw [vecs_len] at hq
                    exact absurd e (h q hq)
                subst hfb
                clear HF
                go_wp2
                go_roundw
                case rel => exact ⟨j + 1, nq1, by omega, by go_num, hwr⟩
                case measure => simp [intOf]; omega
          · obtain rfl : j = L3.length := by omega
            go_wp2
            go_ret
            exact ⟨rfl, by rw [hwr.out]; exact below_drewN C8.out nq0⟩
      · have g4 : ((k : Int) == (L.length : Int)) = false := by simp; omega
        clear hkL HC3
        go_wp2
        go_loopw [17] (fun i wr => ∃ j nq : Nat, j ≤ L3.length ∧ i = .int .i64 j ∧ Hid (wr = w8.drewN nq)) (fun i _ => L3.length - (intOf i).toNat)
        case atStart => exact ⟨0, 0, by omega, rfl, rfl⟩
        case round =>
          obtain ⟨j, nq0, hj, rfl, hwr⟩ := hrel
          by_cases hlt : j < L3.length
          · have h3r : RdV wr w8.heap.size A3 L3 := by rw [hwr.out]; exact hx3.out nq0
            obtain ⟨b, off, a1, d1, v1, rfl, hBk, hck, hrd, hv1⟩ := h3r.at_ hlt
            have MEM := Lib.hid (HMEM.out v1 (List.mem_of_getElem? (vecs_at hv1.out)))
            have HVL := Lib.hid (hv3.out v1 (List.mem_of_getElem? (vecs_at hv1.out)))
            have HJ := Lib.hid hv1.out
            have gj : (j : Int) < (L3.length : Int) := by omega
            clear h3r hrd hv1 hck
            go_wp2
            go_loopw [18, 19] (fun fv i w2 => ∃ (fb : Bool) (n nq : Nat), n ≤ L.length ∧ i = .int .i64 n ∧ fv = .bool fb ∧ Hid (w2 = w8.drewN nq) ∧ Hid (fb = true ∨ ∀ q, q < n → vAt (vecs L) q ≠ v1)) (fun _ i _ => L.length - (intOf i).toNat)
            case atStart => exact ⟨false, 0, nq0, by omega, rfl, rfl, hwr, Lib.hid (.inr (fun q hq => absurd hq (Nat.not_lt_zero _)))⟩
            case round =>
              clear hwr
              obtain ⟨fb, n, nq1, hn, rfl, rfl, hwr, HF⟩ := hrel
              by_cases hlt2 : n < L.length
              · have gn0 : (0 : Int) ≤ (n : Int) := by omega
                have gn : (n : Int) < (L.length : Int) := by omega
                have gj0 : (0 : Int) ≤ (j : Int) := by omega
                cases fb with
                | true =>
                  clear HF
                  go_wp2
                  go_quiet (fail)
                  go_wp2
                  go_roundw
                  case rel => exact ⟨true, n + 1, _, by omega, by go_num, rfl, Lib.hid (by rw [hwr.out, World.drewN_drewN]), Lib.hid (.inl rfl)⟩
                  case measure => simp [intOf]; omega
                | false =>
                  have HF2 : Hid (∀ q, q < n → vAt (vecs L) q ≠ v1) := Lib.hid (by
                    rcases HF.out with h | h
                    · cases h
                    · exact h)
                  have h3r : RdV wr w8.heap.size (some ⟨b, off, none⟩) L3 := by rw [hwr.out]; exact hx3.out nq1
                  have hLr : RdV wr w8.heap.size A L := by rw [hwr.out]; exact hxL.out nq1
                  obtain ⟨b', off', a1', d1', v1', hA, hBk', hck', hrd', hv1'⟩ := h3r.at_ hlt
                  simp only [Option.some.injEq, Addr.mk.injEq, and_true] at hA
                  obtain ⟨rfl, rfl⟩ := hA
                  have e0 : (a1', d1', v1') = (a1, d1, v1) := by
                    have h1 := hv1'.out
                    rw [HJ.out] at h1
                    injection h1 with h1
                    exact h1.symm
                  injection e0 with q1 q2
                  injection q2 with q2 q3
                  subst q1 q2 q3
                  obtain ⟨b2, off2, a2, d2, v2, rfl, hBk2, hck2, hrd2, hv2⟩ := hLr.at_ hlt2
                  have SE := Lib.hid (fun q => same8_any a1' a2 d1' d2 v1' v2 (wr.drewN q) w8.heap.size (hrd'.below (below_drewN (Below.refl _ wr) q)) (hrd2.below (below_drewN (Below.refl _ wr) q)) (by have := HVL.out; omega) (by have := hvl.out v2 (List.mem_of_getElem? (vecs_at hv2.out)); omega))
                  have HE := Lib.hid (vecs_vAt hv2.out)
                  clear h3r hLr hrd' hrd2 hv1' hv2 HF
                  by_cases he : v1' = v2
                  · have eb : eqB v1' v2 = true := decide_eq_true he
                    rw [eb] at SE
                    clear eb he
                    go_wp2
                    go_quiet ((go_at_call 24; with_reducible exact Calls.quiet_of (SE.out _)))
                    go_wp2
                    go_roundw
                    case rel => exact ⟨true, n + 1, _, by omega, by go_num, rfl, Lib.hid (by rw [hwr.out, World.drewN_drewN]), Lib.hid (.inl rfl)⟩
                    case measure => simp [intOf]; omega
                  · have eb : eqB v1' v2 = false := decide_eq_false he
                    rw [eb] at SE
                    have HN : Hid (false = true ∨ ∀ q, q < n + 1 → vAt (vecs L) q ≠ v1') := Lib.hid (.inr (fun q hq => by
                      rcases Nat.lt_or_ge q n with h | h
                      · exact HF2.out q h
                      · obtain rfl : q = n := by omega
                        rw [HE.out]; exact fun e => he e.symm))
                    clear eb he HF2
                    go_wp2
                    go_quiet ((go_at_call 24; with_reducible exact Calls.quiet_of (SE.out _)))
                    go_wp2
                    go_roundw
                    case rel => exact ⟨false, n + 1, _, by omega, by go_num, rfl, Lib.hid (by rw [hwr.out, World.drewN_drewN]), HN⟩
                    case measure => simp [intOf]; omega
              · obtain rfl : n = L.length := by omega
                have hfb : fb = true := by
                  rcases HF.out with h | h
                  · exact h
                  · obtain ⟨q, hq, e⟩ := mem_vAt MEM.out
                    rw [vecs_len] at hq
                    exact absurd e (h q hq)
                subst hfb
                clear HF
                go_wp2
                go_roundw
                case rel => exact ⟨j + 1, nq1, by omega, by go_num, hwr⟩
                case measure => simp [intOf]; omega
          · obtain rfl : j = L3.length := by omega
            go_wp2
            go_ret
            exact ⟨rfl, by rw [hwr.out]; exact below_drewN C8.out nq0⟩
end Go.Proofs.Ytcakmcegcbameaa
