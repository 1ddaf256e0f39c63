/- The walk of MeansBetter. -/
import Derived.Test.YtcakmcegcbameaaNr
namespace Go.Proofs.Ytcakmcegcbameaa
open Go.RowKit
set_option linter.unusedVariables false
theorem vans_argOf {w w' : World} {ms vs : List (List Int)} {A : Option Addr} {c : Nat} {L : List Vc} (o : OwnV w' w.heap.size A c L) (v : vecs L = stepL ms vs) (h : mayM ms vs = true) (b1 : B8 ms) (b2 : B8 vs) : VArg w' A L := by
  have hm := mayM_yes (stepL_may h).1
  have hb := mayB_yes hm.2.1
  exact argOf o v (by omega) (fun u hu => by rw [mayB_len hm.2.1 u hu]; exact hb.2.2.2.1) (stepL_b8 b1 b2)
set_option maxRecDepth 100000 in
set_option maxHeartbeats 1000000 in
theorem meansBetter_main (hS : StepSpec) (hC : CostSpec) (hN : NearSpec) (hT : TrainSpec) (A : Option Addr) (c : Nat) (L : List Vc) (B : Option Addr) (d : Nat) (M : List Vc) (w : World) (hx : Given w A L) (hy : Given w B M) :
    Calls Try.prog 4 #[.slice A L.length c, .slice B M.length d] w fun e w' => e = .returned (.bool true) ∧ Below w.heap.size w w' := by
  have HS := Lib.hid hS
  have HC := Lib.hid hC
  have AL := Lib.hid (fun w => alive_any hS hC hN hT w)
  have HX := Lib.hid hx
  have HY := Lib.hid hy
  clear hS hC hN hT hx hy
  go_enter Try.func4, Try.ntmps4
  go_wp2_with fail
  refine (AL.out _).mono ?_
  rintro e w1 ⟨rfl, b1⟩
  have HX1 := Lib.hid (HX.out.below b1)
  have HY1 := Lib.hid (HY.out.below b1)
  have C1 := Lib.hid b1
  clear HX HY b1
  dsimp only
  go_wp2_with fail
  refine (great_two HX1.out HY1.out _).mono ?_
  rintro e w2 ⟨⟨b, rfl, hb⟩, rfl⟩
  have cw2 : Below w1.heap.size w1 (w1.alloc (.cells #[.slice A L.length c, .slice B M.length d] 22)) := below_one (Below.refl _ _) _
  have C2 := Lib.hid (C1.out.trans (cw2.mono C1.out.size))
  have HX2 := Lib.hid (HX1.out.below cw2)
  have HY2 := Lib.hid (HY1.out.below cw2)
  obtain ⟨w2, ew2⟩ : ∃ w2, w1.alloc (.cells #[.slice A L.length c, .slice B M.length d] 22) = w2 := ⟨_, rfl⟩
  rw [ew2] at C2 HX2 HY2 ⊢
  clear ew2 cw2 HX1 HY1 C1
  dsimp only
  cases b with
  | true =>
    go_wp2_with fail
    refine (AL.out _).mono ?_
    rintro e w3 ⟨rfl, b3⟩
    go_wp2
    go_ret
    exact ⟨rfl, C2.out.trans (b3.mono C2.out.size)⟩
  | false =>
    have VX := Lib.hid (HX2.out.arg (hb rfl (A, c, L) (by simp)))
    have VY := Lib.hid (HY2.out.arg (hb rfl (B, d, M) (by simp)))
    clear hb AL HX2 HY2
    go_wp2_with fail
    refine (HC.out A c L B d M w2 VX.out VY.out).mono ?_
    rintro e w3 ⟨rfl, b3⟩
    have VX3 := Lib.hid (VX.out.below b3)
    have VY3 := Lib.hid (VY.out.below b3)
    have C3 := Lib.hid (C2.out.trans (b3.mono C2.out.size))
    clear VX VY C2 b3
    dsimp only
    go_wp2_with fail
    refine (HS.out A c L B d M w3 VX3.out VY3.out).mono ?_
    rintro e w4 ⟨A4, k4, L4, rfl, o4, p4, v4, b4⟩
    have VX4 := Lib.hid (VX3.out.below b4)
    have VY4 := Lib.hid (VY3.out.below b4)
    have C4 := Lib.hid (C3.out.trans (b4.mono C3.out.size))
    have O4 := Lib.hid o4
    clear VX3 VY3 C3 b4 o4 p4
    dsimp only
    cases hm : mayM (vecs L) (vecs M) with
    | false =>
      have E1 : costA (vecs L) (vecs M) = 0 := by unfold costA; rw [hm]; rfl
      have E2 : L4 = [] := by
        have h2 : vecs L4 = [] := by rw [v4]; unfold stepA; rw [hm]; rfl
        exact List.eq_nil_of_length_eq_zero (by rw [← vecs_len, h2]; rfl)
      subst E2
      rw [E1, show errE false = 1 from rfl]
      clear hm v4 E1 O4
      go_wp2
      go_ret
      exact ⟨rfl, C4.out⟩
    | true =>
      have E1 : costA (vecs L) (vecs M) = costL (vecs L) (vecs M) := by unfold costA; rw [hm]; rfl
      have V4 : Hid (vecs L4 = stepL (vecs L) (vecs M)) := Lib.hid (by rw [v4]; unfold stepA; rw [hm]; rfl)
      have VS := Lib.hid (vans_argOf O4.out V4.out hm VX4.out.b8 VY4.out.b8)
      have hlen : L4.length = L.length := by rw [← vecs_len, V4.out, stepL_len, vecs_len]
      have HLEN := Lib.hid hlen
      have hn0 := costL_nonneg (vecs L) (vecs M)
      have hle := step_cost hm
      have hm2 := (stepL_may hm).1
      have E3 : costA (vecs L4) (vecs M) = costL (vecs L4) (vecs M) := by unfold costA; rw [V4.out, hm2]; rfl
      have E4 : mayM (vecs L4) (vecs M) = true := by rw [V4.out]; exact hm2
      rw [← V4.out] at hle
      rw [E1, show errE true = 0 from rfl]
      have HN0 := Lib.hid hn0
      have HLE := Lib.hid hle
      have HE3 := Lib.hid E3
      have HE4 := Lib.hid E4
      clear E1 hm2 v4 hm O4 hlen hn0 hle E3 E4
      go_wp2_with fail
      refine (HC.out A4 k4 L4 B d M w4 VS.out VY4.out).mono ?_
      rintro e w5 ⟨rfl, b5⟩
      rw [HE3.out, HE4.out, show errE true = 0 from rfl]
      have VX5 := Lib.hid (VX4.out.below b5)
      have VY5 := Lib.hid (VY4.out.below b5)
      have VS5 := Lib.hid (VS.out.below b5)
      have C5 := Lib.hid (C4.out.trans (b5.mono C4.out.size))
      clear VX4 VY4 VS C4 b5
      dsimp only
      go_wp2_with fail
      refine (HS.out A4 k4 L4 B d M w5 VS5.out VY5.out).mono ?_
      rintro e w6 ⟨A6, k6, L6, rfl, o6, p6, v6, b6⟩
      rw [HE4.out, show errE true = 0 from rfl]
      have V6 : Hid (vecs L6 = stepL (vecs L4) (vecs M)) := Lib.hid (by rw [v6]; unfold stepA; rw [HE4.out]; rfl)
      have VT := Lib.hid (vans_argOf o6 V6.out HE4.out VS5.out.b8 VY5.out.b8)
      have VX6 := Lib.hid (VX5.out.below b6)
      have VS6 := Lib.hid (VS5.out.below b6)
      have C6 := Lib.hid (C5.out.trans (b6.mono C5.out.size))
      clear VX5 VY5 VS5 C5 b6 o6 p6 v6 HE3 HE4
      dsimp only
      have SA := Lib.hid (same_arg A4 k4 L4 A c L w6 VS6.out VX6.out)
      have SB := Lib.hid (fun w7 (h : Below w6.heap.size w6 w7) => same_arg A6 k6 L6 A4 k4 L4 w7 (VT.out.below h) (VS6.out.below h))
      have e1 : ((L4.length : Int) == (L.length : Int)) = true := by have := HLEN.out; simp; omega
      have hn0 := HN0.out
      have hle := HLE.out
      obtain ⟨x, ex⟩ : ∃ x, costL (vecs L) (vecs M) = x := ⟨_, rfl⟩
      obtain ⟨y, ey⟩ : ∃ y, costL (vecs L4) (vecs M) = y := ⟨_, rfl⟩
      rw [ex] at hn0 hle ⊢
      rw [ey] at hle ⊢
      have e2 : decide (y ≤ x) = true := decide_eq_true hle
      have e3 : decide (0 ≤ x) = true := decide_eq_true hn0
      clear ex ey hle hn0 VT VS6 VX6 HN0 HLE HLEN
      by_cases hs : vecs L4 = vecs L
      · have E5 : decide (vecs L4 = vecs L) = true := decide_eq_true hs
        have E6 : decide (vecs L6 = vecs L4) = true := decide_eq_true (by rw [V6.out, hs]; rw [← V4.out]; exact hs)
        rw [E5] at SA
        rw [E6] at SB
        clear E5 E6 hs
        go_wp2_with (first
          | (go_at_call 20; with_reducible refine SA.out.mono ?_; rintro e w7 ⟨rfl, b7⟩)
          | (go_at_call 20; with_reducible refine (SB.out w7 b7).mono ?_; rintro e w8 ⟨rfl, b8⟩))
        go_ret
        exact ⟨rfl, (C6.out.trans (b7.mono C6.out.size)).trans (b8.mono (Nat.le_trans C6.out.size b7.size))⟩
      · have E5 : decide (vecs L4 = vecs L) = false := decide_eq_false hs
        rw [E5] at SA
        clear E5 hs SB
        go_wp2_with (go_at_call 20; with_reducible refine SA.out.mono ?_; rintro e w7 ⟨rfl, b7⟩)
        go_ret
        exact ⟨rfl, C6.out.trans (b7.mono C6.out.size)⟩
end Go.Proofs.Ytcakmcegcbameaa
