/- The walk of MeansFirst. -/
import Derived.Test.YtcakmcegcbameaaNt
namespace Go.Proofs.Ytcakmcegcbameaa
open Go.RowKit
set_option linter.unusedVariables false
theorem GivenN.arg {w : World} {B : Option Addr} {d : Nat} {v : List Int} (h : GivenN w B d v) (s : v.length ≤ 1048576) : NArg w B v := ⟨h.rd, s, h.b8⟩
theorem one_given {w : World} {B : Option Addr} {d : Nat} {v : List Int} (t : TypeId) (h : NArg w B v) : VArg (w.alloc (.cells #[.slice B v.length d] t)) (some ⟨w.heap.size, 0, none⟩) [(B, d, v)] := by
  have h1 := one_rd (d := d) t h.rd
  rw [← World.size_alloc w (.cells #[.slice B v.length d] t)] at h1
  exact ⟨h1, by simp, fun u hu => by simp [vecs] at hu; subst hu; exact h.len, fun u hu => by simp [vecs] at hu; subst hu; exact h.b8⟩
theorem costL_one (ms : List (List Int)) (v : List Int) : costL ms [v] = far (vAt ms (nearestI ms v)) v := by simp [costL]
set_option maxRecDepth 100000 in
set_option maxHeartbeats 2000000 in
theorem meansFirst_main (hS : StepSpec) (hC : CostSpec) (hN : NearSpec) (hT : TrainSpec) (A : Option Addr) (c : Nat) (L : List Vc) (B : Option Addr) (d : Nat) (v : List Int) (w : World) (hx : Given w A L) (hy : GivenN w B d v) :
    Calls Try.prog 5 #[.slice A L.length c, .slice B v.length d] w fun e w' => e = .returned (.bool true) ∧ Below w.heap.size w w' := by
  have HN := Lib.hid hN
  have HC := Lib.hid hC
  have AL := Lib.hid (fun w => alive_any hS hC hN hT w)
  have HX := Lib.hid hx
  have HY := Lib.hid hy
  clear hS hC hN hT hx hy
  go_enter Try.func5, Try.ntmps5
  go_wp2_with fail
  refine (AL.out _).mono ?_
  rintro e w1 ⟨rfl, b1⟩
  have HX1 := Lib.hid (HX.out.below b1)
  have HY1 := Lib.hid (HY.out.below b1)
  have C1 := Lib.hid b1
  clear HX HY b1
  dsimp only
  go_wp2_with fail
  refine (great_one HX1.out _).mono ?_
  rintro e w2 ⟨⟨b, rfl, hb⟩, rfl⟩
  have cw2 : Below w1.heap.size w1 (w1.alloc (.cells #[.slice A L.length c] 22)) := below_one (Below.refl _ _) _
  have C2 := Lib.hid (C1.out.trans (cw2.mono C1.out.size))
  have HX2 := Lib.hid (HX1.out.below cw2)
  have HY2 := Lib.hid (HY1.out.below cw2)
  obtain ⟨w2, ew2⟩ : ∃ w2, w1.alloc (.cells #[.slice A L.length c] 22) = w2 := ⟨_, rfl⟩
  rw [ew2] at C2 HX2 HY2 ⊢
  clear ew2 cw2 HX1 HY1 C1
  dsimp only
  cases b with
  | true =>
    go_wp2_with fail
    refine (AL.out _).mono ?_
    rintro e w3 ⟨rfl, b3⟩
    go_wp2
    go_ret
    exact ⟨rfl, C2.out.trans (b3.mono C2.out.size)⟩
  | false =>
    have HSM := Lib.hid (hb rfl (A, c, L) (by simp))
    clear hb
    go_wp2_with fail
    refine (beyond_one v.length HY2.out.len w2).mono ?_
    rintro e w3 ⟨rfl, rfl⟩
    have cw3 : Below w2.heap.size w2 (w2.alloc (.cells #[.int .i64 (v.length : Int)] 3)) := below_one (Below.refl _ _) _
    have C3 := Lib.hid (C2.out.trans (cw3.mono C2.out.size))
    have HX3 := Lib.hid (HX2.out.below cw3)
    have HY3 := Lib.hid (HY2.out.below cw3)
    obtain ⟨w3, ew3⟩ : ∃ w3, w2.alloc (.cells #[.int .i64 (v.length : Int)] 3) = w3 := ⟨_, rfl⟩
    rw [ew3] at C3 HX3 HY3 ⊢
    clear ew3 cw3 HX2 HY2 C2
    dsimp only
    cases hbe : bey [(v.length : Int)] with
    | true =>
      go_wp2_with fail
      refine (AL.out _).mono ?_
      rintro e w4 ⟨rfl, b4⟩
      go_wp2
      go_ret
      exact ⟨rfl, C3.out.trans (b4.mono C3.out.size)⟩
    | false =>
      have HV := Lib.hid (bey_one hbe)
      clear hbe AL
      go_wp2_with fail
      refine (HN.out A c L B d v w3 (HX3.out.arg HSM.out) (HY3.out.arg HV.out)).mono ?_
      rintro e w4 ⟨rfl, b4⟩
      have HX4 := Lib.hid ((HX3.out.below b4).arg HSM.out)
      have HY4 := Lib.hid ((HY3.out.below b4).arg HV.out)
      have C4 := Lib.hid (C3.out.trans (b4.mono C3.out.size))
      clear b4 HX3 HY3 C3 HN
      dsimp only
      cases hm : mayM (vecs L) [v] with
      | false =>
        have E1 : nearA (vecs L) v = 0 := by unfold nearA; rw [hm]; rfl
        rw [E1, show errE false = 1 from rfl]
        clear E1 hm
        go_wp2
        go_ret
        exact ⟨rfl, C4.out⟩
      | true =>
        have E1 : nearA (vecs L) v = ((nearestI (vecs L) v : Nat) : Int) := by unfold nearA; rw [hm]; rfl
        have h1 := mayM_yes hm
        have h2 := mayB_yes h1.2.1
        have hl0 : 1 ≤ (vecs L).length := h2.1
        have hll : L.length ≤ 64 := by have := h1.1; rw [vecs_len] at this; exact this
        have hlv : v.length = dimOf (vecs L) := h1.2.2.2 0 (by simp)
        have HML := Lib.hid (mayB_len h1.2.1)
        have hd1 : 1 ≤ v.length := by rw [hlv]; exact h2.2.2.1
        have hd2 : v.length ≤ 64 := by rw [hlv]; exact h2.2.2.2.1
        have hgl := nearestI_lt (ms := vecs L) v hl0
        rw [vecs_len] at hgl
        have HMIN := Lib.hid (nearI_min (vecs L) v (vecs L).length)
        have HCO : Hid (costA (vecs L) [v] = far (vAt (vecs L) (nearestI (vecs L) v)) v) := Lib.hid (by unfold costA; rw [hm]; exact costL_one _ _)
        have HMM := Lib.hid hm
        have HLV := Lib.hid hlv
        rw [E1, show errE true = 0 from rfl]
        have HNE : Hid (nearestI (vecs L) v = nearI (vecs L) v (vecs L).length) := Lib.hid rfl
        obtain ⟨g, eg⟩ : ∃ g, nearestI (vecs L) v = g := ⟨_, rfl⟩
        rw [eg] at HCO hgl HNE ⊢
        rw [← HNE.out] at HMIN
        clear E1 hm h1 h2 hl0 hlv eg
        obtain ⟨b, off, a1, c1, v1, rfl, hBk, hck, hrd, hv1⟩ := HX4.out.rd.at_ hgl
        have hl1 : v1.length = v.length := by rw [HML.out v1 (List.mem_of_getElem? (vecs_at hv1.out))]; exact HLV.out.symm
        have DI := Lib.hid (dist_yes a1 B c1 d v1 v (by omega) (by omega) hl1.symm v.length hl1.symm w4 hrd HY4.out.rd (b8_at HX4.out.b8 (vecs_at hv1.out)) HY4.out.b8)
        have HG1 := Lib.hid (vecs_vAt hv1.out)
        have g0 : decide ((g : Int) < 0) = false := decide_eq_false (by omega)
        have g1 : decide (L.length ≤ g) = false := decide_eq_false (by omega)
        clear hrd hv1 hl1
        go_wp2_with fail
        refine DI.out.mono ?_
        rintro e w5 ⟨rfl, b5⟩
        have HX5 := Lib.hid (HX4.out.below b5)
        have HY5 := Lib.hid (HY4.out.below b5)
        have C5 := Lib.hid (C4.out.trans (b5.mono C4.out.size))
        clear b5 HX4 HY4 C4 DI hck
        obtain ⟨F, eF⟩ : ∃ F, far v1 v = F := ⟨_, rfl⟩
        have HGF : Hid (far (vAt (vecs L) g) v = F) := Lib.hid (by rw [HG1.out]; exact eF)
        rw [eF]
        rw [HGF.out] at HMIN HCO
        clear eF HG1 HGF
        dsimp only
        go_wp2
        go_loopw [9] (fun i wr => ∃ k : Nat, k ≤ L.length ∧ i = .int .i64 k ∧ Below w5.heap.size w5 wr) (fun i _ => L.length - (intOf i).toNat)
        case atStart => exact ⟨0, by omega, rfl, Below.refl _ _⟩
        case round =>
          obtain ⟨k, hk, rfl, hB⟩ := hrel
          have HXr := Lib.hid (HX5.out.below hB)
          have HYr := Lib.hid (HY5.out.below hB)
          by_cases hlt : k < L.length
          · obtain ⟨b', off', a2, c2, v2, hA, hBk2, hck2, hrd2, hv2⟩ := HXr.out.rd.at_ hlt
            simp only [Option.some.injEq, Addr.mk.injEq, and_true] at hA
            obtain ⟨rfl, rfl⟩ := hA
            have hl2 : v2.length = v.length := by rw [HML.out v2 (List.mem_of_getElem? (vecs_at hv2.out))]; exact HLV.out.symm
            have DK := Lib.hid (dist_yes a2 B c2 d v2 v (by omega) (by omega) hl2.symm v.length hl2.symm wr hrd2 HYr.out.rd (b8_at HXr.out.b8 (vecs_at hv2.out)) HYr.out.b8)
            have m1 := HMIN.out.1 k (by rw [vecs_len]; exact hlt)
            have m2 := HMIN.out.2 k
            rw [vecs_vAt hv2.out] at m1 m2
            obtain ⟨x, ex⟩ : ∃ x, far v2 v = x := ⟨_, rfl⟩
            rw [ex] at DK m1 m2
            have e1 : decide (x < F) = false := decide_eq_false (by omega)
            have HB := Lib.hid hB
            clear hrd2 hv2 hl2 ex m1 hB HXr HYr
            by_cases hxf : x = F
            · have hkg : ¬ k < g := fun h => by have := m2 h; omega
              have e2 : (x == F) = true := by simp [hxf]
              have e3 : decide (k < g) = false := decide_eq_false hkg
              clear m2 hkg hxf
              go_wp2_with (go_at_call 21; refine DK.out.mono ?_; rintro e w6 ⟨rfl, b6⟩)
              go_roundw
              case rel => exact ⟨k + 1, by omega, by go_num, HB.out.trans (b6.mono HB.out.size)⟩
              case measure => simp [intOf]; omega
            · have e2 : (x == F) = false := by simp [hxf]
              clear m2 hxf
              go_wp2_with (go_at_call 21; refine DK.out.mono ?_; rintro e w6 ⟨rfl, b6⟩)
              go_roundw
              case rel => exact ⟨k + 1, by omega, by go_num, HB.out.trans (b6.mono HB.out.size)⟩
              case measure => simp [intOf]; omega
          · obtain rfl : k = L.length := by omega
            have cw : Below wr.heap.size wr (wr.alloc (.cells #[.slice B v.length d] 23)) := below_one (Below.refl _ _) _
            have CO := Lib.hid (HC.out _ c L _ 1 [(B, d, v)] _ (HXr.out.below cw) (one_given 23 HYr.out))
            rw [show vecs [(B, d, v)] = [v] from rfl, HCO.out, HMM.out, show errE true = 0 from rfl] at CO
            have C6 := Lib.hid ((C5.out.trans (hB.mono C5.out.size)).trans (cw.mono (Nat.le_trans C5.out.size hB.size)))
            clear hB HXr HYr cw
            go_wp2_with (go_at_call 18; refine CO.out.mono ?_; rintro e w7 ⟨rfl, b7⟩)
            go_ret
            exact ⟨by simp, C6.out.trans (b7.mono C6.out.size)⟩
end Go.Proofs.Ytcakmcegcbameaa
