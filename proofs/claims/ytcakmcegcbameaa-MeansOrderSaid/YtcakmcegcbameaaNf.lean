/- The walks of the document's means: may, nearest (layer 7). -/
import Derived.Test.YtcakmcegcbameaaNc
namespace Go.Proofs.Ytcakmcegcbameaa
open Go.RowKit
set_option linter.unusedVariables false
theorem RdV.drewN {w : World} {B : Nat} {A : Option Addr} {L : List Vc} (h : RdV w B A L) (n : Nat) : RdV (w.drewN n) B A L := h.below (below_drewN (Below.refl B w) n)
theorem Rd.drewN {k : IntKind} {w : World} {B : Nat} {A : Option Addr} {xs : List Int} (h : Rd k w B A xs) (n : Nat) : Rd k (w.drewN n) B A xs := h.below (below_drewN (Below.refl B w) n)
set_option maxRecDepth 100000 in
set_option maxHeartbeats 1000000 in
theorem may_any (A : Option Addr) (c : Nat) (L : List Vc) (n : Nat) (hn : n = L.length) (B : Option Addr) (d : Nat) (M : List Vc) (m : Nat) (hm : m = M.length) (w : World) (D : Nat) (hx : RdV w D A L) (hy : RdV w D B M) (hl : L.length ≤ 140737488355328) (hl2 : M.length ≤ 140737488355328) :
    Calls Try.prog 27 #[.slice A n c, .slice B m d] w fun e w' => e = .returned (.bool (mayM (vecs L) (vecs M))) ∧ ∃ nq, w' = w.drewN nq := by
  subst hn hm
  by_cases h0 : 64 < L.length
  · have E := Lib.hid (mayM_no (ms := vecs L) (vs := vecs M) (fun h => by have := h.1; rw [vecs_len] at this; omega))
    have hz : decide ((64 : Int) < (L.length : Int)) = true := decide_eq_true (by omega)
    go_enter Try.func27, Try.ntmps27
    go_wp2
    go_ret
    exact ⟨retb E.out.symm, 0, rfl⟩
  · have hz : decide ((64 : Int) < (L.length : Int)) = false := decide_eq_false (by omega)
    have H := Lib.hid (together_any A c L _ rfl w D hx hl)
    cases hb : mayB (vecs L) with
    | false =>
      have E := Lib.hid (mayM_no (ms := vecs L) (vs := vecs M) (fun h => by have := h.2.1; rw [hb] at this; cases this))
      rw [hb] at H
      clear hb hx hy
      go_enter Try.func27, Try.ntmps27
      go_wp2_with fail
      refine H.out.mono ?_
      rintro e w' ⟨rfl, nq, rfl⟩
      go_wp2
      go_ret
      exact ⟨retb E.out.symm, _, rfl⟩
    | true =>
      rw [hb] at H
      have hmb := mayB_yes hb
      have hd2 := hmb.1
      rw [vecs_len] at hd2
      by_cases h1 : 2048 < M.length
      · have E := Lib.hid (mayM_no (ms := vecs L) (vs := vecs M) (fun h => by have := h.2.2.1; rw [vecs_len] at this; omega))
        have hz2 : decide ((2048 : Int) < (M.length : Int)) = true := decide_eq_true (by omega)
        clear hx hy hmb
        go_enter Try.func27, Try.ntmps27
        go_wp2_with fail
        refine H.out.mono ?_
        rintro e w' ⟨rfl, nq, rfl⟩
        go_wp2
        go_ret
        exact ⟨retb E.out.symm, _, rfl⟩
      · have hz2 : decide ((2048 : Int) < (M.length : Int)) = false := decide_eq_false (by omega)
        obtain ⟨b, off, a0, c0, v0, rfl, hB, hck, hrd, hv0⟩ := hx.at_ (i := 0) (by omega)
        have D0 := Lib.hid (dim0 hv0.out)
        rw [Nat.add_zero] at hck
        have HMB := Lib.hid hb
        clear hrd hmb hb
        go_enter Try.func27, Try.ntmps27
        go_wp2_with fail
        refine H.out.mono ?_
        rintro e w' ⟨rfl, nq0, rfl⟩
        have hck2 : (w.drewN nq0).cell? ⟨b, off, none⟩ = some (.slice a0 v0.length c0) := hck
        have hy2 := hy.drewN nq0
        have HW := Lib.hid (show ∃ q, w.drewN nq0 = w.drewN q from ⟨_, rfl⟩)
        obtain ⟨W0, eW⟩ : ∃ W0, w.drewN nq0 = W0 := ⟨_, rfl⟩
        rw [eW] at hck2 hy2 HW ⊢
        clear eW hck hy H
        go_wp2
        go_loopw [5] (fun i wr => ∃ k nq : Nat, k ≤ M.length ∧ i = .int .i64 k ∧ wr = W0.drewN nq ∧ Hid (∀ j, j < k → (vAt (vecs M) j).length = v0.length)) (fun i _ => M.length - (intOf i).toNat)
        case atStart => exact ⟨0, 0, by omega, rfl, rfl, (fun j hj => absurd hj (Nat.not_lt_zero _) : ∀ j, j < 0 → (vAt (vecs M) j).length = v0.length)⟩
        case round =>
          obtain ⟨k, nq, hk, rfl, rfl, HK⟩ := hrel
          by_cases hlt : k < M.length
          · obtain ⟨b', off', a1, c1, v1, rfl, hB1, hck1, _, hv1⟩ := hy2.at_ hlt
            have g1 : (0 : Int) ≤ (k : Int) := by omega
            have g2 : (k : Int) < (M.length : Int) := by omega
            by_cases he : v1.length = v0.length
            · have ne : ((v1.length : Int) != (v0.length : Int)) = false := by simp; omega
              have HN : Hid (∀ j, j < k + 1 → (vAt (vecs M) j).length = v0.length) := fun j hj => by
                rcases Nat.lt_or_ge j k with h | h
                · exact HK.out j h
                · obtain rfl : j = k := by omega
                  rw [vecs_vAt hv1.out]; exact he
              clear he
              go_wp2
              go_quiet (fail)
              go_wp2
              go_roundw
              case rel => exact ⟨k + 1, _, by omega, by go_num, rfl, HN⟩
              case measure => simp [intOf]; omega
            · have ne : ((v1.length : Int) != (v0.length : Int)) = true := by simp; omega
              have E := Lib.hid (mayM_no (ms := vecs L) (vs := vecs M) (fun h => he (by
                have := h.2.2.2 k (by rw [vecs_len]; exact hlt)
                rw [vecs_vAt hv1.out, D0.out] at this; exact this)))
              clear he
              go_wp2
              go_quiet (fail)
              go_wp2
              go_ret
              obtain ⟨q, hq⟩ := HW.out
              exact ⟨retb E.out.symm, q + _, by rw [hq, World.drewN_drewN, World.drewN_drewN]⟩
          · obtain rfl : k = M.length := by omega
            have E := Lib.hid (show mayM (vecs L) (vecs M) = true from decide_eq_true ⟨by rw [vecs_len]; omega, HMB.out, by rw [vecs_len]; omega, fun i hi => by rw [D0.out]; exact HK.out i (by rw [vecs_len] at hi; exact hi)⟩)
            go_wp2
            go_ret
            obtain ⟨q, hq⟩ := HW.out
            exact ⟨retb E.out.symm, q + nq, by rw [hq, World.drewN_drewN]⟩
set_option maxRecDepth 100000 in
set_option maxHeartbeats 1000000 in
theorem nearest_any (A : Option Addr) (c : Nat) (L : List Vc) (n : Nat) (hn : n = L.length) (B : Option Addr) (d : Nat) (v : List Int) (m : Nat) (hm : m = v.length) (w : World) (D : Nat) (hx : RdV w D A L) (hy : Rd .i8 w D B v) (h1 : 1 ≤ L.length) (h2 : L.length ≤ 2048) (hd : v.length ≤ 64) (hlen : ∀ u ∈ vecs L, u.length = v.length) (hb : B8 (vecs L)) (hv : ∀ x ∈ v, -128 ≤ x ∧ x ≤ 127) :
    Calls Try.prog 28 #[.slice A n c, .slice B m d] w fun e w' => e = .returned (.int .i64 (nearestI (vecs L) v : Nat)) ∧ ∃ nq, w' = w.drewN nq := by
  subst hn hm
  have HB := Lib.hid hb
  have HL := Lib.hid hlen
  have HV := Lib.hid hv
  clear hb hlen hv
  have E0 : nearI (vecs L) v L.length = nearestI (vecs L) v := by unfold nearestI; rw [vecs_len]
  obtain ⟨R, eR⟩ : ∃ R, nearestI (vecs L) v = R := ⟨_, rfl⟩
  rw [eR] at E0 ⊢
  have ER := Lib.hid E0
  clear E0 eR
  go_enter Try.func28, Try.ntmps28
  go_wp2
  go_loopw [5, 6] (fun s i wr => ∃ k nq : Nat, 1 ≤ k ∧ k ≤ L.length ∧ i = .int .i64 k ∧ s = .int .i64 (nearI (vecs L) v k : Nat) ∧ Hid (wr = w.drewN nq)) (fun _ i _ => L.length - (intOf i).toNat)
  case atStart => exact ⟨1, 0, by omega, by omega, rfl, by rw [nearI_one]; rfl, rfl⟩
  case round =>
    obtain ⟨k, nq, hk1, hk, rfl, rfl, hwr⟩ := hrel
    by_cases hlt : k < L.length
    · have hx' : RdV wr D A L := by rw [hwr.out]; exact hx.drewN nq
      have hy' : Rd .i8 wr D B v := by rw [hwr.out]; exact hy.drewN nq
      have hbl := nearI_lt (vecs L) v k hk1
      have hstep : nearI (vecs L) v (k + 1) = if far (vAt (vecs L) k) v < far (vAt (vecs L) (nearI (vecs L) v k)) v then k else nearI (vecs L) v k := rfl
      obtain ⟨b, off, a1, c1, v1, rfl, hBk, hck, hrd, hv1⟩ := hx'.at_ hlt
      have HS := Lib.hid hstep
      clear hstep
      obtain ⟨g, eg⟩ : ∃ g, nearI (vecs L) v k = g := ⟨_, rfl⟩
      rw [eg] at hbl HS ⊢
      clear eg
      obtain ⟨b', off', a2, c2, v2, hA, hBg, hcg, hrg, hv2⟩ := hx'.at_ (i := g) (by omega)
      simp only [Option.some.injEq, Addr.mk.injEq, and_true] at hA
      obtain ⟨rfl, rfl⟩ := hA
      have l1 : v1.length = v.length := HL.out v1 (List.mem_of_getElem? (vecs_at hv1.out))
      have l2 : v2.length = v.length := HL.out v2 (List.mem_of_getElem? (vecs_at hv2.out))
      have F1 := fun q => refFar_any a1 B c1 d v1 v (by omega) l1.symm (wr.drewN q) D (hrd.drewN q) (hy'.drewN q) (b8_at HB.out (vecs_at hv1.out)) HV.out
      have F2 := fun q => refFar_any a2 B c2 d v2 v (by omega) l2.symm (wr.drewN q) D (hrg.drewN q) (hy'.drewN q) (b8_at HB.out (vecs_at hv2.out)) HV.out
      rw [vecs_vAt hv1.out, vecs_vAt hv2.out] at HS
      rw [l1] at F1 hck
      rw [l2] at F2 hcg
      have FA := Lib.hid F1
      have FB := Lib.hid F2
      clear F1 F2 hrd hrg hv1 hv2 l1 l2 hx' hy'
      obtain ⟨x, ex⟩ : ∃ x, far v1 v = x := ⟨_, rfl⟩
      obtain ⟨y, ey⟩ : ∃ y, far v2 v = y := ⟨_, rfl⟩
      rw [ex] at FA HS
      rw [ey] at FB HS
      clear ex ey
      have g1 : (0 : Int) ≤ (k : Int) := by omega
      have g2 : (k : Int) < (L.length : Int) := by omega
      have g3 : (0 : Int) ≤ (g : Int) := by omega
      have g4 : (g : Int) < (L.length : Int) := by omega
      by_cases hxy : x < y
      · have e1 : decide (x < y) = true := decide_eq_true hxy
        rw [if_pos hxy] at HS
        clear hxy
        go_wp2
        go_quiet ((go_at_call 38; first | with_reducible exact Calls.quiet_of (FA.out _) | with_reducible exact Calls.quiet_of (FB.out _)))
        go_wp2
        go_roundw
        case rel => exact ⟨k + 1, _, by omega, by omega, by go_num, by rw [HS.out], Lib.hid ((congrArg (fun W => World.drewN W _) hwr.out).trans (World.drewN_drewN ..))⟩
        case measure => simp [intOf]; omega
      · have e1 : decide (x < y) = false := decide_eq_false hxy
        rw [if_neg hxy] at HS
        clear hxy
        go_wp2
        go_quiet ((go_at_call 38; first | with_reducible exact Calls.quiet_of (FA.out _) | with_reducible exact Calls.quiet_of (FB.out _)))
        go_wp2
        go_roundw
        case rel => exact ⟨k + 1, _, by omega, by omega, by go_num, by rw [HS.out], Lib.hid ((congrArg (fun W => World.drewN W _) hwr.out).trans (World.drewN_drewN ..))⟩
        case measure => simp [intOf]; omega
    · obtain rfl : k = L.length := by omega
      rw [ER.out]
      go_wp2
      go_ret
      exact ⟨rfl, nq, hwr.out⟩
end Go.Proofs.Ytcakmcegcbameaa
