/- The walk of the document's Cost (layer 7). -/
import Derived.Test.YtcakmcegcbameaaGreatNq
namespace Go.Proofs.YtcakmcegcbameaaGreat
open Go.RowKit
set_option linter.unusedVariables false
set_option maxRecDepth 100000 in
set_option maxHeartbeats 2000000 in
theorem refCost_any (A : Option Addr) (c : Nat) (L : List Vc) (B : Option Addr) (d : Nat) (M : List Vc) (w : World) (hx : VArg w A L) (hy : VArg w B M) :
    Calls Tryz.prog 10 #[.slice A L.length c, .slice B M.length d] w fun e w' => e = .returned (.tuple #[.int .i64 (costA (vecs L) (vecs M)), .int .i64 (errE (mayM (vecs L) (vecs M)))]) ∧ ∃ nq, w' = w.drewN nq := by
  have MA := Lib.hid (may_any A c L _ rfl B d M _ rfl w _ hx.rd hy.rd (by have := hx.len; omega) (by have := hy.len; omega))
  cases hm : mayM (vecs L) (vecs M) with
  | false =>
    have E : costA (vecs L) (vecs M) = 0 := by unfold costA; rw [hm]; rfl
    rw [E]
    rw [hm] at MA
    clear hm E hx hy
    go_enter Tryz.func10, Tryz.ntmps10
    go_wp2_with fail
    refine MA.out.mono ?_
    rintro e w' ⟨rfl, nq, rfl⟩
    go_wp2
    go_ret2
    exact ⟨rfl, _, rfl⟩
  | true =>
    have E : costA (vecs L) (vecs M) = costL (vecs L) (vecs M) := by unfold costA; rw [hm]; rfl
    have h1 := mayM_yes hm
    have h2 := mayB_yes h1.2.1
    have hl0 : 1 ≤ L.length := by have := h2.1; rw [vecs_len] at this; exact this
    have hl1 : L.length ≤ 64 := by have := h1.1; rw [vecs_len] at this; exact this
    have hl2 : M.length ≤ 2048 := by have := h1.2.2.1; rw [vecs_len] at this; exact this
    have HD := Lib.hid h2.2.2.2.1
    have HL := Lib.hid (mayB_len h1.2.1)
    have HV := Lib.hid (mayM_len hm)
    have HBD := Lib.hid (costL_bd hm hx.b8 hy.b8)
    have HX := Lib.hid hx
    have HY := Lib.hid hy
    have hrx := hx.rd
    have hry := hy.rd
    rw [E]
    rw [hm] at MA
    obtain ⟨R, eR⟩ : ∃ R, costL (vecs L) (vecs M) = R := ⟨_, rfl⟩
    rw [eR]
    have ER := Lib.hid eR
    clear hm E hx hy h1 h2 eR
    go_enter Tryz.func10, Tryz.ntmps10
    go_wp2_with fail
    refine MA.out.mono ?_
    rintro e w' ⟨rfl, nq0, rfl⟩
    have hx1 := hrx.below (below_drewN (Below.refl _ w) nq0)
    have hy1 := hry.below (below_drewN (Below.refl _ w) nq0)
    have HW := Lib.hid (show ∃ q, w.drewN nq0 = w.drewN q from ⟨_, rfl⟩)
    have hsz0 : (w.drewN nq0).heap.size = w.heap.size := rfl
    obtain ⟨W0, eW⟩ : ∃ W0, w.drewN nq0 = W0 := ⟨_, rfl⟩
    rw [eW] at hx1 hy1 HW hsz0 ⊢
    clear eW MA hrx hry
    go_wp2
    go_loopw [6, 7] (fun s i wr => ∃ k nq : Nat, k ≤ M.length ∧ i = .int .i64 k ∧ s = .int .i64 (costL (vecs L) ((vecs M).take k)) ∧ Hid (wr = W0.drewN nq)) (fun _ i _ => M.length - (intOf i).toNat)
    case atStart => exact ⟨0, 0, by omega, rfl, by simp [costL], rfl⟩
    case round =>
      obtain ⟨k, nq, hk, rfl, rfl, hwr⟩ := hrel
      by_cases hlt : k < M.length
      · have hx' : RdV wr w.heap.size A L := by rw [hwr.out]; exact hx1.below (below_drewN (Below.refl _ W0) nq)
        have hy' : RdV wr w.heap.size B M := by rw [hwr.out]; exact hy1.below (below_drewN (Below.refl _ W0) nq)
        obtain ⟨b, off, a1, c1, v1, rfl, hBk, hck, hrd, hv1⟩ := hy'.at_ hlt
        have hb1 := b8_at HY.out.b8 (vecs_at hv1.out)
        have hlv : v1.length = dimOf (vecs L) := HV.out v1 (List.mem_of_getElem? (vecs_at hv1.out))
        have NE := Lib.hid (fun q => nearest_any A c L _ rfl a1 c1 v1 _ rfl (wr.drewN q) w.heap.size (hx'.below (below_drewN (Below.refl _ wr) q)) (hrd.below (below_drewN (Below.refl _ wr) q)) hl0 (by omega) (by rw [hlv]; exact HD.out) (fun u hu => by rw [hlv]; exact HL.out u hu) HX.out.b8 hb1)
        have HS := Lib.hid (costL_take (ms := vecs L) (vecs_at hv1.out))
        have hgl := nearestI_lt (ms := vecs L) v1 (by rw [vecs_len]; exact hl0)
        rw [vecs_len] at hgl
        obtain ⟨g, eg⟩ : ∃ g, nearestI (vecs L) v1 = g := ⟨_, rfl⟩
        rw [eg] at NE HS hgl
        obtain ⟨b2, off2, a2, c2, v2, rfl, hBg, hcg, hrg, hv2⟩ := hx'.at_ hgl
        have hl2 : v2.length = dimOf (vecs L) := HL.out v2 (List.mem_of_getElem? (vecs_at hv2.out))
        have FA := fun q => refFar_any a2 a1 c2 c1 v2 v1 (by rw [hl2]; exact HD.out) (by omega) (wr.drewN q) w.heap.size (hrg.below (below_drewN (Below.refl _ wr) q)) (hrd.below (below_drewN (Below.refl _ wr) q)) (b8_at HX.out.b8 (vecs_at hv2.out)) hb1
        have hfb := far_bd (xs := v2) (ys := v1) (by rw [hl2]; exact HD.out) (b8_at HX.out.b8 (vecs_at hv2.out)) hb1
        rw [show v2.length = v1.length by omega] at FA hcg
        have FB := Lib.hid FA
        rw [vecs_vAt hv2.out] at HS
        have hbd := HBD.out k
        rw [List.length_take] at hbd
        have hbd' : 0 ≤ costL (vecs L) ((vecs M).take k) ∧ costL (vecs L) ((vecs M).take k) ≤ 4161600 * 2048 := by omega
        obtain ⟨S, eS⟩ : ∃ S, costL (vecs L) ((vecs M).take k) = S := ⟨_, rfl⟩
        rw [eS] at HS hbd' ⊢
        obtain ⟨F, eF⟩ : ∃ F, far v2 v1 = F := ⟨_, rfl⟩
        rw [eF] at HS FB hfb
        have g1 : (0 : Int) ≤ (k : Int) := by omega
        have g2 : (k : Int) < (M.length : Int) := by omega
        have g3 : (0 : Int) ≤ (g : Int) := by omega
        have g4 : (g : Int) < (L.length : Int) := by omega
        clear FA hbd eS eF hx' hy' hrd hrg hv1 hv2 hlv hl2 hb1 eg
        go_wp2
        go_quiet (first | (go_at_call 24; with_reducible exact Calls.quiet_of (NE.out _)) | (go_at_call 26; with_reducible exact Calls.quiet_of (FB.out _)))
        go_wp2
        go_roundw
        case rel => exact ⟨k + 1, _, by omega, by go_num, by rw [HS.out], Lib.hid (by rw [hwr.out, World.drewN_drewN])⟩
        case measure => simp [intOf]; omega
      · obtain rfl : k = M.length := by omega
        have hfin := ER.out
        rw [← List.take_of_length_le (l := vecs M) (i := M.length) (by rw [vecs_len]; exact Nat.le_refl _)] at hfin
        rw [hfin]
        clear hfin
        go_wp2
        go_ret2
        obtain ⟨q, hq⟩ := HW.out
        exact ⟨rfl, q + nq, by rw [hwr.out, hq, World.drewN_drewN]⟩
end Go.Proofs.YtcakmcegcbameaaGreat
