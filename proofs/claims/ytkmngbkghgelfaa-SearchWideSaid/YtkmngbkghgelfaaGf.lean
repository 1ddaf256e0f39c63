/- The walk of SearchWide. -/
import Derived.Test.YtkmngbkghgelfaaFo
import Derived.Test.YtkmngbkghgelfaaFp
import Derived.Test.YtkmngbkghgelfaaFq
import Derived.Test.YtkmngbkghgelfaaGg
import Derived.Test.YtkmngbkghgelfaaLk
import Derived.IntWalk
import Derived.Deep.QuietTactic
import Derived.BigQuiet
namespace Go.Proofs.Ytkmngbkghgelfaa
open Go.Shelf Go.RowKit Go.Lib
open Go.Sort hiding Below
set_option linter.unusedVariables false
set_option linter.unusedSimpArgs false
set_option maxRecDepth 100000 in
set_option maxHeartbeats 8000000 in
theorem searchWide_main (A : Option Addr) (c : Nat) (L : List Gn) (s : Int) (B : Option Addr) (q : Nat) (v : List Int) (pN : Nat) (w : World) (hx : GGiven w A L) (hv : Rd .i8 w w.heap.size B v) (bv : ∀ n ∈ v, -128 ≤ n ∧ n ≤ 127) (hvl : v.length ≤ 140737488355328) (hp0 : pN ≤ 255) (hnl : ∀ x ∈ L, x.2.1.1 = none → x.2.1.2.1 = 0) :
    Calls Try.prog 3 #[.agg #[.slice A L.length c, .int .i64 s], .slice B v.length q, .int .u8 (pN : Int)] w fun e w' => e = .returned (.bool true) ∧ Below w.heap.size w w' := by
  have HX := Lib.hid hx
  have HV := Lib.hid hv
  have HBV := Lib.hid bv
  have B0 : Below w.heap.size w (w.alloc (.cells #[.slice A L.length c, .int .i64 s] 24)) := below_one (Below.refl _ _) _
  have HW0 := Lib.hid (Whole.new w 24 #[.slice A L.length c, .int .i64 s])
  have HB0 := Lib.hid B0
  clear hx hv bv B0
  go_enter Try.func3, Try.ntmps3
  go_upto_region 1 with fail
  obtain ⟨w0, ew0⟩ : ∃ w0, w.alloc (.cells #[.slice A L.length c, .int .i64 s] 24) = w0 := ⟨_, rfl⟩
  obtain ⟨g0, eg0⟩ : ∃ g0, w.heap.size = g0 := ⟨_, rfl⟩
  rw [ew0] at HW0 HB0 ⊢
  have HGG := Lib.hid eg0
  rw [eg0] at HW0 
  rw [show (Value.pointer (some ⟨w.heap.size, 0, none⟩) : Value) = .pointer (some ⟨g0, 0, none⟩) by rw [eg0]]
  clear ew0 eg0
  have KC : Hid (∀ W, Below w0.heap.size w0 W → (W.cell? ⟨g0, 0, none⟩ = some (.slice A L.length c) ∧ W.cell? ⟨g0, 1, none⟩ = some (.int .i64 s))) := Lib.hid (fun W h => by
    have z := HW0.out.below h HW0.out.lt
    exact ⟨z.cell 0, z.cell 1⟩)
  have HUP : Hid (∀ W, Below w0.heap.size w0 W → Below w.heap.size w W) := Lib.hid (fun W h => HB0.out.trans (h.mono HB0.out.size))
  go_wp2_with fail
  refine (aliveS_any w0).mono ?_
  rintro e w1 ⟨rfl, b1⟩
  dsimp only
  have HB1 := Lib.hid b1
  clear b1
  obtain ⟨y0, y1⟩ := KC.out _ HB1.out
  go_wp2_with fail
  refine (greatS_any A c L s w1 (HX.out.below (HUP.out _ HB1.out))).mono ?_
  rintro e w2 ⟨⟨gb, rfl, hgb⟩, b2⟩
  dsimp only
  have HB2 : Hid (Below w0.heap.size w0 w2) := Lib.hid (HB1.out.trans (b2.mono HB1.out.size))
  have HGB := Lib.hid hgb
  clear y0 y1 b2 hgb
  obtain ⟨y0, y1⟩ := KC.out _ HB2.out
  cases gb with
  | true =>
    clear HGB
    go_wp2_with fail
    refine (aliveS_any _).mono ?_
    rintro e wz ⟨rfl, bz⟩
    dsimp only
    go_wp2
    go_ret
    exact ⟨rfl, HUP.out _ (HB2.out.trans (bz.mono HB2.out.size))⟩
  | false =>
  have HSM := Lib.hid (HGB.out rfl)
  clear HGB
  go_wp2_with fail
  refine (beyond_oneS v.length hvl w2).mono ?_
  rintro e w3' ⟨⟨bb, rfl⟩, rfl⟩
  dsimp only
  obtain ⟨w3, ew3⟩ : ∃ w3, w2.alloc (.cells #[.int .i64 (v.length : Int)] 3) = w3 := ⟨_, rfl⟩
  have HB3 : Hid (Below w0.heap.size w0 w3) := Lib.hid (HB2.out.trans ((by rw [← ew3]; exact below_one (Below.refl _ _) _ : Below w2.heap.size w2 w3).mono HB2.out.size))
  rw [ew3]
  clear ew3 y0 y1
  obtain ⟨y0, y1⟩ := KC.out _ HB3.out
  cases bb with
  | true =>
    go_wp2_with fail
    refine (aliveS_any _).mono ?_
    rintro e wz ⟨rfl, bz⟩
    dsimp only
    go_wp2
    go_ret
    exact ⟨rfl, HUP.out _ (HB3.out.trans (bz.mono HB3.out.size))⟩
  | false =>
  have HPL := Lib.hid (pns_len L)
  have HAR : Hid (∀ W, Below w0.heap.size w0 W → GArg W A L) := Lib.hid (fun W h => (HX.out.below (HUP.out _ h)).arg HSM.out.1)
  have HVR : Hid (∀ W, Below w0.heap.size w0 W → Rd .i8 W W.heap.size B v) := Lib.hid (fun W h => (HV.out.below (HUP.out _ h)).more (HUP.out _ h).size)
  have hL := HSM.out.2
  have HNL := Lib.hid hnl
  have HP0 := Lib.hid hp0
  have eW : ((pN : Int) + 1) = ((pN + 1 : Nat) : Int) := by omega
  obtain ⟨k, ek⟩ : ∃ k, pN + 1 = k := ⟨_, rfl⟩
  have hk1 : 1 ≤ k ∧ k ≤ 256 := by omega
  rw [ek] at eW
  have eW2 : RowKit.wrap64 ((pN : Int) + 1) = (k : Int) := by rw [eW]; exact IntWalk.wrap64_in _ (by omega)
  have eW4 : RowKit.wrap64 (pN : Int) = (pN : Int) := IntWalk.wrap64_in _ (by omega)
  have eW3 : IntKind.i64.wrap ((pN : Int) + 1) = (k : Int) := by rw [eW, IntKind.wrap_i64]; omega
  have eW5 : IntKind.i64.wrap (pN : Int) = (pN : Int) := by rw [IntKind.wrap_i64]; omega
  clear hnl ek
  go_wp2_with fail
  refine (reached_any A c L s w3 (HAR.out _ HB3.out)).mono ?_
  rintro e w4 ⟨VR, cR, rfl, rR, b4⟩
  dsimp only
  have HB4 : Hid (Below w0.heap.size w0 w4) := Lib.hid (HB3.out.trans (b4.mono HB3.out.size))
  have HRR := Lib.hid rR
  clear y0 y1 rR b4
  obtain ⟨y0, y1⟩ := KC.out _ HB4.out
  cases hBM : beamB (pns L) s v (k : Int) 256 with
  | false =>
    obtain ⟨ea, eo⟩ := beam_no hBM
    have CB := beam_any A c L s B q v (k : Int) 256 w4 (HAR.out _ HB4.out) (HVR.out _ HB4.out) HBV.out
    rw [ea, eo, hBM, show errG false = 1 from rfl] at CB
    have CBM := Lib.hid CB
    clear HRR CB ea eo
    go_wp2_with fail
    try rw [eW2]
    try rw [eW3]
    refine CBM.out.mono ?_
    rintro e w5 ⟨Va, ca, Vl, cl, rfl, ra, rl, b5⟩
    dsimp only
    have HB5 : Hid (Below w0.heap.size w0 w5) := Lib.hid (HB4.out.trans (b5.mono HB4.out.size))
    clear y0 y1 ra rl b5 CBM
    go_wp2
    go_ret
    exact ⟨rfl, HUP.out _ HB5.out⟩
  | true =>
  have hM := wide_was hBM
  have HMS := Lib.hid hM
  have HGL : Hid ((pns L).length = L.length) := HPL
  have hpl := HPL.out
  have ga := HAR.out _ HB4.out
  obtain ⟨AS, od, H, S, ⟨hb1, hb2, hb3⟩, ⟨ha1, ha2⟩, ⟨hd1, hd2, hd3⟩, ⟨he1, he2⟩, hgs, hgo⟩ := wide_facts (n := k) hM ga.sm ga.ok (by omega) hk1.1 hk1.2
  have CB := beam_any A c L s B q v (k : Int) 256 w4 ga (HVR.out _ HB4.out) HBV.out
  rw [hb1, hb2, hb3, show errG true = 0 from rfl] at CB
  have CBM := Lib.hid CB
  have HEX := Lib.hid (And.intro he1 he2)
  have HGS := Lib.hid hgs
  have HGO := Lib.hid hgo
  have HDR := Lib.hid (And.intro hd1 (And.intro hd2 hd3))
  have HA1 := Lib.hid ha1
  have hra : reachedA (pns L) s = natS (rchW (pns L) s.toNat) := by unfold reachedA; rw [show holdsB (pns L) s = true from decide_eq_true hM.ho]; rfl
  have hhb : errG (holdsB (pns L) s) = 0 := by rw [show holdsB (pns L) s = true from decide_eq_true hM.ho]; rfl
  rw [hra, hhb] at ⊢
  rw [hra] at HRR
  obtain ⟨sN, esN⟩ : ∃ sN, s.toNat = sN := ⟨_, rfl⟩
  rw [esN] at HDR HRR ha2 ⊢
  obtain ⟨RW, eRW⟩ : ∃ RW, rchW (pns L) sN = RW := ⟨_, rfl⟩
  rw [eRW] at HRR ha2 ⊢
  have HAT : Hid (∀ j, j < L.length → (0 ≤ hopI (pns L) sN j → RW[rchN9 (pns L) sN j]? = some j) ∧ (¬ 0 ≤ hopI (pns L) sN j → ∀ x, RW[rchN9 (pns L) sN j]? = some x → x ≠ j)) := Lib.hid (fun j hj => by
    rw [← eRW]
    exact ⟨fun h => rchW_at (by omega) h, fun h x hx => rchW_other (by omega) h hx⟩)
  have HRL : Hid (RW.length ≤ L.length ∧ ∀ j, rchN9 (pns L) sN j ≤ j) := Lib.hid ⟨by rw [← eRW]; have := nodup_lt_len (rchW_nd (pns L) sN) (fun x h => rchW_lt h); omega, fun j => by
    unfold rchN9
    have := List.length_filter_le (fun i => decide (0 ≤ hopI (pns L) sN i)) (List.range j)
    simpa using this⟩
  obtain ⟨RL, eRL⟩ : ∃ RL, (natS RW).length = RL := ⟨_, rfl⟩
  have HRN : Hid (RW.length = RL) := Lib.hid (by rw [← eRL]; unfold natS; rw [List.length_map])
  obtain ⟨OS, eOS⟩ : ∃ OS, natS od = OS := ⟨_, rfl⟩
  have HOL : Hid (OS.length = RL) := Lib.hid (by rw [← eOS, ← eRL]; unfold natS; rw [List.length_map, List.length_map, ha2])
  rw [eRL] at HRR ⊢
  have HGK : Hid (∀ j, goneK (pns L) sN j = goneK (pns L) sN j ∧ (goneK (pns L) sN j).length ≤ j) := Lib.hid (fun j => ⟨rfl, goneK_len _ _ _⟩)
  have HEG : Hid (goneW (pns L) sN = natS (goneK (pns L) sN L.length)) := Lib.hid (by unfold goneW; rw [hpl])
  rw [eOS] at CBM
  have e7 : ((OS.length : Int) == (RL : Int)) = true := by rw [HOL.out]; simp
  clear hBM hM ga hb1 hb2 hb3 ha1 ha2 hd1 hd2 hd3 he1 he2 hgs hgo hra hhb esN eRW eRL eOS CB
  go_wp2_with fail
  try rw [eW2]
  try rw [eW3]
  refine CBM.out.mono ?_
  rintro e w5 ⟨Va, ca, Vl, cl, rfl, ra, rl, b5⟩
  dsimp only
  have HB45 := Lib.hid b5
  have HB5 : Hid (Below w0.heap.size w0 w5) := Lib.hid (HB4.out.trans (b5.mono HB4.out.size))
  have HRA := Lib.hid ra
  have HW := Lib.hid (fun W (h : Below w5.heap.size w5 W) => HB5.out.trans (h.mono HB5.out.size))
  have HRR5 : Hid (∀ W, Below w5.heap.size w5 W → Rd .i64 W W.heap.size VR (natS RW)) := Lib.hid (fun W h => own_rdK (own_below HRR.out (HB45.out.trans (h.mono HB45.out.size))))
  obtain ⟨i0, hi, hz0, hz1, hz2⟩ := info_parts Try.info3F
  have C0 : Hid (w5.ownsRow w5.heap.size 3 1 (.slice none 0 0) (goneK (pns L) sN 0).length ((natS (goneK (pns L) sN 0)).map (Value.int .i64))) := Lib.hid (own_nil_row _ _ _)
  have C1 : Hid (Below w5.heap.size w5 w5) := Lib.hid (Below.refl _ _)
  clear y0 y1 ra rl b5 CBM HRR
  obtain ⟨y0, y1⟩ := KC.out _ HB5.out
  go_wp2
  go_loopw [13, 14, 15] (fun g a i wr => ∃ (j : Nat) (VG : Option Addr) (cg : Nat), j ≤ L.length ∧ i = .int .i64 j ∧ a = .int .i64 (rchN9 (pns L) sN j : Nat) ∧ g = .slice VG (goneK (pns L) sN j).length cg ∧ Hid (wr.ownsRow w5.heap.size 3 1 (.slice VG (goneK (pns L) sN j).length cg) (goneK (pns L) sN j).length ((natS (goneK (pns L) sN j)).map (Value.int .i64))) ∧ Hid (Below w5.heap.size w5 wr)) (fun _ _ i _ => L.length - (intOf i).toNat)
  case atStart => exact ⟨0, none, 0, by omega, rfl, rfl, rfl, C0, C1⟩
  case round =>
    clear C0 C1 y0 y1
    obtain ⟨j, VG, cg, hj, rfl, rfl, rfl, HO, HB⟩ := hrel
    have hgl := (HGK.out j).2
    have hwr : w5.heap.size ≤ wr.heap.size := HB.out.size
    obtain ⟨y0, y1⟩ := KC.out _ (HW.out _ HB.out)
    by_cases hlt : j < L.length
    · have e1 : decide ((j : Int) < (L.length : Int)) = true := decide_eq_true (by omega)
      by_cases hr : 0 ≤ hopI (pns L) sN j
      · have hat := (HAT.out j hlt).1 (by omega)
        have HG1 := Lib.hid (goneK_yes hr)
        have HR1 := Lib.hid (rch9_yes hr)
        obtain ⟨rn, ern⟩ : ∃ rn, rchN9 (pns L) sN j = rn := ⟨_, rfl⟩
        obtain ⟨GN, eGN⟩ : ∃ GN, goneK (pns L) sN j = GN := ⟨_, rfl⟩
        rw [ern] at hat HR1
        rw [eGN] at HG1 HO hgl
        rw [ern, eGN]
        have hrl : rn < RW.length := (List.getElem?_eq_some_iff.1 hat).1
        obtain ⟨br, orr, t, hAr, _, kc, hv⟩ := (HRR5.out _ HB.out).at_ (i := rn) (by unfold natS; rw [List.length_map]; exact hrl)
        obtain rfl : t = (j : Int) := by
          have h1 := hv.out
          unfold natS at h1
          rw [List.getElem?_map, hat] at h1
          exact h1.symm
        subst hAr
        have hrl2 : rn < RL := by rw [← HRN.out]; exact hrl
        have hRb : RW.length ≤ 150 := by have := HRL.out.1; omega
        have e2 : decide ((rn : Int) < (RL : Int)) = true := decide_eq_true (by omega)
        have x1 : (0 : Int) ≤ (rn : Int) := by omega
        have x2 : (rn : Int) < (RL : Int) := by omega
        have e3 : ((j : Int) == (j : Int)) = true := by simp
        clear hv hat hr ern eGN
        go_wp2
        go_roundw
        case rel => exact ⟨j + 1, VG, cg, by omega, by go_num, by rw [HR1.out]; go_num, by rw [HG1.out], by rw [HG1.out]; first | exact HO | exact Lib.hid (own_below HO.out (below_drewN (Below.refl _ _) _)), by first | exact HB | exact Lib.hid (below_drewN HB.out _)⟩
        case measure => simp [intOf]; omega
      · have hat := (HAT.out j hlt).2 (by omega)
        have HG1 := Lib.hid (goneK_no hr)
        have HR1 := Lib.hid (rch9_no hr)
        obtain ⟨rn, ern⟩ : ∃ rn, rchN9 (pns L) sN j = rn := ⟨_, rfl⟩
        obtain ⟨GN, eGN⟩ : ∃ GN, goneK (pns L) sN j = GN := ⟨_, rfl⟩
        rw [ern] at hat HR1
        rw [eGN] at HG1 HO hgl
        rw [ern, eGN]
        obtain ⟨gl, egl⟩ : ∃ gl, GN.length = gl := ⟨_, rfl⟩
        rw [egl] at HO hgl ⊢
        have HGL2 : Hid ((natS (GN ++ [j])).length = gl + 1 ∧ (GN ++ [j]).length = gl + 1) := Lib.hid (by unfold natS; rw [List.length_map, List.length_append, egl]; exact ⟨rfl, rfl⟩)
        clear hr ern eGN egl
        by_cases hrl : rn < RW.length
        · obtain ⟨br, orr, t, hAr, _, kc, hv⟩ := (HRR5.out _ HB.out).at_ (i := rn) (by unfold natS; rw [List.length_map]; exact hrl)
          obtain ⟨x, hx⟩ : ∃ x, RW[rn]? = some x := ⟨_, List.getElem?_eq_getElem hrl⟩
          obtain rfl : t = (x : Int) := by
            have h1 := hv.out
            unfold natS at h1
            rw [List.getElem?_map, hx] at h1
            exact h1.symm
          have hxj := hat x hx
          subst hAr
          have hrl2 : rn < RL := by rw [← HRN.out]; exact hrl
          have e2 : decide ((rn : Int) < (RL : Int)) = true := decide_eq_true (by omega)
          have x1 : (0 : Int) ≤ (rn : Int) := by omega
          have x2 : (rn : Int) < (RL : Int) := by omega
          have e3 : ((x : Int) == (j : Int)) = false := by rw [beq_eq_false_iff_ne]; omega
          clear hv hat hx hxj
          go_wp2_with (at_builtin; refine wpList_append_own _ rfl _ _ 29 rfl w5.heap.size 3 i0 (.int .i64 0) 1 8 Try.underlying29 hi hz0 hz1 hz2 rfl (by decide) _ gl ((natS GN).map (Value.int .i64)) rfl (HO.out.alloc _) ⟨wr.heap.size, 0, none⟩ 1 1 [.int .i64 (j : Int)] rfl rfl (World.news_of_block (cs := #[.int .i64 (j : Int)]) (t := 3) (fr := (0, 0)) (heap_alloc_new wr _)) (by simp [Value.oneCell']) (by show gl + 1 ≤ 9223372036854775807; omega) (by omega) (by simp; omega) ?_; intro v2 w6 hown2 hgrow2 hnl2)
          obtain ⟨V4, m4, c4, rfl⟩ := own_form hown2
          obtain rfl := own_len hown2
          have b6 : Hid (Below w5.heap.size w5 w6) := Lib.hid ((below_one HB.out _).grown hgrow2 (by simp; omega) (fun r hr => (HO.out.lt r hr).1))
          have h6 : Hid (w6.ownsRow w5.heap.size 3 1 (.slice V4 (gl + 1) c4) (gl + 1) ((natS (GN ++ [j])).map (Value.int .i64))) := Lib.hid (by
            unfold natS at *; rw [List.map_append, List.map_append]; exact hown2)
          clear hown2 hgrow2 hnl2
          go_wp2
          go_roundw
          case rel => exact ⟨j + 1, V4, c4, by omega, by go_num, by rw [HR1.out], by rw [HG1.out, HGL2.out.2], by rw [HG1.out, HGL2.out.2]; exact h6, b6⟩
          case measure => simp [intOf]; omega
        · have hrl2 : ¬ rn < RL := by rw [← HRN.out]; exact hrl
          have e2 : decide ((rn : Int) < (RL : Int)) = false := decide_eq_false (by omega)
          clear hat
          go_wp2_with (at_builtin; refine wpList_append_own _ rfl _ _ 29 rfl w5.heap.size 3 i0 (.int .i64 0) 1 8 Try.underlying29 hi hz0 hz1 hz2 rfl (by decide) _ gl ((natS GN).map (Value.int .i64)) rfl (HO.out.alloc _) ⟨wr.heap.size, 0, none⟩ 1 1 [.int .i64 (j : Int)] rfl rfl (World.news_of_block (cs := #[.int .i64 (j : Int)]) (t := 3) (fr := (0, 0)) (heap_alloc_new wr _)) (by simp [Value.oneCell']) (by show gl + 1 ≤ 9223372036854775807; omega) (by omega) (by simp; omega) ?_; intro v2 w6 hown2 hgrow2 hnl2)
          obtain ⟨V4, m4, c4, rfl⟩ := own_form hown2
          obtain rfl := own_len hown2
          have b6 : Hid (Below w5.heap.size w5 w6) := Lib.hid ((below_one HB.out _).grown hgrow2 (by simp; omega) (fun r hr => (HO.out.lt r hr).1))
          have h6 : Hid (w6.ownsRow w5.heap.size 3 1 (.slice V4 (gl + 1) c4) (gl + 1) ((natS (GN ++ [j])).map (Value.int .i64))) := Lib.hid (by
            unfold natS at *; rw [List.map_append, List.map_append]; exact hown2)
          clear hown2 hgrow2 hnl2
          go_wp2
          go_roundw
          case rel => exact ⟨j + 1, V4, c4, by omega, by go_num, by rw [HR1.out], by rw [HG1.out, HGL2.out.2], by rw [HG1.out, HGL2.out.2]; exact h6, b6⟩
          case measure => simp [intOf]; omega
    · obtain rfl : j = L.length := by omega
      have e1 : decide ((L.length : Int) < (L.length : Int)) = false := decide_eq_false (by omega)
      have HO2 := HO.out
      rw [show (natS (goneK (pns L) sN L.length)) = goneW (pns L) sN from HEG.out.symm] at HO2
      obtain ⟨P, eP⟩ : ∃ P, goneW (pns L) sN = P := ⟨_, rfl⟩
      have HPE := Lib.hid eP
      rw [eP] at HO2 HDR
      have hPl : (goneK (pns L) sN L.length).length = P.length := by rw [← eP, HEG.out]; unfold natS; rw [List.length_map]
      obtain ⟨GL, eGL⟩ : ∃ GL, (goneK (pns L) sN L.length).length = GL := ⟨_, rfl⟩
      rw [eGL] at HO2 hgl hPl ⊢
      have HOG := Lib.hid HO2
      have HPL2 := Lib.hid hPl
      have CD := drop_any A c L s VG cg P wr (HAR.out _ (HW.out _ HB.out)) HNL.out (own_rdK HO2) (by omega)
      rw [HDR.out.1, HDR.out.2.1, HDR.out.2.2, show errG true = 0 from rfl, ← hPl] at CD
      have CDR := Lib.hid CD
      clear HO HO2 eP hPl CD eGL
      go_upto_region 17 with (go_at_call 9; refine CDR.out.mono ?_; rintro e w6 ⟨A6, q6, T6, rfl, o6, v6, b6⟩)
      obtain ⟨w7, ew7⟩ : ∃ w7, w6.alloc (.cells #[.slice A6 T6.length q6, .int .i64 S] 24) = w7 := ⟨_, rfl⟩
      obtain ⟨x7, ex7⟩ : ∃ x7, w6.heap.size = x7 := ⟨_, rfl⟩
      rw [ew7, ex7]
      have hB6 := HB.out.trans (b6.mono hwr)
      have b67 : Below w6.heap.size w6 w7 := by rw [← ew7]; exact below_one (Below.refl _ _) _
      have Z7 : Whole w7 x7 24 #[.slice A6 T6.length q6, .int .i64 S] := by rw [← ew7, ← ex7]; exact Whole.new w6 _ _
      have z0 := Z7.cell 0
      have z1 := Z7.cell 1
      have HB7 : Hid (Below w5.heap.size w5 w7) := Lib.hid (hB6.trans (b67.mono hB6.size))
      have CE := exact_any A6 q6 T6 S B q v (k : Int) w7 ⟨(o6.rd.below b67).more b67.size, by rw [v6]; exact HGS.out, by rw [v6]; exact HGO.out⟩ (HVR.out _ (HW.out _ HB7.out)) HBV.out
      rw [v6, HEX.out.1, HEX.out.2, show errG true = 0 from rfl] at CE
      have CEX := Lib.hid CE
      clear ew7 ex7 o6 v6 b6 b67 Z7 CE CDR HOG y0 y1 hB6 e1
      go_wp2_with fail
      refine CEX.out.mono ?_
      rintro e w8 ⟨Vb, cb, rfl, rb, b8, -⟩
      dsimp only
      have HB8 : Hid (Below w5.heap.size w5 w8) := Lib.hid (HB7.out.trans (b8.mono HB7.out.size))
      have CS := sameHits_any Va Vb ca cb AS AS w8 w8.heap.size (own_rdHS (own_below HRA.out HB8.out)) (own_rdHS rb) (by have := HA1.out; omega) (by have := HA1.out; omega)
      rw [show eqHB AS AS = true from decide_eq_true rfl] at CS
      have CSH := Lib.hid CS
      clear rb b8 CS CEX z0 z1
      go_wp2_with fail
      refine CSH.out.mono ?_
      rintro e w9 ⟨rfl, nq, rfl⟩
      dsimp only
      clear CSH
      go_wp2
      go_ret
      exact ⟨rfl, HUP.out _ (HW.out _ (below_drewN HB8.out nq))⟩
end Go.Proofs.Ytkmngbkghgelfaa
