/- The walk of SearchExact. -/
import Derived.Test.YtkmngbkghgelfaaGreatZe
import Derived.Test.YtkmngbkghgelfaaGreatKq
import Derived.Test.YtkmngbkghgelfaaGreatKf
import Derived.Test.YtkmngbkghgelfaaGreatLb
import Derived.Test.YtkmngbkghgelfaaGreatBy
import Derived.Test.YtkmngbkghgelfaaGreatBs
import Derived.Deep.Cut
namespace Go.Proofs.YtkmngbkghgelfaaGreat
open Go.Shelf Go.RowKit Go.Lib
open Go.Sort hiding Below
set_option linter.unusedVariables false
set_option linter.unusedSimpArgs false
def GreatS (L : List Gn) (e : Ending) : Prop := ∃ b, e = .returned (.bool b) ∧ (b = false → GSmall (pns L) ∧ L.length ≤ 150)
/-- Great of layer 11. -/
theorem greatS_any (A : Option Addr) (c : Nat) (L : List Gn) (s : Int) (w : World) (hx : GGiven w A L) : Calls Tryz.prog 5 #[.agg #[.slice A L.length c, .int .i64 s]] w fun e w' => GreatS L e ∧ Below w.heap.size w w' := by
  have HX := Lib.hid hx
  have HLN := hx.len
  have B0 : Below w.heap.size w (w.alloc (.cells #[.slice A L.length c, .int .i64 s] 24)) := below_one (Below.refl _ _) _
  have HW0 := Lib.hid (Whole.new w 24 #[.slice A L.length c, .int .i64 s])
  have HB0 := Lib.hid B0
  clear hx B0
  go_enter Tryz.func5, Tryz.ntmps5
  go_upto_region 1 with fail
  obtain ⟨w0, ew0⟩ : ∃ w0, w.alloc (.cells #[.slice A L.length c, .int .i64 s] 24) = w0 := ⟨_, rfl⟩
  obtain ⟨g0, eg0⟩ : ∃ g0, w.heap.size = g0 := ⟨_, rfl⟩
  rw [ew0] at HW0 HB0 ⊢
  have HGG := Lib.hid eg0
  rw [eg0] at HW0
  rw [show (Value.pointer (some ⟨w.heap.size, 0, none⟩) : Value) = .pointer (some ⟨g0, 0, none⟩) by rw [eg0]]
  have y0 := HW0.out.cell 0
  have y1 := HW0.out.cell 1
  clear ew0 eg0
  go_wp2_with fail
  refine (great9_any A c L s w0 (HX.out.below HB0.out)).mono ?_
  rintro e w2 ⟨⟨gb, rfl, hgb⟩, b2⟩
  have HB2 := Lib.hid (HB0.out.trans (b2.mono HB0.out.size))
  have HGB := Lib.hid hgb
  dsimp only
  clear y0 y1 hgb
  have z0 := (HW0.out.below b2 HW0.out.lt).cell 0
  clear b2
  cases gb with
  | true =>
    go_wp2
    go_ret
    exact ⟨⟨true, rfl, fun h => by cases h⟩, HB2.out⟩
  | false =>
    have HSM := Lib.hid (HGB.out rfl)
    clear HGB
    by_cases h150 : L.length ≤ 150
    · have d1 : decide ((150 : Int) < (L.length : Int)) = false := decide_eq_false (by omega)
      have d2 : decide (150 < L.length) = false := decide_eq_false (by omega)
      go_wp2
      go_ret
      exact ⟨⟨false, rfl, fun _ => ⟨HSM.out, h150⟩⟩, HB2.out⟩
    · have d1 : decide ((150 : Int) < (L.length : Int)) = true := decide_eq_true (by omega)
      have d2 : decide (150 < L.length) = true := decide_eq_true (by omega)
      go_wp2
      go_ret
      exact ⟨⟨true, rfl, fun h => by cases h⟩, HB2.out⟩
theorem beyond_oneZ (n : Nat) (hn : n ≤ 140737488355328) (w : World) : Calls Tryz.prog 6 #[.slice (some ⟨w.heap.size, 0, none⟩) 1 1] (w.alloc (.cells #[.int .i64 (n : Int)] 3)) fun e w' => (∃ b, e = .returned (.bool b) ∧ (b = false → n ≤ 1048576)) ∧ w' = w.alloc (.cells #[.int .i64 (n : Int)] 3) := by
  have hx : Rd .i64 (w.alloc (.cells #[.int .i64 (n : Int)] 3)) (w.heap.size + 1) (some ⟨w.heap.size, 0, none⟩) [(n : Int)] := fun _ => ⟨w.heap.size, 0, rfl, Nat.lt_succ_self _, fun i hi => by
    obtain rfl : i = 0 := by simp at hi; exact hi
    exact (Whole.new w 3 _).cell 0⟩
  refine (beyond_any (some ⟨w.heap.size, 0, none⟩) 1 [(n : Int)] 1 rfl _ _ hx (fun x hx => by rw [List.mem_singleton] at hx; omega) (by simp)).mono ?_
  rintro e w' ⟨rfl, rfl⟩
  refine ⟨⟨_, rfl, fun h => ?_⟩, rfl⟩
  unfold bey at h
  have := of_decide_eq_false h
  simp at this
  omega
theorem exactH_len (G : List Pn) (s : Int) (v : List Int) (k : Int) : (exactH G s v k).length ≤ 256 := by
  unfold exactH
  split
  · rename_i h
    rw [exactB_eq, Bool.and_eq_true] at h
    obtain ⟨h1, h2, h3⟩ := widB_nat h.2
    rw [List.length_take]; omega
  · exact Nat.zero_le _
theorem own_rdHZ {w : World} {base n c : Nat} {e : TypeId} {A : Option Addr} {xs : HL} (h : w.ownsRow base e 2 (.slice A n c) n (flatH xs)) : RdH w w.heap.size A xs := by
  obtain ⟨A', c', hv, _, hr⟩ := own_sliceH h
  injection hv with q1 q2 q3
  subst q1
  exact hr
theorem own_rngZ {w : World} {lo hi n c sz : Nat} {A : Option Addr} {e : TypeId} {xs : List Value} (h : w.ownsRow lo e sz (.slice A n c) n xs) (hh : w.heap.size ≤ hi) : ∀ g, (Value.slice A n c).ownBlock = some g → lo ≤ g ∧ g < hi := fun g hg => by
  have := h.lt g hg; omega
theorem twin_argZ {w : World} {base g : Nat} {T L : List Gn} (h : TwinG w base g T) (hv : pns T = pns L) (hs : GSmall (pns L)) (hok : ∀ x ∈ pns L, PnOk x) : GArg w (some ⟨g, 0, none⟩) T := ⟨h.rd, by rw [hv]; exact hs, by rw [hv]; exact hok⟩
set_option maxRecDepth 100000 in
set_option maxHeartbeats 8000000 in
theorem searchExact_main (A : Option Addr) (c : Nat) (L : List Gn) (s : Int) (B : Option Addr) (q : Nat) (v : List Int) (k : Int) (w : World) (hx : GGiven w A L) (hv : Rd .i8 w w.heap.size B v) (bv : ∀ n ∈ v, -128 ≤ n ∧ n ≤ 127) (hl : v.length ≤ q) (hm : q ≤ 140737488351232) :
    Calls Tryz.prog 3 #[.agg #[.slice A L.length c, .int .i64 s], .slice B v.length q, .int .i64 k] w fun e w' => e = .returned (.bool true) ∧ Below w.heap.size w w' := by
  have HW0 := Lib.hid (Whole.new w 24 #[.slice A L.length c, .int .i64 s])
  have HB0 := Lib.hid (below_one (Below.refl w.heap.size w) (.cells #[.slice A L.length c, .int .i64 s] 24))
  have HX := Lib.hid hx
  have HV := Lib.hid hv
  have HBV := Lib.hid bv
  have zc0 := HW0.out.cell 0
  have zc1 := HW0.out.cell 1
  clear hx hv bv
  go_enter Tryz.func3, Tryz.ntmps3
  go_wp2_with fail
  obtain ⟨w1, ew1⟩ : ∃ w1, w.alloc (.cells #[.slice A L.length c, .int .i64 s] 24) = w1 := ⟨_, rfl⟩
  rw [ew1] at HW0 HB0 ⊢
  obtain ⟨g, eg⟩ : ∃ g, w.heap.size = g := ⟨_, rfl⟩
  rw [eg] at HW0 ⊢
  have HG := Lib.hid eg
  clear ew1 eg zc0 zc1
  refine (greatS_any A c L s w1 (HX.out.below HB0.out)).mono ?_
  rintro e wq ⟨⟨gb, rfl, hgb⟩, bq⟩
  dsimp only
  have HBQ := Lib.hid (HB0.out.trans (bq.mono HB0.out.size))
  cases gb with
  | true =>
    clear hgb
    go_wp2
    go_ret
    exact ⟨rfl, HBQ.out⟩
  | false =>
  have HSG := Lib.hid (hgb rfl)
  have HSM : Hid (GSmall (pns L)) := Lib.hid HSG.out.1
  clear hgb
  go_wp2_with fail
  refine (beyond_oneZ v.length (by omega) wq).mono ?_
  rintro e w2' ⟨⟨bb, rfl, hbb⟩, rfl⟩
  dsimp only
  have bq2 : Below wq.heap.size wq (wq.alloc (.cells #[.int .i64 (v.length : Int)] 3)) := below_one (Below.refl _ _) _
  obtain ⟨w2, ew2⟩ : ∃ w2, wq.alloc (.cells #[.int .i64 (v.length : Int)] 3) = w2 := ⟨_, rfl⟩
  rw [ew2] at bq2 ⊢
  have HB2 := Lib.hid (HBQ.out.trans (bq2.mono HBQ.out.size))
  cases bb with
  | true =>
    clear hbb
    go_wp2
    go_ret
    exact ⟨rfl, HB2.out⟩
  | false =>
    have hPl := hbb rfl
    have Z0 := (HW0.out.below bq HW0.out.lt).below bq2 (Nat.lt_of_lt_of_le HW0.out.lt bq.size)
    have zc0 := Z0.cell 0
    have zc1 := Z0.cell 1
    have HZ0 := Lib.hid Z0
    clear hbb bq bq2 ew2 Z0 HW0 HB0
    go_upto_region 4 with (go_at_call 7; refine (twinGraph_any A c L s w2 (HX.out.below HB2.out) HSM.out).mono ?_; rintro e w3 ⟨gt, T, rfl, hgt, hT, hTv, hTl, b3⟩)
    obtain ⟨w4, ew4⟩ : ∃ w4, w3.alloc (.cells #[.slice (some ⟨gt, 0, none⟩) L.length (L.length + 1), .int .i64 s] 24) = w4 := ⟨_, rfl⟩
    obtain ⟨tb, etb⟩ : ∃ tb, w3.heap.size = tb := ⟨_, rfl⟩
    have b4 : Below w2.heap.size w2 w4 := by rw [← ew4]; exact below_one b3 _
    have ZT : Whole w4 tb 24 #[.slice (some ⟨gt, 0, none⟩) L.length (L.length + 1), .int .i64 s] := by rw [← ew4, ← etb]; exact Whole.new w3 _ _
    have hT4 : TwinG w4 w2.heap.size gt T := by rw [← ew4]; exact hT.below (below_one (Below.refl _ _) _)
    have hIG : InG w4 w2.heap.size w2.heap.size w4.heap.size (some ⟨gt, 0, none⟩) (T.length + 1) T := hT4.inG (Nat.le_refl _) (by rw [hTv]; exact fun x h => HSM.out.at_ h)
    have HB4 : Hid (Below w.heap.size w w4) := Lib.hid (HB2.out.trans (b4.mono HB2.out.size))
    have HZT := Lib.hid ZT
    have HT4 := Lib.hid hT4
    have HIG := Lib.hid hIG
    have HTV := Lib.hid hTv
    have HTL := Lib.hid hTl
    have HB24 := Lib.hid b4
    have HCL : Hid (∀ W, Below w4.heap.size w4 W → W.cell? ⟨g, 0, none⟩ = some (.slice A L.length c) ∧ W.cell? ⟨g, 1, none⟩ = some (.int .i64 s) ∧ W.cell? ⟨tb, 0, none⟩ = some (.slice (some ⟨gt, 0, none⟩) L.length (L.length + 1)) ∧ W.cell? ⟨tb, 1, none⟩ = some (.int .i64 s)) := Lib.hid (fun W h => by
      have hW : Below w2.heap.size w2 W := HB24.out.trans (h.mono HB24.out.size)
      have z0 := HZ0.out.below hW HZ0.out.lt
      have z2 := HZT.out.below h HZT.out.lt
      exact ⟨z0.cell 0, z0.cell 1, z2.cell 0, z2.cell 1⟩)
    have HUP : Hid (∀ W, Below w4.heap.size w4 W → Below w.heap.size w W) := Lib.hid (fun W h => HB4.out.trans (h.mono HB4.out.size))
    have HAR : Hid (GArg w A L) := Lib.hid (HX.out.arg HSM.out)
    have HVR : Hid (∀ W, Below w.heap.size w W → Rd .i8 W W.heap.size B v) := Lib.hid (fun W h => (HV.out.below h).more h.size)
    rw [ew4, etb]
    have hT0 : L.length ≤ 20000 := by have := HSM.out.len; rwa [pns_len] at this
    clear ew4 etb b4 ZT hT4 hTv hTl hT b3 hgt zc0 zc1 hIG
    have c4 : Below w4.heap.size w4 w4 := Below.refl _ _
    obtain ⟨y0, y1, y2, y3⟩ := HCL.out _ c4
    go_wp2_with fail
    refine (twinInt8s_any B q v v.length rfl w4 (HVR.out _ HB4.out) (by omega)).mono ?_
    rintro e w5 ⟨rfl, b5, o5⟩
    dsimp only
    have c5 : Below w4.heap.size w4 w5 := b5
    have KP : KTw .i8 64 w5 w4.heap.size (some ⟨w4.heap.size, 0, none⟩, v.length + 1, v) := ⟨rfl, ⟨_, rfl⟩, o5⟩
    have HKP := Lib.hid KP
    have C30 : Hid (∀ W, Below w5.heap.size w5 W → Calls Tryz.prog 9 #[.agg #[.slice (some ⟨gt, 0, none⟩) L.length (L.length + 1), .int .i64 s], .slice (some ⟨w4.heap.size, 0, none⟩) v.length (v.length + 1), .int .i64 k] W (HAns W (exactH (pns L) s v k) (errG (exactB (pns L) s v k)))) := Lib.hid (fun W h => by
      have hW := HT4.out.below (b5.trans (h.mono b5.size))
      have := exact_any (some ⟨gt, 0, none⟩) (L.length + 1) T s (some ⟨w4.heap.size, 0, none⟩) (v.length + 1) v k W (twin_argZ hW HTV.out HSM.out HX.out.ok) (HKP.out.below h).rd0 HBV.out
      rwa [HTL.out, HTV.out] at this)
    have C31 : Hid (∀ W, Below w4.heap.size w4 W → Calls Tryz.prog 10 #[.agg #[.slice A L.length c, .int .i64 s], .slice B v.length q, .int .i64 k] W fun e w' => ∃ A' c', e = .returned (.tuple #[.slice A' (exactH (pns L) s v k).length c', .int .i64 (errG (exactB (pns L) s v k))]) ∧ RdH w' w'.heap.size A' (exactH (pns L) s v k) ∧ Below W.heap.size W w') := Lib.hid (fun W h => refExact_any A c L s B q v k W (HAR.out.below (HUP.out W h)) (HVR.out _ (HUP.out W h)) HBV.out)
    have hxl := exactH_len (pns L) s v k
    obtain ⟨XS, eG⟩ : ∃ XS, exactH (pns L) s v k = XS := ⟨_, rfl⟩
    obtain ⟨E, eE⟩ : ∃ E, errG (exactB (pns L) s v k) = E := ⟨_, rfl⟩
    rw [eG, eE] at C30 C31
    rw [eG] at hxl
    clear eG eE KP o5 y0 y1 y2 y3
    obtain ⟨y0, y1, y2, y3⟩ := HCL.out _ c5
    go_wp2_with fail
    refine (C30.out _ (Below.refl _ _)).mono ?_
    rintro e w6 ⟨A6, q6, rfl, o6, b6, -⟩
    dsimp only
    have c6 : Below w4.heap.size w4 w6 := c5.trans (b6.mono c5.size)
    clear y0 y1 y2 y3
    obtain ⟨y0, y1, y2, y3⟩ := HCL.out _ c6
    go_wp2_with fail
    refine (C30.out _ b6).mono ?_
    rintro e w7 ⟨A7, q7, rfl, o7, b7, -⟩
    dsimp only
    have c7 : Below w4.heap.size w4 w7 := c6.trans (b7.mono c6.size)
    clear y0 y1 y2 y3
    obtain ⟨y0, y1, y2, y3⟩ := HCL.out _ c7
    go_wp2_with fail
    refine (C31.out _ c7).mono ?_
    rintro e w8 ⟨A8, q8, rfl, r8, b8⟩
    dsimp only
    have c8 : Below w4.heap.size w4 w8 := c7.trans (b8.mono c7.size)
    clear y0 y1 y2 y3
    obtain ⟨y0, y1, y2, y3⟩ := HCL.out _ c8
    have b68 : Below w6.heap.size w6 w8 := b7.trans (b8.mono b7.size)
    have O6 := Lib.hid (own_below o6 b68)
    have O7 := Lib.hid (own_below o7 b8)
    have z24 := HB24.out.size
    have z45 := b5.size
    have z56 := b6.size
    have z67 := b7.size
    have z78 := b8.size
    have RG6 : Hid (∀ gg, (Value.slice A6 XS.length q6).ownBlock = some gg → w5.heap.size ≤ gg ∧ gg < w6.heap.size) := Lib.hid (own_rngZ o6 (Nat.le_refl _))
    have RG7 : Hid (∀ gg, (Value.slice A7 XS.length q7).ownBlock = some gg → w6.heap.size ≤ gg ∧ gg < w7.heap.size) := Lib.hid (own_rngZ o7 (Nat.le_refl _))
    have CSH := Lib.hid (sameHits_any A6 A8 q6 q8 XS XS w8 w8.heap.size (own_rdHZ O6.out) r8 (by omega) (by omega))
    rw [show eqHB XS XS = true from decide_eq_true rfl] at CSH
    have e7 : (E != E) = false := by simp
    have HKB := Lib.hid (HKP.out.below (b6.trans (b68.mono b6.size)))
    clear o6 o7 b5 b6 b7 b8 b68 c5 c6 c7 C30 C31 r8 c4
    go_wp2_with fail
    refine CSH.out.mono ?_
    rintro e w9 ⟨rfl, nq, rfl⟩
    dsimp only
    have d9 : Below w8.heap.size w8 (w8.drewN nq) := below_drewN (Below.refl _ _) nq
    obtain ⟨w9, ew9⟩ : ∃ w9, w8.drewN nq = w9 := ⟨_, rfl⟩
    rw [ew9] at d9 ⊢
    have c9 : Below w4.heap.size w4 w9 := c8.trans (d9.mono c8.size)
    clear y0 y1 y2 y3 ew9 CSH
    obtain ⟨y0, y1, y2, y3⟩ := HCL.out _ c9
    go_wp2_with fail
    refine (leftGraph_any gt w2.heap.size T A c L s _ rfl w9 (HT4.out.below c9) HTV.out HTL.out (HX.out.below (HUP.out _ c9)) HSM.out).mono ?_
    rintro e wE ⟨rfl, bE⟩
    dsimp only
    have cE8 : Below w8.heap.size w8 wE := d9.trans (bE.mono d9.size)
    have cE : Below w4.heap.size w4 wE := c9.trans (bE.mono c9.size)
    clear y0 y1 y2 y3
    obtain ⟨y0, y1, y2, y3⟩ := HCL.out _ cE
    go_wp2_with fail
    refine (leftInt8s_any (some ⟨w4.heap.size, 0, none⟩) B (v.length + 1) q v v.length rfl wE wE.heap.size (HVR.out _ (HUP.out _ cE)) (HKB.out.below cE8).rd hl (Nat.lt_succ_self _) (by omega) (by omega)).mono ?_
    rintro e wF ⟨rfl, nq, rfl⟩
    dsimp only
    have dF : Below wE.heap.size wE (wE.drewN nq) := below_drewN (Below.refl _ _) nq
    obtain ⟨wF, ewF⟩ : ∃ wF, wE.drewN nq = wF := ⟨_, rfl⟩
    rw [ewF] at dF ⊢
    have cF8 : Below w8.heap.size w8 wF := cE8.trans (dF.mono cE8.size)
    have cF : Below w4.heap.size w4 wF := cE.trans (dF.mono cE.size)
    clear y0 y1 y2 y3 ewF
    obtain ⟨y0, y1, y2, y3⟩ := HCL.out _ cF
    have HBN := Lib.hid (btg_new wF w2.heap.size w2.heap.size)
    have bN : Below wF.heap.size wF (wF.alloc newBkG) := below_one (Below.refl _ _) _
    have eN : wF.alloc newBkG = wF.alloc (.cells #[.int .i64 0, .slice none 0 0, .slice none 0 0, .slice none 0 0, .slice none 0 0, .slice none 0 0, .slice none 0 0, .slice none 0 0, .slice none 0 0, .slice none 0 0, .slice none 0 0, .slice none 0 0, .slice none 0 0] 50) := rfl
    have HEN := Lib.hid eN
    have cN8 : Below w8.heap.size w8 (wF.alloc newBkG) := cF8.trans (bN.mono cF8.size)
    have cN : Below w4.heap.size w4 (wF.alloc newBkG) := cF.trans (bN.mono cF.size)
    have yN := HCL.out _ cN
    rw [eN] at yN
    clear y0 y1 y2 y3
    obtain ⟨y0, y1, y2, y3⟩ := yN
    clear eN
    go_upto_region 11 with fail
    rw [← HEN.out]
    obtain ⟨wN, ewN⟩ : ∃ wN, wF.alloc newBkG = wN := ⟨_, rfl⟩
    obtain ⟨bk, ebk⟩ : ∃ bk, wF.heap.size = bk := ⟨_, rfl⟩
    rw [ewN, ebk] at HBN
    rw [ewN] at cN cN8
    rw [← HEN.out, ewN] at y0 y1 y2 y3
    rw [ewN, ebk]
    have hbk : w2.heap.size ≤ bk := by rw [← ebk]; have := cF.size; omega
    have hzN : w8.heap.size ≤ wN.heap.size := cN8.size
    have I1 := Lib.hid (HIG.out.below cN)
    have O5 := Lib.hid (own_base (HKB.out.below cN8).own (Nat.le_trans z24 (Nat.le_refl _)))
    have R5 : Hid (∀ gg, (Value.slice (some ⟨w4.heap.size, 0, none⟩) v.length (v.length + 1)).ownBlock = some gg → w4.heap.size ≤ gg ∧ gg < w5.heap.size) := Lib.hid (own_rngZ HKP.out.own (Nat.le_refl _))
    have P6 := Lib.hid (own_base (own_below O6.out cN8) (show w2.heap.size ≤ w5.heap.size by omega))
    have P7 := Lib.hid (own_base (own_below O7.out cN8) (show w2.heap.size ≤ w6.heap.size by omega))
    have HUD := Lib.hid (HUP.out _ cN)
    have hw2 := HB2.out.size
    clear ewN ebk bN dF cF cF8 cE cE8 c9 d9 bE HEN HCL HZ0 HZT cN cN8 c8
    go_wp2_with fail
    have C25 := btg_graph (S := s) HBN.out I1.out (hi := w4.heap.size) z24 (by omega) hbk (by rw [HTL.out]; exact hT0) (by omega)
    rw [HTL.out] at C25
    refine C25.mono ?_
    rintro e wG ⟨rfl, HB1, K1⟩
    clear C25
    have P5 := Lib.hid (K1.r8 O5.out)
    have P6 := Lib.hid (K1.rh P6.out)
    have P7 := Lib.hid (K1.rh P7.out)
    have zG := K1.below.size
    dsimp only
    clear y0 y1 y2 y3
    go_wp2_with fail
    refine (btg_int8s (hi := w5.heap.size) HB1 P5.out R5.out z45 (by omega) hbk (by omega) (by omega)).mono ?_
    rintro e wH ⟨rfl, HB2', K2⟩
    have P6 := Lib.hid (K2.rh P6.out)
    have P7 := Lib.hid (K2.rh P7.out)
    have zH := K2.below.size
    dsimp only
    go_wp2_with fail
    refine (btg_hits (hi := w6.heap.size) HB2' P6.out RG6.out z56 (by omega) hbk (by omega) (by omega)).mono ?_
    rintro e wI ⟨rfl, HB3', K3⟩
    have P7 := Lib.hid (K3.rh P7.out)
    have zI := K3.below.size
    dsimp only
    go_wp2_with fail
    refine (btg_hits (hi := w7.heap.size) HB3' P7.out RG7.out z67 (by omega) hbk (by omega) (by omega)).mono ?_
    rintro e wJ ⟨rfl, HB4', K4⟩
    have zJ := K4.below.size
    dsimp only
    go_wp2_with fail
    refine (btg_apart HB4' (by omega)).mono ?_
    rintro e wK ⟨rfl, bK⟩
    dsimp only
    go_wp2
    go_ret
    exact ⟨rfl, HUD.out.trans ((K1.below.trans (K2.below.trans (K3.below.trans (K4.below.trans bK)))).mono hw2)⟩
end Go.Proofs.YtkmngbkghgelfaaGreat
