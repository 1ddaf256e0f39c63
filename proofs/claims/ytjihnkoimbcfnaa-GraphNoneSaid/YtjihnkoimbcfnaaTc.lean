/- The walk of GraphDrops. -/
import Derived.Test.YtjihnkoimbcfnaaTb
import Derived.Test.YtjihnkoimbcfnaaLk
import Derived.Test.YtjihnkoimbcfnaaBy
import Derived.Test.YtjihnkoimbcfnaaBi
namespace Go.Proofs.Ytjihnkoimbcfnaa
open Go.RowKit
set_option linter.unusedVariables false
theorem beyond_one9 (n : Nat) (hn : n ≤ 140737488355328) (w : World) : Calls Try.prog 28 #[.slice (some ⟨w.heap.size, 0, none⟩) 1 1] (w.alloc (.cells #[.int .i64 (n : Int)] 3)) fun e w' => (∃ b, e = .returned (.bool b) ∧ (b = false → n ≤ 1048576)) ∧ w' = w.alloc (.cells #[.int .i64 (n : Int)] 3) := by
  have hx : Rd .i64 (w.alloc (.cells #[.int .i64 (n : Int)] 3)) (w.heap.size + 1) (some ⟨w.heap.size, 0, none⟩) [(n : Int)] := fun _ => ⟨w.heap.size, 0, rfl, Nat.lt_succ_self _, fun i hi => by
    obtain rfl : i = 0 := by simp at hi; exact hi
    exact (Whole.new w 3 _).cell 0⟩
  refine (beyond_any (some ⟨w.heap.size, 0, none⟩) 1 [(n : Int)] 1 rfl _ _ hx (fun x hx => by rw [List.mem_singleton] at hx; omega) (by simp)).mono ?_
  rintro e w' ⟨rfl, rfl⟩
  refine ⟨⟨_, rfl, fun h => ?_⟩, rfl⟩
  unfold bey at h
  have := of_decide_eq_false h
  simp at this
  omega
theorem dropN_mem {G : List Pn} {P : List Int} {k : Nat} {x : Pn} (h : x ∈ dropN G P k) : ∃ i, i < k ∧ x = dropNode P (nAt G i) := by
  unfold dropN at h
  obtain ⟨i, hi, rfl⟩ := List.mem_map.1 h
  have := List.mem_filter.1 hi
  exact ⟨i, List.mem_range.1 this.1, rfl⟩
theorem dropA_small {G : List Pn} {s : Int} {P : List Int} (h : GSmall G) : (dropA G s P).length ≤ 20000 ∧ ∀ x ∈ dropA G s P, x.2.1.length ≤ 20000 ∧ x.2.2.length ≤ 20000 := by
  unfold dropA
  split
  · refine ⟨?_, fun x hx => ?_⟩
    · rw [dropN_len]
      have := toN_le P G.length
      have := h.len
      omega
    · obtain ⟨i, hi, rfl⟩ := dropN_mem hx
      have h1 := h.at_ (nAt_mem hi)
      exact ⟨h1.1, Nat.le_trans (keepO_len _ _) h1.2⟩
  · exact ⟨Nat.zero_le _, fun x hx => by simp at hx⟩
theorem twin_nil9 {w : World} {base g : Nat} {T : List Gn} (h : TwinG w base g T) : ∀ x ∈ T, x.2.1.1 = none → x.2.1.2.1 = 0 := fun x hx hn => by
  obtain ⟨k, hk⟩ := (h.tv x hx).2.1
  rw [hk] at hn; cases hn
set_option maxRecDepth 100000 in
set_option maxHeartbeats 8000000 in
theorem graphDrops_main (A : Option Addr) (c : Nat) (L : List Gn) (s : Int) (B : Option Addr) (q : Nat) (P : List Int) (w : World) (hx : GGiven w A L) (hn : ∀ x ∈ L, x.2.1.1 = none → x.2.1.2.1 = 0) (hp : Rd .i64 w w.heap.size B P) (hl : P.length ≤ q) (hm : q ≤ 140737488351232) (hw : ∀ p ∈ P, -9223372036854775808 ≤ p ∧ p ≤ 9223372036854775807) :
    Calls Try.prog 5 #[.agg #[.slice A L.length c, .int .i64 s], .slice B P.length q] w fun e w' => e = .returned (.bool true) ∧ Below w.heap.size w w' := by
  have HW0 := Lib.hid (Whole.new w 24 #[.slice A L.length c, .int .i64 s])
  have HB0 := Lib.hid (below_one (Below.refl w.heap.size w) (.cells #[.slice A L.length c, .int .i64 s] 24))
  have HX := Lib.hid hx
  have HN := Lib.hid hn
  have HP := Lib.hid hp
  have HWP := Lib.hid hw
  have zc0 := HW0.out.cell 0
  have zc1 := HW0.out.cell 1
  clear hx hn hp hw
  go_enter Try.func5, Try.ntmps5
  go_wp2_with fail
  obtain ⟨w1, ew1⟩ : ∃ w1, w.alloc (.cells #[.slice A L.length c, .int .i64 s] 24) = w1 := ⟨_, rfl⟩
  rw [ew1] at HW0 HB0 ⊢
  obtain ⟨g, eg⟩ : ∃ g, w.heap.size = g := ⟨_, rfl⟩
  rw [eg] at HW0 ⊢
  have HG := Lib.hid eg
  clear ew1 eg zc0 zc1
  refine (great9_any A c L s w1 (HX.out.below HB0.out)).mono ?_
  rintro e wq ⟨⟨gb, rfl, hgb⟩, bq⟩
  dsimp only
  have HBQ := Lib.hid (HB0.out.trans (bq.mono HB0.out.size))
  cases gb with
  | true =>
    clear hgb
    go_wp2
    go_ret
    exact ⟨rfl, HBQ.out⟩
  | false =>
  have HSM := Lib.hid (hgb rfl)
  clear hgb
  go_wp2_with fail
  refine (beyond_one9 P.length (by omega) wq).mono ?_
  rintro e w2' ⟨⟨bb, rfl, hbb⟩, rfl⟩
  dsimp only
  have bq2 : Below wq.heap.size wq (wq.alloc (.cells #[.int .i64 (P.length : Int)] 3)) := below_one (Below.refl _ _) _
  obtain ⟨w2, ew2⟩ : ∃ w2, wq.alloc (.cells #[.int .i64 (P.length : Int)] 3) = w2 := ⟨_, rfl⟩
  rw [ew2] at bq2 ⊢
  have HB2 := Lib.hid (HBQ.out.trans (bq2.mono HBQ.out.size))
  cases bb with
  | true =>
    clear hbb
    go_wp2
    go_ret
    exact ⟨rfl, HB2.out⟩
  | false =>
    have hPl := hbb rfl
    have Z0 := (HW0.out.below bq HW0.out.lt).below bq2 (Nat.lt_of_lt_of_le HW0.out.lt bq.size)
    have zc0 := Z0.cell 0
    have zc1 := Z0.cell 1
    have HZ0 := Lib.hid Z0
    clear hbb bq bq2 ew2 Z0 HW0 HB0
    go_upto_region 4 with (go_at_call 12; refine (twinGraph_any A c L s w2 (HX.out.below HB2.out) HSM.out).mono ?_; rintro e w3 ⟨gt, T, rfl, hgt, hT, hTv, hTl, b3⟩)
    obtain ⟨w4, ew4⟩ : ∃ w4, w3.alloc (.cells #[.slice (some ⟨gt, 0, none⟩) L.length (L.length + 1), .int .i64 s] 24) = w4 := ⟨_, rfl⟩
    obtain ⟨tb, etb⟩ : ∃ tb, w3.heap.size = tb := ⟨_, rfl⟩
    have b4 : Below w2.heap.size w2 w4 := by rw [← ew4]; exact below_one b3 _
    have ZT : Whole w4 tb 24 #[.slice (some ⟨gt, 0, none⟩) L.length (L.length + 1), .int .i64 s] := by rw [← ew4, ← etb]; exact Whole.new w3 _ _
    have hT4 : TwinG w4 w2.heap.size gt T := by rw [← ew4]; exact hT.below (below_one (Below.refl _ _) _)
    have hIG : InG w4 w2.heap.size w2.heap.size w4.heap.size (some ⟨gt, 0, none⟩) (T.length + 1) T := hT4.inG (Nat.le_refl _) (by rw [hTv]; exact fun x h => HSM.out.at_ h)
    have HB4 : Hid (Below w.heap.size w w4) := Lib.hid (HB2.out.trans (b4.mono HB2.out.size))
    have HZT := Lib.hid ZT
    have HT4 := Lib.hid hT4
    have HIG := Lib.hid hIG
    have HTV := Lib.hid hTv
    have HTL := Lib.hid hTl
    have HB24 := Lib.hid b4
    have HCL : Hid (∀ W, Below w4.heap.size w4 W → W.cell? ⟨g, 0, none⟩ = some (.slice A L.length c) ∧ W.cell? ⟨g, 1, none⟩ = some (.int .i64 s) ∧ W.cell? ⟨tb, 0, none⟩ = some (.slice (some ⟨gt, 0, none⟩) L.length (L.length + 1)) ∧ W.cell? ⟨tb, 1, none⟩ = some (.int .i64 s)) := Lib.hid (fun W h => by
      have hW : Below w2.heap.size w2 W := HB24.out.trans (h.mono HB24.out.size)
      have z0 := HZ0.out.below hW HZ0.out.lt
      have z2 := HZT.out.below h HZT.out.lt
      exact ⟨z0.cell 0, z0.cell 1, z2.cell 0, z2.cell 1⟩)
    have HUP : Hid (∀ W, Below w4.heap.size w4 W → Below w.heap.size w W) := Lib.hid (fun W h => HB4.out.trans (h.mono HB4.out.size))
    have HAR : Hid (GArg w A L) := Lib.hid (HX.out.arg HSM.out)
    have HPR : Hid (∀ W, Below w.heap.size w W → Rd .i64 W W.heap.size B P) := Lib.hid (fun W h => (HP.out.below h).more h.size)
    have HSA := Lib.hid (dropA_small (s := s) (P := P) HSM.out)
    rw [ew4, etb]
    have hT0 : L.length ≤ 20000 := by have := HSM.out.len; rwa [pns_len] at this
    clear ew4 etb b4 ZT hT4 hTv hTl hT b3 hgt zc0 zc1 hIG
    have c4 : Below w4.heap.size w4 w4 := Below.refl _ _
    obtain ⟨y0, y1, y2, y3⟩ := HCL.out _ c4
    go_wp2_with fail
    refine (twinInts_any B q P P.length rfl w4 (HPR.out _ HB4.out) (by omega)).mono ?_
    rintro e w5 ⟨rfl, b5, o5⟩
    dsimp only
    have c5 : Below w4.heap.size w4 w5 := b5
    have KP : KTw .i64 3 w5 w4.heap.size (some ⟨w4.heap.size, 0, none⟩, P.length + 1, P) := ⟨rfl, ⟨_, rfl⟩, o5⟩
    have HKP := Lib.hid KP
    have C30 : Hid (∀ W, Below w5.heap.size w5 W → Calls Try.prog 30 #[.agg #[.slice (some ⟨gt, 0, none⟩) L.length (L.length + 1), .int .i64 s], .slice (some ⟨w4.heap.size, 0, none⟩) P.length (P.length + 1)] W (GAns W (dropA (pns L) s P) (dropS (pns L) s P) (errG (dropB (pns L) s P)))) := Lib.hid (fun W h => by
      have hW := HT4.out.below (b5.trans (h.mono b5.size))
      have := drop_any (some ⟨gt, 0, none⟩) (L.length + 1) T s (some ⟨w4.heap.size, 0, none⟩) (P.length + 1) P W (twin_arg9 hW HTV.out HSM.out HX.out.ok) (twin_nil9 hW) (HKP.out.below h).rd0 (by omega)
      rwa [HTL.out, HTV.out] at this)
    have C31 : Hid (∀ W, Below w4.heap.size w4 W → Calls Try.prog 31 #[.agg #[.slice A L.length c, .int .i64 s], .slice B P.length q] W (GAns W (dropA (pns L) s P) (dropS (pns L) s P) (errG (dropB (pns L) s P)))) := Lib.hid (fun W h => rDrop_any A c L s B q P W (HAR.out.below (HUP.out W h)) HN.out (HPR.out _ (HUP.out W h)) (by omega) HWP.out)
    obtain ⟨G, eG⟩ : ∃ G, dropA (pns L) s P = G := ⟨_, rfl⟩
    obtain ⟨D, eD⟩ : ∃ D, dropS (pns L) s P = D := ⟨_, rfl⟩
    obtain ⟨E, eE⟩ : ∃ E, errG (dropB (pns L) s P) = E := ⟨_, rfl⟩
    rw [eG, eD, eE] at C30 C31
    rw [eG] at HSA
    clear eG eD eE KP o5 y0 y1 y2 y3
    obtain ⟨y0, y1, y2, y3⟩ := HCL.out _ c5
    go_upto_region 6 with (go_at_call 30; refine (C30.out _ (Below.refl _ _)).mono ?_; rintro e w6 ⟨A6, q6, T6, rfl, o6, v6, b6⟩)
    obtain ⟨w7, ew7⟩ : ∃ w7, w6.alloc (.cells #[.slice A6 T6.length q6, .int .i64 D] 24) = w7 := ⟨_, rfl⟩
    obtain ⟨x7, ex7⟩ : ∃ x7, w6.heap.size = x7 := ⟨_, rfl⟩
    have b7 : Below w5.heap.size w5 w7 := by rw [← ew7]; exact below_one b6 _
    have b67 : Below w6.heap.size w6 w7 := by rw [← ew7]; exact below_one (Below.refl _ _) _
    have Z7 := Lib.hid (show w7.ownsRow w5.heap.size 24 2 (.slice (some ⟨x7, 0, none⟩) 1 1) 1 [.slice A6 T6.length q6, .int .i64 D] by rw [← ew7, ← ex7]; exact box2_row w6 _ b6.size _ _ _)
    have c7 : Below w4.heap.size w4 w7 := c5.trans (b7.mono c5.size)
    rw [ew7, ex7]
    clear y0 y1 y2 y3 ew7 ex7
    obtain ⟨y0, y1, y2, y3⟩ := HCL.out _ c7
    go_upto_region 7 with (go_at_call 30; refine (C30.out _ b7).mono ?_; rintro e w8 ⟨A8, q8, T8, rfl, o8, v8, b8⟩)
    obtain ⟨w9, ew9⟩ : ∃ w9, w8.alloc (.cells #[.slice A8 T8.length q8, .int .i64 D] 24) = w9 := ⟨_, rfl⟩
    obtain ⟨x9, ex9⟩ : ∃ x9, w8.heap.size = x9 := ⟨_, rfl⟩
    have b9 : Below w7.heap.size w7 w9 := by rw [← ew9]; exact below_one b8 _
    have b89 : Below w8.heap.size w8 w9 := by rw [← ew9]; exact below_one (Below.refl _ _) _
    have Z9 := Lib.hid (show w9.ownsRow w7.heap.size 24 2 (.slice (some ⟨x9, 0, none⟩) 1 1) 1 [.slice A8 T8.length q8, .int .i64 D] by rw [← ew9, ← ex9]; exact box2_row w8 _ b8.size _ _ _)
    have c9 : Below w4.heap.size w4 w9 := c7.trans (b9.mono c7.size)
    rw [ew9, ex9]
    clear y0 y1 y2 y3 ew9 ex9
    obtain ⟨y0, y1, y2, y3⟩ := HCL.out _ c9
    go_upto_region 8 with (go_at_call 31; refine (C31.out _ c9).mono ?_; rintro e wA ⟨AA, qA, TA, rfl, oA, vA, bA⟩)
    obtain ⟨wB, ewB⟩ : ∃ wB, wA.alloc (.cells #[.slice AA TA.length qA, .int .i64 D] 24) = wB := ⟨_, rfl⟩
    obtain ⟨xB, exB⟩ : ∃ xB, wA.heap.size = xB := ⟨_, rfl⟩
    have bB : Below w9.heap.size w9 wB := by rw [← ewB]; exact below_one bA _
    have bAB : Below wA.heap.size wA wB := by rw [← ewB]; exact below_one (Below.refl _ _) _
    have ZB := Lib.hid (show wB.ownsRow w9.heap.size 24 2 (.slice (some ⟨xB, 0, none⟩) 1 1) 1 [.slice AA TA.length qA, .int .i64 D] by rw [← ewB, ← exB]; exact box2_row wA _ bA.size _ _ _)
    have cB : Below w4.heap.size w4 wB := c9.trans (bB.mono c9.size)
    rw [ewB, exB]
    clear y0 y1 y2 y3 ewB exB
    have b79 : Below w7.heap.size w7 wB := b9.trans (bB.mono b9.size)
    have P7 := Lib.hid (own_below Z7.out b79)
    have P9 := Lib.hid (own_below Z9.out bB)
    have I6 := Lib.hid (((o6.inG (base := w2.heap.size) (by have := HB24.out.size; have := b5.size; omega) (by rw [v6]; exact HSA.out.2)).below b67).below b79)
    have I8 := Lib.hid (((o8.inG (base := w2.heap.size) (by have := HB24.out.size; have := c7.size; omega) (by rw [v8]; exact HSA.out.2)).below b89).below bB)
    have R6 := Lib.hid ((((o6.rd.below b67).more b67.size).below b79).more b79.size)
    have R8 := Lib.hid ((((o8.rd.below b89).more b89.size).below bB).more bB.size)
    have RA := Lib.hid ((oA.rd.below bAB).more bAB.size)
    have hl6 : T6.length ≤ 20000 := by have := HSA.out.1; rw [← v6, pns_len] at this; exact this
    have hl8 : T8.length ≤ 20000 := by have := HSA.out.1; rw [← v8, pns_len] at this; exact this
    have V6 := Lib.hid v6
    have V8 := Lib.hid v8
    have VA := Lib.hid vA
    have HCB : Hid (∀ W, Below wB.heap.size wB W → (W.cell? ⟨g, 0, none⟩ = some (.slice A L.length c) ∧ W.cell? ⟨g, 1, none⟩ = some (.int .i64 s) ∧ W.cell? ⟨tb, 0, none⟩ = some (.slice (some ⟨gt, 0, none⟩) L.length (L.length + 1)) ∧ W.cell? ⟨tb, 1, none⟩ = some (.int .i64 s)) ∧ (W.cell? ⟨x7, 0, none⟩ = some (.slice A6 T6.length q6) ∧ W.cell? ⟨x7, 1, none⟩ = some (.int .i64 D)) ∧ (W.cell? ⟨x9, 0, none⟩ = some (.slice A8 T8.length q8) ∧ W.cell? ⟨x9, 1, none⟩ = some (.int .i64 D)) ∧ W.cell? ⟨xB, 0, none⟩ = some (.slice AA TA.length qA) ∧ W.cell? ⟨xB, 1, none⟩ = some (.int .i64 D)) := Lib.hid (fun W h => by
      have z7 := own_below P7.out h
      have z9 := own_below P9.out h
      have zB := own_below ZB.out h
      exact ⟨HCL.out _ (cB.trans (h.mono cB.size)), ⟨(z7.cellAt 0 (by decide)).trans rfl, (z7.cellAt 1 (by decide)).trans rfl⟩, ⟨(z9.cellAt 0 (by decide)).trans rfl, (z9.cellAt 1 (by decide)).trans rfl⟩, (zB.cellAt 0 (by decide)).trans rfl, (zB.cellAt 1 (by decide)).trans rfl⟩)
    have z24 := HB24.out.size
    have z45 := b5.size
    have z56 := b6.size
    have z67 := b67.size
    have z78 := b8.size
    have z89 := b89.size
    have z9B := bB.size
    have HKB := Lib.hid (HKP.out.below (b7.trans (b79.mono b7.size)))
    have HB79 := Lib.hid b79
    have HB9B := Lib.hid bB
    clear o6 o8 oA v6 v8 vA b5 b6 b67 b7 b8 b89 b9 bA bAB bB b79 c4 c5 c7 c9 C30 C31 P7 P9
    have cB0 : Below wB.heap.size wB wB := Below.refl _ _
    obtain ⟨⟨y0, y1, y2, y3⟩, ⟨y4, y5⟩, ⟨y6, y7⟩, y8, y9⟩ := HCB.out _ cB0
    go_wp2_with fail
    refine (sameGraph_any A6 q6 T6 AA qA TA D wB wB.heap.size (Nat.le_refl _) R6.out RA.out (V6.out.trans VA.out.symm) hl6 (by rw [V6.out]; exact HSA.out.2)).mono ?_
    rintro e wC ⟨rfl, bC⟩
    dsimp only
    have cC : Below wB.heap.size wB wC := bC
    clear y0 y1 y2 y3 y4 y5 y6 y7 y8 y9
    obtain ⟨⟨y0, y1, y2, y3⟩, ⟨y4, y5⟩, ⟨y6, y7⟩, y8, y9⟩ := HCB.out _ cC
    go_wp2_with fail
    refine (sameGraph_any A8 q8 T8 AA qA TA D wC wB.heap.size cC.size (R8.out.below cC) (RA.out.below cC) (V8.out.trans VA.out.symm) hl8 (by rw [V8.out]; exact HSA.out.2)).mono ?_
    rintro e wD ⟨rfl, bD⟩
    dsimp only
    have cD : Below wB.heap.size wB wD := cC.trans (bD.mono cC.size)
    clear y0 y1 y2 y3 y4 y5 y6 y7 y8 y9
    obtain ⟨⟨y0, y1, y2, y3⟩, ⟨y4, y5⟩, ⟨y6, y7⟩, y8, y9⟩ := HCB.out _ cD
    go_wp2_with fail
    refine (leftGraph_any gt w2.heap.size T A c L s _ rfl wD (HT4.out.below (cB.trans (cD.mono cB.size))) HTV.out HTL.out (HX.out.below (HUP.out _ (cB.trans (cD.mono cB.size)))) HSM.out).mono ?_
    rintro e wE ⟨rfl, bE⟩
    dsimp only
    have cE : Below wB.heap.size wB wE := cD.trans (bE.mono cD.size)
    clear y0 y1 y2 y3 y4 y5 y6 y7 y8 y9
    obtain ⟨⟨y0, y1, y2, y3⟩, ⟨y4, y5⟩, ⟨y6, y7⟩, y8, y9⟩ := HCB.out _ cE
    go_wp2_with fail
    refine (leftInts_any (some ⟨w4.heap.size, 0, none⟩) B (P.length + 1) q P P.length rfl wE wE.heap.size (HPR.out _ (HUP.out _ (cB.trans (cE.mono cB.size)))) (HKB.out.below cE).rd hl (Nat.lt_succ_self _) (by omega) (by omega)).mono ?_
    rintro e wF ⟨rfl, nq, rfl⟩
    dsimp only
    have dF : Below wE.heap.size wE (wE.drewN nq) := below_drewN (Below.refl _ _) nq
    obtain ⟨wF, ewF⟩ : ∃ wF, wE.drewN nq = wF := ⟨_, rfl⟩
    rw [ewF] at dF ⊢
    have cF : Below wB.heap.size wB wF := cE.trans (dF.mono cE.size)
    clear y0 y1 y2 y3 y4 y5 y6 y7 y8 y9 ewF
    obtain ⟨⟨y0, y1, y2, y3⟩, ⟨y4, y5⟩, ⟨y6, y7⟩, y8, y9⟩ := HCB.out _ cF
    have HBN := Lib.hid (btg_new wF w2.heap.size w2.heap.size)
    have bN : Below wF.heap.size wF (wF.alloc newBkG) := below_one (Below.refl _ _) _
    have eN : wF.alloc newBkG = wF.alloc (.cells #[.int .i64 0, .slice none 0 0, .slice none 0 0, .slice none 0 0, .slice none 0 0, .slice none 0 0, .slice none 0 0, .slice none 0 0, .slice none 0 0, .slice none 0 0, .slice none 0 0, .slice none 0 0, .slice none 0 0] 53) := rfl
    have HEN := Lib.hid eN
    have cN : Below wB.heap.size wB (wF.alloc newBkG) := cF.trans (bN.mono cF.size)
    have yN := HCB.out _ cN
    rw [eN] at yN
    clear y0 y1 y2 y3 y4 y5 y6 y7 y8 y9
    obtain ⟨⟨y0, y1, y2, y3⟩, ⟨y4, y5⟩, ⟨y6, y7⟩, y8, y9⟩ := yN
    clear eN
    go_upto_region 11 with fail
    rw [← HEN.out]
    obtain ⟨wN, ewN⟩ : ∃ wN, wF.alloc newBkG = wN := ⟨_, rfl⟩
    obtain ⟨bk, ebk⟩ : ∃ bk, wF.heap.size = bk := ⟨_, rfl⟩
    rw [ewN, ebk] at HBN
    rw [ewN] at cN
    rw [← HEN.out, ewN] at y0 y1 y2 y3 y4 y5 y6 y7 y8 y9
    rw [ewN, ebk]
    have hbk : w2.heap.size ≤ bk := by rw [← ebk]; have := cF.size; omega
    have hzN : wB.heap.size ≤ wN.heap.size := cN.size
    have I1 := Lib.hid (HIG.out.below (cB.trans (cN.mono cB.size)))
    have O5 := Lib.hid (own_base (HKB.out.below cN).own (Nat.le_trans z24 (Nat.le_refl _)))
    have R5 : Hid (∀ gg, (Value.slice (some ⟨w4.heap.size, 0, none⟩) P.length (P.length + 1)).ownBlock = some gg → w4.heap.size ≤ gg ∧ gg < w5.heap.size) := Lib.hid (own_rng (base := 0) HKP.out.own (Nat.le_refl _))
    have J6 := Lib.hid (I6.out.below cN)
    have J8 := Lib.hid (I8.out.below cN)
    have Q7 := Lib.hid (own_below (own_below Z7.out (HB79.out)) cN)
    have Q9 := Lib.hid (own_below (own_below Z9.out (HB9B.out)) cN)
    have HUD := Lib.hid (HUP.out _ (cB.trans (cN.mono cB.size)))
    have hw2 := HB2.out.size
    clear ewN ebk bN cC bC cD bD cE bE dF cF cB HEN HCL HZ0 HZT cN
    go_wp2_with fail
    have C25 := btg_graph (S := s) HBN.out I1.out (hi := w4.heap.size) z24 (by omega) hbk (by rw [HTL.out]; exact hT0) (by omega)
    rw [HTL.out] at C25
    refine C25.mono ?_
    rintro e wG ⟨rfl, HB1, K1⟩
    clear C25
    have P5 := Lib.hid (K1.ri O5.out)
    have J6 := Lib.hid (J6.out.kg K1)
    have J8 := Lib.hid (J8.out.kg K1)
    have Q7 := Lib.hid (K1.row (by decide) (by decide) (by decide) (by decide) Q7.out)
    have Q9 := Lib.hid (K1.row (by decide) (by decide) (by decide) (by decide) Q9.out)
    have zG := K1.below.size
    dsimp only
    clear y0 y1 y2 y3 y4 y5 y6 y7 y8 y9
    go_wp2_with fail
    refine (btg_ints (hi := w5.heap.size) HB1 P5.out R5.out z45 (by omega) hbk (by omega) (by omega)).mono ?_
    rintro e wH ⟨rfl, HB2', K2⟩
    have J6 := Lib.hid (J6.out.kg K2)
    have J8 := Lib.hid (J8.out.kg K2)
    have Q7 := Lib.hid (K2.row (by decide) (by decide) (by decide) (by decide) Q7.out)
    have Q9 := Lib.hid (K2.row (by decide) (by decide) (by decide) (by decide) Q9.out)
    have zH := K2.below.size
    have y4 : wH.cell? ⟨x7, 0, none⟩ = some (.slice A6 T6.length q6) := (Q7.out.cellAt 0 (by decide)).trans rfl
    have y5 : wH.cell? ⟨x7, 1, none⟩ = some (.int .i64 D) := (Q7.out.cellAt 1 (by decide)).trans rfl
    dsimp only
    go_wp2_with fail
    refine (btg_graph (S := D) HB2' J6.out (hi := w6.heap.size) z56 (by omega) hbk hl6 (by omega)).mono ?_
    rintro e wI ⟨rfl, HB3', K3⟩
    have J8 := Lib.hid (J8.out.kg K3)
    have Q9 := Lib.hid (K3.row (by decide) (by decide) (by decide) (by decide) Q9.out)
    have zI := K3.below.size
    have y6 : wI.cell? ⟨x9, 0, none⟩ = some (.slice A8 T8.length q8) := (Q9.out.cellAt 0 (by decide)).trans rfl
    have y7 : wI.cell? ⟨x9, 1, none⟩ = some (.int .i64 D) := (Q9.out.cellAt 1 (by decide)).trans rfl
    dsimp only
    clear y4 y5
    go_wp2_with fail
    refine (btg_graph (S := D) (HB3'.up z67) J8.out (hi := w8.heap.size) z78 (by omega) hbk hl8 (by omega)).mono ?_
    rintro e wJ ⟨rfl, HB4', K4⟩
    have zJ := K4.below.size
    dsimp only
    clear y6 y7
    go_wp2_with fail
    refine (btg_apart HB4' (by omega)).mono ?_
    rintro e wK ⟨rfl, bK⟩
    dsimp only
    go_wp2
    go_ret
    exact ⟨rfl, HUD.out.trans ((K1.below.trans (K2.below.trans (K3.below.trans (K4.below.trans bK)))).mono hw2)⟩
end Go.Proofs.Ytjihnkoimbcfnaa
