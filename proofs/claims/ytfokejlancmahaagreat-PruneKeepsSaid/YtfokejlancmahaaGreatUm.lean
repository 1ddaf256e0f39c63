/- The walk of PruneKeeps. -/
import Derived.Test.YtfokejlancmahaaGreatWc
import Derived.Test.YtfokejlancmahaaGreatKf
import Derived.Test.YtfokejlancmahaaGreatKc
import Derived.Test.YtfokejlancmahaaGreatBs
import Derived.Deep.Cut
namespace Go.Proofs.YtfokejlancmahaaGreat
open Go.RowKit
set_option linter.unusedVariables false
set_option linter.unusedSimpArgs false
/-- A twin as an argument. -/
theorem twin_argM {w : World} {base g : Nat} {T L : List Gn} (h : TwinG w base g T) (hv : pns T = pns L) (hs : GSmall (pns L)) (hok : ∀ x ∈ pns L, PnOk x) : GArg w (some ⟨g, 0, none⟩) T := ⟨h.rd, by rw [hv]; exact hs, by rw [hv]; exact hok⟩
theorem twin_roomM {w : World} {base g : Nat} {T : List Gn} (h : TwinG w base g T) : ∀ x ∈ T, x.2.2.2.2.length ≤ x.2.2.2.1 := fun x hx => by have := (h.to x hx).1; omega
theorem eqZ_selfM (xs : List Int) : eqZ xs xs = true := by simp [eqZ]
theorem own_rngM {w : World} {base lo hi n c : Nat} {A : Option Addr} {e : TypeId} {xs : List Value} (h : w.ownsRow lo e 1 (.slice A n c) n xs) (hh : w.heap.size ≤ hi) : ∀ g, (Value.slice A n c).ownBlock = some g → lo ≤ g ∧ g < hi := fun g hg => by
  have := h.lt g hg; omega
theorem grd_lenM {need : Nat → Nat → Bool} {deg : Nat} : ∀ (S kept : List Nat), kept.length ≤ deg → (grd need deg kept S).length ≤ deg
  | [], kept, h => h
  | p :: S, kept, h => by
    unfold grd
    split
    · rename_i h1
      split
      · exact grd_lenM S kept h
      · exact grd_lenM S (kept ++ [p]) (by simp; omega)
    · exact h
theorem keepA_lenM (G : List Pn) (s d deg b n m at_ : Int) (P : List Int) : (keepA G s d deg b n m at_ P).length ≤ 32 := by
  unfold keepA
  split
  · rename_i h
    obtain ⟨_, h1, _⟩ := keepB_part h
    unfold checkB setupB at h1
    simp only [Bool.and_eq_true, decide_eq_true_eq] at h1
    have h2 := grd_lenM (need := ndP G n m at_.toNat) (deg := deg.toNat) (srtU (ltP G at_.toNat) (spK P at_.toNat P.length)) [] (Nat.zero_le _)
    rw [List.length_map]
    unfold keepL
    omega
  · exact Nat.zero_le _
set_option maxRecDepth 100000 in
set_option maxHeartbeats 16000000 in
theorem pruneKeeps_main (A : Option Addr) (c : Nat) (L : List Gn) (s d deg bm nm dn at_ : Int) (B : Option Addr) (q : Nat) (P : List Int) (w : World) (hx : GGiven w A L) (hp : Rd .i64 w w.heap.size B P) (hl : P.length ≤ q) (hm : q ≤ 140737488351232) :
    Calls Tryz.prog 3 #[.agg #[.slice A L.length c, .int .i64 s, .int .i64 d, .int .i64 deg, .int .i64 bm, .int .i64 nm, .int .i64 dn, .int .i64 at_], .slice B P.length q] w fun e w' => e = .returned (.bool true) ∧ Below w.heap.size w w' := by
  have HW0 := Lib.hid (Whole.new w 28 #[.slice A L.length c, .int .i64 s, .int .i64 d, .int .i64 deg, .int .i64 bm, .int .i64 nm, .int .i64 dn, .int .i64 at_])
  have HB0 := Lib.hid (below_one (Below.refl w.heap.size w) (.cells #[.slice A L.length c, .int .i64 s, .int .i64 d, .int .i64 deg, .int .i64 bm, .int .i64 nm, .int .i64 dn, .int .i64 at_] 28))
  have HX := Lib.hid hx
  have HP := Lib.hid hp
  clear hx hp
  go_enter Tryz.func3, Tryz.ntmps3
  go_upto_region 1 with fail
  obtain ⟨w1, ew1⟩ : ∃ w1, w.alloc (.cells #[.slice A L.length c, .int .i64 s, .int .i64 d, .int .i64 deg, .int .i64 bm, .int .i64 nm, .int .i64 dn, .int .i64 at_] 28) = w1 := ⟨_, rfl⟩
  rw [ew1] at HW0 HB0 ⊢
  obtain ⟨g, eg⟩ : ∃ g, w.heap.size = g := ⟨_, rfl⟩
  rw [eg] at HW0 ⊢
  have HG := Lib.hid eg
  have y0 := HW0.out.cell 0
  have y1 := HW0.out.cell 1
  clear ew1 eg
  go_wp2_with fail
  refine (great9_any A c L s w1 (HX.out.below HB0.out)).mono ?_
  rintro e w2 ⟨⟨gb, rfl, hgb⟩, b2⟩
  dsimp only
  have HB2 := Lib.hid (HB0.out.trans (b2.mono HB0.out.size))
  clear y0 y1
  cases gb with
  | true =>
    clear hgb
    go_wp2
    go_ret
    exact ⟨rfl, HB2.out⟩
  | false =>
  have HSM := Lib.hid (hgb rfl)
  have Z0 := HW0.out.below b2 HW0.out.lt
  have y0 := Z0.cell 0
  have y1 := Z0.cell 1
  have HZ0 := Lib.hid Z0
  clear hgb b2 Z0 HW0 HB0
  by_cases hPl : P.length ≤ 3000
  case neg =>
    have d1 : (3000 : Int) < (P.length : Int) := by omega
    go_wp2
    go_ret
    exact ⟨rfl, HB2.out⟩
  case pos =>
    have d1 : ¬ (3000 : Int) < (P.length : Int) := by omega
    go_upto_region 4 with (go_at_call 7; refine (twinGraph_any A c L s w2 (HX.out.below HB2.out) HSM.out).mono ?_; rintro e w3 ⟨gt, T, rfl, hgt, hT, hTv, hTl, b3⟩)
    obtain ⟨w4, ew4⟩ : ∃ w4, w3.alloc (.cells #[.slice (some ⟨gt, 0, none⟩) L.length (L.length + 1), .int .i64 s] 24) = w4 := ⟨_, rfl⟩
    obtain ⟨tb, etb⟩ : ∃ tb, w3.heap.size = tb := ⟨_, rfl⟩
    have b4 : Below w2.heap.size w2 w4 := by rw [← ew4]; exact below_one b3 _
    have ZT : Whole w4 tb 24 #[.slice (some ⟨gt, 0, none⟩) L.length (L.length + 1), .int .i64 s] := by rw [← ew4, ← etb]; exact Whole.new w3 _ _
    have hT4 : TwinG w4 w2.heap.size gt T := by rw [← ew4]; exact hT.below (below_one (Below.refl _ _) _)
    have hIG : InG w4 w2.heap.size w2.heap.size w4.heap.size (some ⟨gt, 0, none⟩) (T.length + 1) T := hT4.inG (Nat.le_refl _) (by rw [hTv]; exact fun x h => HSM.out.at_ h)
    have HB4 : Hid (Below w.heap.size w w4) := Lib.hid (HB2.out.trans (b4.mono HB2.out.size))
    have HZT := Lib.hid ZT
    have HT4 := Lib.hid hT4
    have HIG := Lib.hid hIG
    have HTV := Lib.hid hTv
    have HTL := Lib.hid hTl
    have HB24 := Lib.hid b4
    have HCL : Hid (∀ W, Below w4.heap.size w4 W → (W.cell? ⟨g, 0, none⟩ = some (.slice A L.length c) ∧ W.cell? ⟨g, 1, none⟩ = some (.int .i64 s)) ∧ (W.cell? ⟨g, 2, none⟩ = some (.int .i64 d) ∧ W.cell? ⟨g, 3, none⟩ = some (.int .i64 deg) ∧ W.cell? ⟨g, 4, none⟩ = some (.int .i64 bm) ∧ W.cell? ⟨g, 5, none⟩ = some (.int .i64 nm) ∧ W.cell? ⟨g, 6, none⟩ = some (.int .i64 dn)) ∧ W.cell? ⟨g, 7, none⟩ = some (.int .i64 at_) ∧ W.cell? ⟨tb, 0, none⟩ = some (.slice (some ⟨gt, 0, none⟩) L.length (L.length + 1)) ∧ W.cell? ⟨tb, 1, none⟩ = some (.int .i64 s)) := Lib.hid (fun W h => by
      have hW : Below w2.heap.size w2 W := HB24.out.trans (h.mono HB24.out.size)
      have z0 := HZ0.out.below hW HZ0.out.lt
      have z2 := HZT.out.below h HZT.out.lt
      exact ⟨⟨z0.cell 0, z0.cell 1⟩, ⟨z0.cell 2, z0.cell 3, z0.cell 4, z0.cell 5, z0.cell 6⟩, z0.cell 7, z2.cell 0, z2.cell 1⟩)
    have HUP : Hid (∀ W, Below w4.heap.size w4 W → Below w.heap.size w W) := Lib.hid (fun W h => HB4.out.trans (h.mono HB4.out.size))
    have HAR : Hid (GArg w A L) := Lib.hid (HX.out.arg HSM.out)
    have HPR : Hid (∀ W, Below w.heap.size w W → Rd .i64 W W.heap.size B P) := Lib.hid (fun W h => (HP.out.below h).more h.size)
    rw [ew4, etb]
    have hT0 : L.length ≤ 20000 := by have := HSM.out.len; rwa [pns_len] at this
    clear ew4 etb b4 ZT hT4 hTv hTl hT b3 hgt y0 y1 hIG d1
    have c4 : Below w4.heap.size w4 w4 := Below.refl _ _
    obtain ⟨⟨y0, y1⟩, ⟨q0, q1, q2, q3, q4⟩, q5, t0, t1⟩ := HCL.out _ c4
    go_wp2_with fail
    refine (twinInts_any B q P P.length rfl w4 (HPR.out _ HB4.out) (by omega)).mono ?_
    rintro e w5 ⟨rfl, b5, o5⟩
    dsimp only
    have c5 : Below w4.heap.size w4 w5 := b5
    have KP : KTw .i64 3 w5 w4.heap.size (some ⟨w4.heap.size, 0, none⟩, P.length + 1, P) := ⟨rfl, ⟨_, rfl⟩, o5⟩
    have HKP := Lib.hid KP
    have C15 : Hid (∀ W, Below w5.heap.size w5 W → Calls Tryz.prog 9 #[.agg #[.slice (some ⟨gt, 0, none⟩) L.length (L.length + 1), .int .i64 s], .agg #[.int .i64 d, .int .i64 deg, .int .i64 bm, .int .i64 nm, .int .i64 dn], .int .i64 at_, .slice (some ⟨w4.heap.size, 0, none⟩) P.length (P.length + 1)] W (IAns W (keepA (pns L) s d deg bm nm dn at_ P) (errG (keepB (pns L) s d deg bm nm dn at_ P)))) := Lib.hid (fun W h => by
      have hW := HT4.out.below (b5.trans (h.mono b5.size))
      have := keep_any (some ⟨gt, 0, none⟩) (L.length + 1) T s d deg bm nm dn at_ (some ⟨w4.heap.size, 0, none⟩) (P.length + 1) P W (twin_argM hW HTV.out HSM.out HX.out.ok) (twin_roomM hW) (HKP.out.below h).rd0 (by omega)
      rwa [HTL.out, HTV.out] at this)
    have C16 : Hid (∀ W, Below w4.heap.size w4 W → Calls Tryz.prog 10 #[.agg #[.slice A L.length c, .int .i64 s], .agg #[.int .i64 d, .int .i64 deg, .int .i64 bm, .int .i64 nm, .int .i64 dn], .int .i64 at_, .slice B P.length q] W (IAns W (keepA (pns L) s d deg bm nm dn at_ P) (errG (keepB (pns L) s d deg bm nm dn at_ P)))) := Lib.hid (fun W h => rKeep_any A c L s d deg bm nm dn at_ B q P W (HAR.out.below (HUP.out W h)) (HPR.out _ (HUP.out W h)) (by omega))
    have hrl := keepA_lenM (pns L) s d deg bm nm dn at_ P
    obtain ⟨R, eR⟩ : ∃ R, keepA (pns L) s d deg bm nm dn at_ P = R := ⟨_, rfl⟩
    obtain ⟨E, eE⟩ : ∃ E, errG (keepB (pns L) s d deg bm nm dn at_ P) = E := ⟨_, rfl⟩
    rw [eR, eE] at C15 C16
    rw [eR] at hrl
    clear eR eE KP o5 y0 y1 q0 q1 q2 q3 q4 q5 t0 t1
    obtain ⟨⟨y0, y1⟩, ⟨q0, q1, q2, q3, q4⟩, q5, t0, t1⟩ := HCL.out _ c5
    go_wp2_with fail
    refine (C15.out _ (Below.refl _ _)).mono ?_
    rintro e w6 ⟨V6, m6, rfl, o6, b6⟩
    dsimp only
    have c6 : Below w4.heap.size w4 w6 := c5.trans (b6.mono c5.size)
    clear y0 y1 q0 q1 q2 q3 q4 q5 t0 t1
    obtain ⟨⟨y0, y1⟩, ⟨q0, q1, q2, q3, q4⟩, q5, t0, t1⟩ := HCL.out _ c6
    go_wp2_with fail
    refine (C15.out _ b6).mono ?_
    rintro e w7 ⟨V7, m7, rfl, o7, b7⟩
    dsimp only
    have c7 : Below w4.heap.size w4 w7 := c6.trans (b7.mono c6.size)
    clear y0 y1 q0 q1 q2 q3 q4 q5 t0 t1
    obtain ⟨⟨y0, y1⟩, ⟨q0, q1, q2, q3, q4⟩, q5, t0, t1⟩ := HCL.out _ c7
    go_wp2_with fail
    refine (C16.out _ c7).mono ?_
    rintro e w8 ⟨V8, m8, rfl, o8, b8⟩
    dsimp only
    have c8 : Below w4.heap.size w4 w8 := c7.trans (b8.mono c7.size)
    clear y0 y1 q0 q1 q2 q3 q4 q5 t0 t1
    obtain ⟨⟨y0, y1⟩, ⟨q0, q1, q2, q3, q4⟩, q5, t0, t1⟩ := HCL.out _ c8
    have S6 : Hid (w8.ownsRow w5.heap.size 3 1 (.slice V6 R.length m6) R.length (R.map (Value.int .i64))) := Lib.hid (own_below (own_below o6 b7) b8)
    have S7 : Hid (w8.ownsRow w6.heap.size 3 1 (.slice V7 R.length m7) R.length (R.map (Value.int .i64))) := Lib.hid (own_below o7 b8)
    have S8 := Lib.hid o8
    have R6 := Lib.hid (own_rngM (base := 0) o6 (Nat.le_refl _))
    have R7 := Lib.hid (own_rngM (base := 0) o7 (Nat.le_refl _))
    have HK8 := Lib.hid (HKP.out.below (b6.trans ((b7.trans (b8.mono b7.size)).mono b6.size)))
    have z24 := HB24.out.size
    have z45 := b5.size
    have z56 := b6.size
    have z67 := b7.size
    have z78 := b8.size
    have HE1 := Lib.hid (eqZ_selfM R)
    clear o6 o7 o8 b5 b6 b7 b8 c5 c6 c7 C15 C16
    go_wp2_with fail
    refine (sameZ_any V6 V8 m6 m8 R R w8 w8.heap.size (own_rdK S6.out) (own_rdK S8.out) (by omega) (by omega)).mono ?_
    rintro e w' ⟨rfl, n1, rfl⟩
    rw [HE1.out]
    dsimp only
    go_wp2_with fail
    have d9 : Below w8.heap.size w8 (w8.drewN n1) := below_drewN (Below.refl _ _) n1
    refine (sameZ_any V7 V8 m7 m8 R R (w8.drewN n1) w8.heap.size ((own_rdK S7.out).below d9) ((own_rdK S8.out).below d9) (by omega) (by omega)).mono ?_
    rintro e w' ⟨rfl, n2, rfl⟩
    rw [HE1.out]
    dsimp only
    obtain ⟨wB, ewB⟩ : ∃ wB, (w8.drewN n1).drewN n2 = wB := ⟨_, rfl⟩
    have dB : Below w8.heap.size w8 wB := by rw [← ewB]; exact below_drewN d9 n2
    rw [ewB]
    have cB : Below w4.heap.size w4 wB := c8.trans (dB.mono c8.size)
    clear y0 y1 q0 q1 q2 q3 q4 q5 t0 t1 ewB d9
    obtain ⟨⟨y0, y1⟩, ⟨q0, q1, q2, q3, q4⟩, q5, t0, t1⟩ := HCL.out _ cB
    go_wp2_with fail
    refine (leftGraph_any gt w2.heap.size T A c L s _ rfl wB (HT4.out.below cB) HTV.out HTL.out (HX.out.below (HUP.out wB cB)) HSM.out).mono ?_
    rintro e wC ⟨rfl, bC⟩
    dsimp only
    have cC : Below w4.heap.size w4 wC := cB.trans (bC.mono cB.size)
    have dC : Below w8.heap.size w8 wC := dB.trans (bC.mono dB.size)
    clear y0 y1 q0 q1 q2 q3 q4 q5 t0 t1
    obtain ⟨⟨y0, y1⟩, ⟨q0, q1, q2, q3, q4⟩, q5, t0, t1⟩ := HCL.out _ cC
    go_wp2_with fail
    refine (leftInts_any (some ⟨w4.heap.size, 0, none⟩) B (P.length + 1) q P P.length rfl wC wC.heap.size (HPR.out _ (HUP.out _ cC)) (HK8.out.below dC).rd hl (Nat.lt_succ_self _) (by omega) (by omega)).mono ?_
    rintro e wF ⟨rfl, nq, rfl⟩
    dsimp only
    have bF : Below wC.heap.size wC (wC.drewN nq) := below_drewN (Below.refl _ _) nq
    obtain ⟨wF, ewF⟩ : ∃ wF, wC.drewN nq = wF := ⟨_, rfl⟩
    rw [ewF] at bF ⊢
    have cF : Below w4.heap.size w4 wF := cC.trans (bF.mono cC.size)
    have dF : Below w8.heap.size w8 wF := dC.trans (bF.mono dC.size)
    clear y0 y1 q0 q1 q2 q3 q4 q5 t0 t1 ewF
    have HBN := Lib.hid (btg_new wF w2.heap.size w2.heap.size)
    have bN : Below wF.heap.size wF (wF.alloc newBkG) := below_one (Below.refl _ _) _
    have eN : wF.alloc newBkG = wF.alloc (.cells #[.int .i64 0, .slice none 0 0, .slice none 0 0, .slice none 0 0, .slice none 0 0, .slice none 0 0, .slice none 0 0, .slice none 0 0, .slice none 0 0, .slice none 0 0, .slice none 0 0, .slice none 0 0, .slice none 0 0] 51) := rfl
    have HEN := Lib.hid eN
    have cN : Below w4.heap.size w4 (wF.alloc newBkG) := cF.trans (bN.mono cF.size)
    have dN : Below w8.heap.size w8 (wF.alloc newBkG) := dF.trans (bN.mono dF.size)
    have yN := HCL.out _ cN
    rw [eN] at yN
    obtain ⟨⟨y0, y1⟩, ⟨q0, q1, q2, q3, q4⟩, q5, t0, t1⟩ := yN
    clear eN
    go_upto_region 11 with fail
    rw [← HEN.out]
    obtain ⟨wD, ewD⟩ : ∃ wD, wF.alloc newBkG = wD := ⟨_, rfl⟩
    obtain ⟨bk, ebk⟩ : ∃ bk, wF.heap.size = bk := ⟨_, rfl⟩
    rw [ewD, ebk] at HBN
    rw [ewD] at cN dN
    rw [← HEN.out, ewD] at y0 y1 q0 q1 q2 q3 q4 q5 t0 t1
    rw [ewD, ebk]
    have hbk : w2.heap.size ≤ bk := by rw [← ebk]; have := dF.size; omega
    have hzD : w8.heap.size ≤ wD.heap.size := dN.size
    have I1 := Lib.hid (HIG.out.below cN)
    have O5 := Lib.hid (own_base (HK8.out.below dN).own z24)
    have R5 : Hid (∀ gg, (Value.slice (some ⟨w4.heap.size, 0, none⟩) P.length (P.length + 1)).ownBlock = some gg → w4.heap.size ≤ gg ∧ gg < w5.heap.size) := Lib.hid (own_rngM (base := 0) HKP.out.own (Nat.le_refl _))
    have O6 := Lib.hid (own_below S6.out dN)
    have O7 := Lib.hid (own_below S7.out dN)
    have HUD := Lib.hid (HUP.out _ cN)
    have hw2 := HB2.out.size
    clear ewD ebk bN dC cC bC dB cB HEN HCL HZ0 HZT cN dN c8 dF cF bF
    go_wp2_with fail
    have C25 := btg_graph (S := s) HBN.out I1.out (hi := w4.heap.size) z24 (by omega) hbk (by rw [HTL.out]; exact hT0) (by omega)
    rw [HTL.out] at C25
    refine C25.mono ?_
    rintro e wE ⟨rfl, HB1, K1⟩
    clear C25
    have P5 := Lib.hid (K1.ri O5.out)
    have P6 := K1.ri O6.out
    have P7 := K1.ri O7.out
    have zE := K1.below.size
    dsimp only
    clear y0 y1 q0 q1 q2 q3 q4 q5 t0 t1
    go_wp2_with fail
    refine (btg_ints (hi := w5.heap.size) HB1 P5.out R5.out z45 (by omega) hbk (by omega) (by omega)).mono ?_
    rintro e wG ⟨rfl, HB2', K2⟩
    have Q6 := Lib.hid (own_base (K2.ri P6) (Nat.le_trans z24 z45))
    have Q7 := K2.ri P7
    have zG := K2.below.size
    dsimp only
    go_wp2_with fail
    refine (btg_ints (hi := w6.heap.size) HB2' Q6.out R6.out z56 (by omega) hbk (by omega) (by omega)).mono ?_
    rintro e wH ⟨rfl, HB3', K3⟩
    have T7 := Lib.hid (own_base (K3.ri Q7) (Nat.le_trans (Nat.le_trans z24 z45) z56))
    have zH := K3.below.size
    dsimp only
    go_wp2_with fail
    refine (btg_ints (hi := w7.heap.size) HB3' T7.out R7.out z67 (by omega) hbk (by omega) (by omega)).mono ?_
    rintro e wI ⟨rfl, HB4', K4⟩
    have zI := K4.below.size
    dsimp only
    go_wp2_with fail
    refine (btg_apart HB4' (by omega)).mono ?_
    rintro e wJ ⟨rfl, bJ⟩
    dsimp only
    go_wp2
    go_ret
    exact ⟨rfl, HUD.out.trans ((K1.below.trans (K2.below.trans (K3.below.trans (K4.below.trans bJ)))).mono hw2)⟩
end Go.Proofs.YtfokejlancmahaaGreat
