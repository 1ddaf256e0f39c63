/- The walk of GraphReaches. -/
import Derived.Test.YtjihnkoimbcfnaaTa
import Derived.Test.YtjihnkoimbcfnaaLe
import Derived.Test.YtjihnkoimbcfnaaKq
import Derived.Test.YtjihnkoimbcfnaaKr
namespace Go.Proofs.Ytjihnkoimbcfnaa
open Go.RowKit
set_option linter.unusedVariables false
theorem reachedA_len (G : List Pn) (s : Int) : (reachedA G s).length ≤ G.length := by
  rw [reachedA_K]
  exact Nat.le_trans (reachK_len _ _ _) (hopsA_le _ _)
theorem eqZ_self (xs : List Int) : eqZ xs xs = true := by simp [eqZ]
/-- An answer that is a list of numbers, in a range. -/
theorem own_rng {w : World} {base lo hi n c : Nat} {A : Option Addr} {e : TypeId} {xs : List Value} (h : w.ownsRow lo e 1 (.slice A n c) n xs) (hh : w.heap.size ≤ hi) : ∀ g, (Value.slice A n c).ownBlock = some g → lo ≤ g ∧ g < hi := fun g hg => by
  have := h.lt g hg; omega
set_option maxRecDepth 100000 in
set_option maxHeartbeats 8000000 in
theorem graphReaches_main (A : Option Addr) (c : Nat) (L : List Gn) (s : Int) (w : World) (hx : GGiven w A L) :
    Calls Try.prog 4 #[.agg #[.slice A L.length c, .int .i64 s]] w fun e w' => e = .returned (.bool true) ∧ Below w.heap.size w w' := by
  have HW0 := Lib.hid (Whole.new w 24 #[.slice A L.length c, .int .i64 s])
  have HB0 := Lib.hid (below_one (Below.refl w.heap.size w) (.cells #[.slice A L.length c, .int .i64 s] 24))
  have HX := Lib.hid hx
  have zc0 := HW0.out.cell 0
  have zc1 := HW0.out.cell 1
  clear hx
  go_enter Try.func4, Try.ntmps4
  go_wp2_with fail
  obtain ⟨w1, ew1⟩ : ∃ w1, w.alloc (.cells #[.slice A L.length c, .int .i64 s] 24) = w1 := ⟨_, rfl⟩
  rw [ew1] at HW0 HB0 ⊢
  obtain ⟨g, eg⟩ : ∃ g, w.heap.size = g := ⟨_, rfl⟩
  rw [eg] at HW0 ⊢
  have HG := Lib.hid eg
  clear ew1 eg zc0 zc1
  refine (great9_any A c L s w1 (HX.out.below HB0.out)).mono ?_
  rintro e w2 ⟨⟨gb, rfl, hgb⟩, b2⟩
  dsimp only
  have HB2 := Lib.hid (HB0.out.trans (b2.mono HB0.out.size))
  cases gb with
  | true =>
    clear hgb
    go_wp2
    go_ret
    exact ⟨rfl, HB2.out⟩
  | false =>
    have HSM := Lib.hid (hgb rfl)
    have Z0 := HW0.out.below b2 HW0.out.lt
    have zc0 := Z0.cell 0
    have zc1 := Z0.cell 1
    have HZ0 := Lib.hid Z0
    clear hgb b2 Z0 HW0 HB0
    go_upto_region 4 with (go_at_call 12; refine (twinGraph_any A c L s w2 (HX.out.below HB2.out) HSM.out).mono ?_; rintro e w3 ⟨gt, T, rfl, hgt, hT, hTv, hTl, b3⟩)
    obtain ⟨w4, ew4⟩ : ∃ w4, w3.alloc (.cells #[.slice (some ⟨gt, 0, none⟩) L.length (L.length + 1), .int .i64 s] 24) = w4 := ⟨_, rfl⟩
    obtain ⟨tb, etb⟩ : ∃ tb, w3.heap.size = tb := ⟨_, rfl⟩
    have b4 : Below w2.heap.size w2 w4 := by rw [← ew4]; exact below_one b3 _
    have ZT : Whole w4 tb 24 #[.slice (some ⟨gt, 0, none⟩) L.length (L.length + 1), .int .i64 s] := by rw [← ew4, ← etb]; exact Whole.new w3 _ _
    have hT4 : TwinG w4 w2.heap.size gt T := by rw [← ew4]; exact hT.below (below_one (Below.refl _ _) _)
    have hIG : InG w4 w2.heap.size w2.heap.size w4.heap.size (some ⟨gt, 0, none⟩) (T.length + 1) T := hT4.inG (Nat.le_refl _) (by rw [hTv]; exact fun x h => HSM.out.at_ h)
    have HB4 : Hid (Below w.heap.size w w4) := Lib.hid (HB2.out.trans (b4.mono HB2.out.size))
    have HZT := Lib.hid ZT
    have HT4 := Lib.hid hT4
    have HIG := Lib.hid hIG
    have HTV := Lib.hid hTv
    have HTL := Lib.hid hTl
    have HB24 := Lib.hid b4
    have HCL : Hid (∀ W, Below w4.heap.size w4 W → W.cell? ⟨g, 0, none⟩ = some (.slice A L.length c) ∧ W.cell? ⟨g, 1, none⟩ = some (.int .i64 s) ∧ W.cell? ⟨tb, 0, none⟩ = some (.slice (some ⟨gt, 0, none⟩) L.length (L.length + 1)) ∧ W.cell? ⟨tb, 1, none⟩ = some (.int .i64 s)) := Lib.hid (fun W h => by
      have hW : Below w2.heap.size w2 W := HB24.out.trans (h.mono HB24.out.size)
      have z0 := HZ0.out.below hW HZ0.out.lt
      have z2 := HZT.out.below h HZT.out.lt
      exact ⟨z0.cell 0, z0.cell 1, z2.cell 0, z2.cell 1⟩)
    have HUP : Hid (∀ W, Below w4.heap.size w4 W → Below w.heap.size w W) := Lib.hid (fun W h => HB4.out.trans (h.mono HB4.out.size))
    have HAR : Hid (GArg w A L) := Lib.hid (HX.out.arg HSM.out)
    have C20 : Hid (∀ W, Below w4.heap.size w4 W → Calls Try.prog 20 #[.agg #[.slice (some ⟨gt, 0, none⟩) L.length (L.length + 1), .int .i64 s]] W (IAns W (reachedA (pns L) s) (errG (holdsB (pns L) s)))) := Lib.hid (fun W h => by
      have := reached_any (some ⟨gt, 0, none⟩) (L.length + 1) T s W (twin_arg9 (HT4.out.below h) HTV.out HSM.out HX.out.ok)
      rwa [HTL.out, HTV.out] at this)
    have C21 : Hid (∀ W, Below w4.heap.size w4 W → Calls Try.prog 21 #[.agg #[.slice (some ⟨gt, 0, none⟩) L.length (L.length + 1), .int .i64 s]] W (IAns W (hopsA (pns L) s) (errG (holdsB (pns L) s)))) := Lib.hid (fun W h => by
      have := hops_any (some ⟨gt, 0, none⟩) (L.length + 1) T s W (twin_arg9 (HT4.out.below h) HTV.out HSM.out HX.out.ok)
      rwa [HTL.out, HTV.out] at this)
    have C22 := Lib.hid (fun W (h : Below w4.heap.size w4 W) => rReached_any A c L s W (HAR.out.below (HUP.out W h)))
    have C23 := Lib.hid (fun W (h : Below w4.heap.size w4 W) => rHops_any A c L s W (HAR.out.below (HUP.out W h)))
    have C19 := Lib.hid (fun W (h : Below w4.heap.size w4 W) => leftGraph_any gt w2.heap.size T A c L s _ rfl W (HT4.out.below h) HTV.out HTL.out (HX.out.below (HUP.out W h)) HSM.out)
    have hrl : (reachedA (pns L) s).length ≤ 20000 := by have := reachedA_len (pns L) s; have := HSM.out.len; omega
    have hhl : (hopsA (pns L) s).length ≤ 20000 := by have := hopsA_le (pns L) s; have := HSM.out.len; omega
    obtain ⟨R, eR⟩ : ∃ R, reachedA (pns L) s = R := ⟨_, rfl⟩
    obtain ⟨H, eH⟩ : ∃ H, hopsA (pns L) s = H := ⟨_, rfl⟩
    obtain ⟨E, eE⟩ : ∃ E, errG (holdsB (pns L) s) = E := ⟨_, rfl⟩
    rw [eR, eE] at C20 C22
    rw [eH, eE] at C21 C23
    rw [eR] at hrl
    rw [eH] at hhl
    rw [ew4, etb]
    have hT0 : L.length ≤ 20000 := by have := HSM.out.len; rwa [pns_len] at this
    clear eR eH eE ew4 etb b4 ZT hT4 hTv hTl hT b3 hgt zc0 zc1 hIG
    have c4 : Below w4.heap.size w4 w4 := Below.refl _ _
    obtain ⟨y0, y1, y2, y3⟩ := HCL.out _ c4
    go_wp2_with fail
    refine (C20.out _ c4).mono ?_
    rintro e w5 ⟨V5, m5, rfl, o5, b5⟩
    dsimp only
    have c5 : Below w4.heap.size w4 w5 := c4.trans b5
    clear y0 y1 y2 y3
    obtain ⟨y0, y1, y2, y3⟩ := HCL.out _ c5
    go_wp2_with fail
    refine (C21.out _ c5).mono ?_
    rintro e w6 ⟨V6, m6, rfl, o6, b6⟩
    dsimp only
    have c6 : Below w4.heap.size w4 w6 := c5.trans (b6.mono c5.size)
    clear y0 y1 y2 y3
    obtain ⟨y0, y1, y2, y3⟩ := HCL.out _ c6
    go_wp2_with fail
    refine (C21.out _ c6).mono ?_
    rintro e w7 ⟨V7, m7, rfl, o7, b7⟩
    dsimp only
    have c7 : Below w4.heap.size w4 w7 := c6.trans (b7.mono c6.size)
    clear y0 y1 y2 y3
    obtain ⟨y0, y1, y2, y3⟩ := HCL.out _ c7
    go_wp2_with fail
    refine (C22.out _ c7).mono ?_
    rintro e w8 ⟨V8, m8, rfl, o8, b8⟩
    dsimp only
    have c8 : Below w4.heap.size w4 w8 := c7.trans (b8.mono c7.size)
    clear y0 y1 y2 y3
    obtain ⟨y0, y1, y2, y3⟩ := HCL.out _ c8
    go_wp2_with fail
    refine (C23.out _ c8).mono ?_
    rintro e w9 ⟨V9, m9, rfl, o9, b9⟩
    dsimp only
    have c9 : Below w4.heap.size w4 w9 := c8.trans (b9.mono c8.size)
    clear y0 y1 y2 y3
    obtain ⟨y0, y1, y2, y3⟩ := HCL.out _ c9
    have S5 : Hid (w9.ownsRow w4.heap.size 3 1 (.slice V5 R.length m5) R.length (R.map (Value.int .i64))) := Lib.hid (own_below (own_below (own_below (own_below o5 b6) b7) b8) b9)
    have S6 : Hid (w9.ownsRow w5.heap.size 3 1 (.slice V6 H.length m6) H.length (H.map (Value.int .i64))) := Lib.hid (own_below (own_below (own_below o6 b7) b8) b9)
    have S7 : Hid (w9.ownsRow w6.heap.size 3 1 (.slice V7 H.length m7) H.length (H.map (Value.int .i64))) := Lib.hid (own_below (own_below o7 b8) b9)
    have S8 : Hid (w9.ownsRow w7.heap.size 3 1 (.slice V8 R.length m8) R.length (R.map (Value.int .i64))) := Lib.hid (own_below o8 b9)
    have S9 := Lib.hid o9
    have R5 := Lib.hid (own_rng (base := 0) o5 (Nat.le_refl _))
    have R6 := Lib.hid (own_rng (base := 0) o6 (Nat.le_refl _))
    have R7 := Lib.hid (own_rng (base := 0) o7 (Nat.le_refl _))
    have z24 := HB24.out.size
    have z45 := b5.size
    have z56 := b6.size
    have z67 := b7.size
    have z79 : w7.heap.size ≤ w9.heap.size := Nat.le_trans b8.size b9.size
    have HE1 := Lib.hid (eqZ_self R)
    have HE2 := Lib.hid (eqZ_self H)
    clear o5 o6 o7 o8 o9 b5 b6 b7 b8 b9 c4 c5 c6 c7 c8 C20 C21 C22 C23
    go_wp2_with fail
    refine (sameZ_any V5 V8 m5 m8 R R w9 w9.heap.size (own_rdK S5.out) (own_rdK S8.out) (by omega) (by omega)).mono ?_
    rintro e w' ⟨rfl, n1, rfl⟩
    rw [HE1.out]
    dsimp only
    go_wp2_with fail
    have d9 : Below w9.heap.size w9 (w9.drewN n1) := below_drewN (Below.refl _ _) n1
    refine (sameZ_any V6 V9 m6 m9 H H (w9.drewN n1) w9.heap.size ((own_rdK S6.out).below d9) ((own_rdK S9.out).below d9) (by omega) (by omega)).mono ?_
    rintro e w' ⟨rfl, n2, rfl⟩
    rw [HE2.out]
    dsimp only
    obtain ⟨wB, ewB⟩ : ∃ wB, (w9.drewN n1).drewN n2 = wB := ⟨_, rfl⟩
    have dB : Below w9.heap.size w9 wB := by rw [← ewB]; exact below_drewN d9 n2
    rw [ewB]
    have cB : Below w4.heap.size w4 wB := c9.trans (dB.mono c9.size)
    clear y0 y1 y2 y3 ewB d9
    obtain ⟨y0, y1, y2, y3⟩ := HCL.out _ cB
    go_wp2_with fail
    refine (C19.out _ cB).mono ?_
    rintro e wC ⟨rfl, bC⟩
    dsimp only
    have cC : Below w4.heap.size w4 wC := cB.trans (bC.mono cB.size)
    have dC : Below w9.heap.size w9 wC := dB.trans (bC.mono dB.size)
    clear y0 y1 y2 y3 C19
    have HBN := Lib.hid (btg_new wC w2.heap.size w2.heap.size)
    have bN : Below wC.heap.size wC (wC.alloc newBkG) := below_one (Below.refl _ _) _
    have eN : wC.alloc newBkG = wC.alloc (.cells #[.int .i64 0, .slice none 0 0, .slice none 0 0, .slice none 0 0, .slice none 0 0, .slice none 0 0, .slice none 0 0, .slice none 0 0, .slice none 0 0, .slice none 0 0, .slice none 0 0, .slice none 0 0, .slice none 0 0] 53) := rfl
    have HEN := Lib.hid eN
    have cN : Below w4.heap.size w4 (wC.alloc newBkG) := cC.trans (bN.mono cC.size)
    have dN : Below w9.heap.size w9 (wC.alloc newBkG) := dC.trans (bN.mono dC.size)
    have yN := HCL.out _ cN
    rw [eN] at yN
    obtain ⟨y0, y1, y2, y3⟩ := yN
    clear eN
    go_upto_region 12 with fail
    rw [← HEN.out]
    obtain ⟨wD, ewD⟩ : ∃ wD, wC.alloc newBkG = wD := ⟨_, rfl⟩
    obtain ⟨bk, ebk⟩ : ∃ bk, wC.heap.size = bk := ⟨_, rfl⟩
    rw [ewD, ebk] at HBN
    rw [ewD] at cN dN
    rw [← HEN.out, ewD] at y0 y1 y2 y3
    rw [ewD, ebk]
    have hbk : w2.heap.size ≤ bk := by rw [← ebk]; have := dC.size; omega
    have hzD : w9.heap.size ≤ wD.heap.size := dN.size
    have I1 := Lib.hid (HIG.out.below cN)
    have O5 := Lib.hid (own_below S5.out dN)
    have O6 := Lib.hid (own_below S6.out dN)
    have O7 := Lib.hid (own_below S7.out dN)
    have HUD := Lib.hid (HUP.out _ cN)
    have hw2 := HB2.out.size
    clear ewD ebk bN dC cC bC dB cB HEN HCL HZ0 HZT cN dN c9
    go_wp2_with fail
    have C25 := btg_graph (S := s) HBN.out I1.out (hi := w4.heap.size) z24 (by omega) hbk (by rw [HTL.out]; exact hT0) (by omega)
    rw [HTL.out] at C25
    refine C25.mono ?_
    rintro e wE ⟨rfl, HB1, K1⟩
    clear C25
    have P5 := Lib.hid (own_base (K1.ri O5.out) z24)
    have P6 := K1.ri O6.out
    have P7 := K1.ri O7.out
    have zE := K1.below.size
    dsimp only
    clear y0 y1 y2 y3
    go_wp2_with fail
    refine (btg_ints (hi := w5.heap.size) HB1 P5.out R5.out z45 (by omega) hbk (by omega) (by omega)).mono ?_
    rintro e wF ⟨rfl, HB2', K2⟩
    have Q6 := Lib.hid (own_base (K2.ri P6) (Nat.le_trans z24 z45))
    have Q7 := K2.ri P7
    have zF := K2.below.size
    dsimp only
    go_wp2_with fail
    refine (btg_ints (hi := w6.heap.size) HB2' Q6.out R6.out z56 (by omega) hbk (by omega) (by omega)).mono ?_
    rintro e wG ⟨rfl, HB3', K3⟩
    have T7 := Lib.hid (own_base (K3.ri Q7) (Nat.le_trans (Nat.le_trans z24 z45) z56))
    have zG := K3.below.size
    dsimp only
    go_wp2_with fail
    refine (btg_ints (hi := w7.heap.size) HB3' T7.out R7.out z67 (by omega) hbk (by omega) (by omega)).mono ?_
    rintro e wH ⟨rfl, HB4', K4⟩
    have zH := K4.below.size
    dsimp only
    go_wp2_with fail
    refine (btg_apart HB4' (by omega)).mono ?_
    rintro e wI ⟨rfl, bI⟩
    dsimp only
    go_wp2
    go_ret
    exact ⟨rfl, HUD.out.trans ((K1.below.trans (K2.below.trans (K3.below.trans (K4.below.trans bI)))).mono hw2)⟩
end Go.Proofs.Ytjihnkoimbcfnaa
