/- The walk of SearchOwn. -/
import Derived.Test.YtfokejlancmahaaFo
import Derived.Test.YtfokejlancmahaaFp
import Derived.Test.YtfokejlancmahaaFq
import Derived.Test.YtfokejlancmahaaFr
import Derived.Deep.QuietTactic
import Derived.BigQuiet
namespace Go.Proofs.Ytfokejlancmahaa
open Go.Shelf Go.RowKit Go.Lib
open Go.Sort hiding Below
set_option linter.unusedVariables false
set_option linter.unusedSimpArgs false
set_option maxRecDepth 100000 in
set_option maxHeartbeats 8000000 in
theorem searchOwn_main (A : Option Addr) (c : Nat) (L : List Gn) (s : Int) (pN : Nat) (w : World) (hx : GGiven w A L) (hpN : pN ≤ 65535) :
    Calls Try.prog 8 #[.agg #[.slice A L.length c, .int .i64 s], .int .u16 (pN : Int)] w fun e w' => e = .returned (.bool true) ∧ Below w.heap.size w w' := by
  have HX := Lib.hid hx
  have B0 : Below w.heap.size w (w.alloc (.cells #[.slice A L.length c, .int .i64 s] 28)) := below_one (Below.refl _ _) _
  have HW0 := Lib.hid (Whole.new w 28 #[.slice A L.length c, .int .i64 s])
  have HB0 := Lib.hid B0
  clear hx B0
  go_enter Try.func8, Try.ntmps8
  go_upto_region 1 with fail
  obtain ⟨w0, ew0⟩ : ∃ w0, w.alloc (.cells #[.slice A L.length c, .int .i64 s] 28) = w0 := ⟨_, rfl⟩
  obtain ⟨g0, eg0⟩ : ∃ g0, w.heap.size = g0 := ⟨_, rfl⟩
  rw [ew0] at HW0 HB0 ⊢
  have HGG := Lib.hid eg0
  rw [eg0] at HW0 
  rw [show (Value.pointer (some ⟨w.heap.size, 0, none⟩) : Value) = .pointer (some ⟨g0, 0, none⟩) by rw [eg0]]
  clear ew0 eg0
  have KC : Hid (∀ W, Below w0.heap.size w0 W → (W.cell? ⟨g0, 0, none⟩ = some (.slice A L.length c) ∧ W.cell? ⟨g0, 1, none⟩ = some (.int .i64 s))) := Lib.hid (fun W h => by
    have z := HW0.out.below h HW0.out.lt
    exact ⟨z.cell 0, z.cell 1⟩)
  have HUP : Hid (∀ W, Below w0.heap.size w0 W → Below w.heap.size w W) := Lib.hid (fun W h => HB0.out.trans (h.mono HB0.out.size))
  go_wp2_with fail
  refine (aliveS_any w0).mono ?_
  rintro e w1 ⟨rfl, b1⟩
  dsimp only
  have HB1 := Lib.hid b1
  clear b1
  obtain ⟨y0, y1⟩ := KC.out _ HB1.out
  go_wp2_with fail
  refine (greatS_any A c L s w1 (HX.out.below (HUP.out _ HB1.out))).mono ?_
  rintro e w2 ⟨⟨gb, rfl, hgb⟩, b2⟩
  dsimp only
  have HB2 : Hid (Below w0.heap.size w0 w2) := Lib.hid (HB1.out.trans (b2.mono HB1.out.size))
  have HGB := Lib.hid hgb
  clear y0 y1 b2 hgb
  obtain ⟨y0, y1⟩ := KC.out _ HB2.out
  cases gb with
  | true =>
    clear HGB
    go_wp2_with fail
    refine (aliveS_any _).mono ?_
    rintro e wz ⟨rfl, bz⟩
    dsimp only
    go_wp2
    go_ret
    exact ⟨rfl, HUP.out _ (HB2.out.trans (bz.mono HB2.out.size))⟩
  | false =>
  have HSM := Lib.hid (HGB.out rfl)
  clear HGB
  have HPL := Lib.hid (pns_len L)
  have HAR : Hid (∀ W, Below w0.heap.size w0 W → GArg W A L) := Lib.hid (fun W h => (HX.out.below (HUP.out _ h)).arg HSM.out.1)
  have hL : L.length ≤ 150 := HSM.out.2
  by_cases h0 : L.length = 0
  · have e0 : ((L.length : Int) == 0) = true := by simp [h0]
    clear h0
    go_wp2_with fail
    refine (aliveS_any _).mono ?_
    rintro e wz ⟨rfl, bz⟩
    dsimp only
    go_wp2
    go_ret
    exact ⟨rfl, HUP.out _ (HB2.out.trans (bz.mono HB2.out.size))⟩
  have e0 : ((L.length : Int) == 0) = false := by rw [beq_eq_false_iff_ne]; omega
  have e3 := rem_intS pN L.length
  obtain ⟨kN, ek⟩ : ∃ kN, pN % L.length = kN := ⟨_, rfl⟩
  have hk : kN < L.length := by rw [← ek]; exact Nat.mod_lt _ (by omega)
  rw [ek] at e3
  have e5 := IntWalk.wrap64_in (pN : Int) (by omega)
  have e3w : (RowKit.wrap64 (pN : Int)).tmod (L.length : Int) = (kN : Int) := by rw [show RowKit.wrap64 (pN : Int) = (pN : Int) from e5]; exact e3
  have hkg : kN < (pns L).length := by rw [HPL.out]; exact hk
  have e4 : ¬ (L.length : Int) = 0 := by omega
  obtain ⟨bb, off, id, a1, c1, v, a2, c2, o, rfl, hBg, m1, m2, m3, hr1, hr2, hvv⟩ := HX.out.rd.at_ hk
  have hna : nAt (pns L) kN = (id, v, o) := nAt_get (pns_at hvv.out)
  have hmem : (id, v, o) ∈ pns L := by rw [← hna]; exact nAt_mem hkg
  have hGA := HAR.out _ HB2.out
  have hb8 := (hGA.ok _ hmem).2.1
  have HBV : Hid (∀ n ∈ v, -128 ≤ n ∧ n ≤ 127) := Lib.hid hb8
  have HOKG : Hid (∀ x ∈ pns L, PnOk x) := Lib.hid hGA.ok
  have hHI : hitP (pns L) v kN = (id, 0) := by unfold hitP; rw [hna]; show (id, far v v) = _; rw [far_selfS]
  have HHI := Lib.hid hHI
  have HR : Hid (∀ W, Below w0.heap.size w0 W → W.cell? ⟨bb, off + kN * 3, none⟩ = some (.int .u64 id) ∧ W.cell? ⟨bb, off + kN * 3 + 1, none⟩ = some (.slice a1 v.length c1) ∧ W.cell? ⟨bb, off + kN * 3 + 2, none⟩ = some (.slice a2 o.length c2)) := Lib.hid (fun W h => by
    have hW := HUP.out W h
    exact ⟨(hW.cell (p := ⟨bb, off + kN * 3, none⟩) hBg).trans m1, (hW.cell (p := ⟨bb, off + kN * 3 + 1, none⟩) hBg).trans m2, (hW.cell (p := ⟨bb, off + kN * 3 + 2, none⟩) hBg).trans m3⟩)
  have HVR : Hid (∀ W, Below w0.heap.size w0 W → Rd .i8 W W.heap.size a1 v) := Lib.hid (fun W h => (hr1.below (HUP.out _ h)).more (HUP.out _ h).size)
  have x1 : (0 : Int) ≤ (kN : Int) := by omega
  have x2 : (kN : Int) < (L.length : Int) := by omega
  obtain ⟨r0, r1, r2⟩ := HR.out _ HB2.out
  have HKG := Lib.hid hkg
  have HK2 := Lib.hid hk
  have HV16 := Lib.hid hpN
  clear h0 ek hk hkg hna hmem hGA hb8 hHI m1 m2 m3 hr1 hr2 hvv hBg hpN
  go_wp2_with fail
  refine (exact_any (some ⟨bb, off, none⟩) c L s a1 c1 v ((256 : Nat) : Int) w2 (HAR.out _ HB2.out) (HVR.out _ HB2.out) HBV.out).mono ?_
  rintro e w4 ⟨Va, ca, rfl, ra, b4, hVa⟩
  dsimp only
  have HB4 : Hid (Below w0.heap.size w0 w4) := Lib.hid (HB2.out.trans (b4.mono HB2.out.size))
  have HRA := Lib.hid ra
  clear y0 y1 ra b4 r0 r1 r2
  obtain ⟨y0, y1⟩ := KC.out _ HB4.out
  cases hM : mayS (pns L) s v with
  | false =>
    obtain ⟨ea, eb⟩ := exact_not (k := ((256 : Nat) : Int)) hM
    rw [ea, eb]
    clear HRA hVa ea eb hM
    go_wp2
    go_ret
    exact ⟨rfl, HUP.out _ HB4.out⟩
  | true =>
  obtain ⟨ea, eb⟩ := exact_all (k := 256) hM (by omega) (by omega)
  rw [ea, eb, show errG true = 0 from rfl]
  rw [eb] at hVa
  rw [ea] at HRA
  obtain ⟨ga, rfl⟩ := hVa rfl
  have HMS := Lib.hid (mayS_yes hM)
  have HMK := Lib.hid (may_start HMS.out (t := (kN : Int)) (by omega) (by have := HKG.out; omega))
  rw [show srt (hlP (pns L) v (List.range (pns L).length)) = allH (pns L) v from rfl] at HRA ⊢
  have HLEN := Lib.hid (allH_len (pns L) v)
  have hta : (allH (pns L) v).take 256 = allH (pns L) v := List.take_of_length_le (by rw [HLEN.out, HPL.out]; omega)
  rw [hta] at HRA ⊢
  have HMEM : Hid (∀ x, x ∈ allH (pns L) v ↔ ∃ p, p < (pns L).length ∧ x = hitP (pns L) v p) := Lib.hid (fun x => allH_mem)
  have hlen : (allH (pns L) v).length = L.length := by rw [HLEN.out, HPL.out]
  rw [hlen] at HRA ⊢
  obtain ⟨xa, hxa, hxa0⟩ := first_zero (xs := hlP (pns L) v (List.range (pns L).length)) (x := (id, 0)) (hlP_mem.2 ⟨kN, List.mem_range.2 HKG.out, HHI.out⟩) rfl (fun y hy => by
    obtain ⟨p, hp, rfl⟩ := hlP_mem.1 hy
    exact hit_pos HMS.out HOKG.out HBV.out (List.mem_range.1 hp))
  have HXA : Hid ((allH (pns L) v)[0]? = some xa ∧ xa.2 = 0) := Lib.hid ⟨hxa, hxa0⟩
  obtain ⟨hB1, hB2, hB3⟩ := beam_yes (k := 1) (m := 1) HMK.out (by omega) (by omega) (by omega)
  have hend := finP_end HMK.out (m := 1) (by omega)
  have hsome := hend.some (by have := HKG.out; omega)
  rw [Int.toNat_natCast] at hB2 hB3 hend hsome
  have hkept := hend.inv.kept
  obtain ⟨xb, hxb, hxb0⟩ := first_zero (xs := hlP (pns L) v (finP (pns L) v 1 kN).cm) (x := (id, 0)) (hlP_mem.2 ⟨kN, hsome.1, HHI.out⟩) rfl (fun y hy => by
    obtain ⟨p, hp, rfl⟩ := hlP_mem.1 hy
    exact hit_pos HMS.out HOKG.out HBV.out (hend.inv.ok.lt p hp))
  have hbh : beamH (pns L) (kN : Int) v ((1 : Nat) : Int) ((1 : Nat) : Int) = [xb] := by
    rw [hB2, hkept, List.take_take]
    cases hs : srt (hlP (pns L) v (finP (pns L) v 1 kN).cm) with
    | nil => rw [hs] at hxb; cases hxb
    | cons z zs => rw [hs] at hxb; injection hxb with hxb; subst hxb; rfl
  obtain ⟨lo, hlo⟩ := hsome.2
  have hbo : beamO (pns L) (kN : Int) v ((1 : Nat) : Int) ((1 : Nat) : Int) = (kN : Int) :: natS lo := by rw [hB3, hlo]; rfl
  have HBM := Lib.hid (fun W (h : Below w0.heap.size w0 W) => beam_any (some ⟨bb, off, none⟩) c L (kN : Int) a1 c1 v ((1 : Nat) : Int) ((1 : Nat) : Int) W (HAR.out _ h) (HVR.out _ h) HBV.out)
  rw [hbh, hbo, hB1, show errG true = 0 from rfl] at HBM
  have HXB := Lib.hid hxb0
  clear ea eb hM hta hxa hxa0 hB1 hB2 hB3 hend hsome hkept hxb hxb0 hbh hlo hbo hVa
  go_upto_region 9 with fail
  obtain ⟨w5, ew5⟩ : ∃ w5, w4.alloc (.cells #[.slice (some ⟨bb, off, none⟩) L.length c, .int .i64 (kN : Int)] 28) = w5 := ⟨_, rfl⟩
  obtain ⟨gx, egx⟩ : ∃ gx, w4.heap.size = gx := ⟨_, rfl⟩
  have HB45 : Hid (Below w4.heap.size w4 w5) := Lib.hid (by rw [← ew5]; exact below_one (Below.refl _ _) _)
  have HZ := Lib.hid (show Whole w5 gx 28 #[.slice (some ⟨bb, off, none⟩) L.length c, .int .i64 (kN : Int)] by rw [← ew5, ← egx]; exact Whole.new w4 _ _)
  have HB5 : Hid (Below w0.heap.size w0 w5) := Lib.hid (HB4.out.trans (HB45.out.mono HB4.out.size))
  rw [ew5, egx]
  have q0 := HZ.out.cell 0
  have q1 := HZ.out.cell 1
  clear ew5 egx y0 y1
  go_wp2_with fail
  refine (HBM.out w5 HB5.out).mono ?_
  rintro e w6 ⟨Vb, nb, Vl, nl, rfl, rb, rl, b6⟩
  dsimp only
  have HB56 := Lib.hid b6
  have HB6 : Hid (Below w0.heap.size w0 w6) := Lib.hid (HB5.out.trans (b6.mono HB5.out.size))
  have HRX : Hid (∀ W, Below w6.heap.size w6 W → RdH W W.heap.size (some ⟨ga, 0, none⟩) (allH (pns L) v)) := Lib.hid (fun W h => by
    have := own_below HRA.out (HB45.out.trans ((HB56.out.trans (h.mono HB56.out.size)).mono HB45.out.size))
    rw [← hlen] at this
    exact own_rdHS this)
  have hrb := own_rdHS rb
  have hrl := own_rdK rl
  obtain ⟨bb1, bo1, xi, yi, rfl, _, s1, s2, hv1⟩ := hrb.at_ (i := 0) (by simp)
  obtain ⟨bb2, bo2, li, rfl, _, s3, hv2⟩ := hrl.at_ (i := 0) (by simp)
  obtain ⟨bb3, bo3, xj, yj, hA3, _, s4, s5, hv3⟩ := (HRX.out w6 (Below.refl _ _)).at_ (i := 0) (by rw [hlen]; have := HK2.out; omega)
  injection hA3 with hA3
  injection hA3 with q1' q2' _
  subst q1' q2'
  have hyi : yi = 0 := by have := hv1.out; simp at this; rw [← HXB.out]; exact (congrArg Prod.snd this).symm
  have hli : li = (kN : Int) := by have := hv2.out; simpa using this.symm
  have hyj : yj = 0 := by have h1 := hv3.out; rw [HXA.out.1] at h1; injection h1 with h1; rw [← HXA.out.2, h1]
  subst hyi hli hyj
  rw [Nat.zero_mul, Nat.add_zero] at s2 s5
  rw [Nat.zero_mul, Nat.add_zero] at s1 s4
  rw [Nat.add_zero] at s3
  have z0 : (0 : Int) < (L.length : Int) := by have := HK2.out; omega
  have z1 : (0 : Int) < ((kN : Int) :: natS lo).length := by simp
  have e6 : (((((kN : Int) :: natS lo).length : Nat) : Int) == 0) = false := by rw [beq_eq_false_iff_ne]; omega
  have e7 : ((kN : Int) != (kN : Int)) = false := by simp
  have HW6 := Lib.hid (fun W (h : Below w6.heap.size w6 W) => HB6.out.trans (h.mono HB6.out.size))
  have B66 : Hid (Below w6.heap.size w6 w6) := Lib.hid (Below.refl _ _)
  clear hrb hrl hv1 hv2 hv3 rb rl b6 hlen q0 q1
  go_wp2_with fail
  clear s1 s2 s3 s4 s5
  go_loopw [13] (fun i wr => ∃ k : Nat, k ≤ L.length ∧ i = .int .i64 k ∧ Hid (Below w6.heap.size w6 wr) ∧ Hid (∀ j, j < k → (allH (pns L) v)[j]? ≠ some (id, 0))) (fun i _ => L.length - (intOf i).toNat)
  case atStart => exact ⟨0, by omega, rfl, B66, Lib.hid (fun j hj => absurd hj (Nat.not_lt_zero j))⟩
  case round =>
    clear B66
    obtain ⟨k, hk, rfl, HB, HNO⟩ := hrel
    by_cases hlt : k < L.length
    · have d1 : decide ((k : Int) < (L.length : Int)) = true := decide_eq_true (by omega)
      have j1 : (0 : Int) ≤ (k : Int) := by omega
      have j2 : (k : Int) < (L.length : Int) := by omega
      obtain ⟨y0, y1⟩ := KC.out _ (HW6.out _ HB.out)
      obtain ⟨r0, r1, r2⟩ := HR.out _ (HW6.out _ HB.out)
      obtain ⟨⟨xk, yk⟩, hv4⟩ : ∃ x, (allH (pns L) v)[k]? = some x := ⟨_, List.getElem?_eq_getElem (by rw [HLEN.out, HPL.out]; exact hlt)⟩
      have HC : Hid (∀ W, Below w6.heap.size w6 W → W.cell? ⟨ga, k * 2, none⟩ = some (.int .u64 xk) ∧ W.cell? ⟨ga, k * 2 + 1, none⟩ = some (.int .i64 yk)) := Lib.hid (fun W h => by
        obtain ⟨bb4, bo4, x', y', hA4, _, s4, s5, h4⟩ := (HRX.out _ h).at_ (i := k) (by rw [HLEN.out, HPL.out]; exact hlt)
        simp only [Option.some.injEq, Addr.mk.injEq, and_true] at hA4
        obtain ⟨rfl, rfl⟩ := hA4
        have h5 := h4.out
        rw [hv4] at h5
        simp only [Option.some.injEq, Prod.mk.injEq] at h5
        obtain ⟨rfl, rfl⟩ := h5
        rw [Nat.zero_add] at s4 s5
        exact ⟨s4, s5⟩)
      obtain ⟨s4, s5⟩ := HC.out _ HB.out
      by_cases he : xk = id
      · have hyk : yk = 0 := by
          obtain ⟨p, hp, e⟩ := (HMEM.out (xk, yk)).1 (List.mem_of_getElem? hv4)
          have e2 : (hitP (pns L) v p).1 = (hitP (pns L) v kN).1 := by rw [← e, HHI.out]; exact he
          have := ids_inj HMS.out.nd hp HKG.out e2
          subst this
          rw [HHI.out] at e
          exact congrArg Prod.snd e
        subst hyk he
        have e9 : (xk == xk) = true := by simp
        clear hv4
        go_wp2
        go_quiet (fail)
        have b7 := below_drewN HB.out nq
        obtain ⟨w7, ew7⟩ : ∃ w7, wr.drewN nq = w7 := ⟨_, rfl⟩
        rw [ew7] at b7 ⊢
        clear ew7 r0 r1 r2 y0 y1 s4 s5
        have HB7 := Lib.hid b7
        clear b7
        obtain ⟨s4, s5⟩ := HC.out _ HB7.out
        go_wp2
        go_ret
        exact ⟨rfl, HUP.out _ (HW6.out _ HB7.out)⟩
      · have e9 : (xk == id) = false := by simp [he]
        go_wp2
        go_quiet (fail)
        have b7 := below_drewN HB.out nq
        obtain ⟨w7, ew7⟩ : ∃ w7, wr.drewN nq = w7 := ⟨_, rfl⟩
        rw [ew7] at b7 ⊢
        clear ew7 r0 r1 r2 y0 y1 s4 s5
        have HB7 := Lib.hid b7
        clear b7
        have HN2 : Hid (∀ j, j < k + 1 → (allH (pns L) v)[j]? ≠ some (id, 0)) := Lib.hid (fun j hj e => by
          rcases Nat.lt_succ_iff_lt_or_eq.1 hj with h | h
          · exact HNO.out j h e
          · subst h
            rw [hv4] at e
            injection e with e
            exact he (congrArg Prod.fst e))
        go_wp2
        go_roundw
        case rel => exact ⟨k + 1, by omega, by go_num, HB7, HN2⟩
        case measure => simp [intOf]; omega
    · obtain rfl : k = L.length := by omega
      obtain ⟨j, hj, e⟩ := List.getElem_of_mem ((HMEM.out (id, 0)).2 ⟨kN, HKG.out, HHI.out.symm⟩)
      exact absurd ((List.getElem?_eq_getElem hj).trans (congrArg some e)) (HNO.out j (by rw [HLEN.out, HPL.out] at hj; exact hj))
end Go.Proofs.Ytfokejlancmahaa
