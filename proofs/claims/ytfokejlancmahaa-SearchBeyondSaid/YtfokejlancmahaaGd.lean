/- The walk of SearchBeyond. -/
import Derived.Test.YtfokejlancmahaaFo
import Derived.Test.YtfokejlancmahaaFp
import Derived.Test.YtfokejlancmahaaFq
import Derived.Test.YtfokejlancmahaaFs
import Derived.Test.YtfokejlancmahaaFt
import Derived.Deep.QuietTactic
import Derived.BigQuiet
namespace Go.Proofs.Ytfokejlancmahaa
open Go.Shelf Go.RowKit Go.Lib
open Go.Sort hiding Below
set_option linter.unusedVariables false
set_option linter.unusedSimpArgs false
set_option maxRecDepth 100000 in
set_option maxHeartbeats 8000000 in
theorem searchBeyond_main (A : Option Addr) (c : Nat) (L : List Gn) (s : Int) (B : Option Addr) (q : Nat) (v : List Int) (p0 p1 : Int) (w : World) (hx : GGiven w A L) (hv : Rd .i8 w w.heap.size B v) (bv : ∀ n ∈ v, -128 ≤ n ∧ n ≤ 127) (hvl : v.length ≤ 140737488355328) (hp0 : -9223372036854775808 ≤ p0 ∧ p0 ≤ 9223372036854775807) (hp1 : -9223372036854775808 ≤ p1 ∧ p1 ≤ 9223372036854775807) :
    Calls Try.prog 7 #[.agg #[.slice A L.length c, .int .i64 s], .slice B v.length q, .agg #[.int .i64 p0, .int .i64 p1]] w fun e w' => e = .returned (.bool true) ∧ Below w.heap.size w w' := by
  have HX := Lib.hid hx
  have HV := Lib.hid hv
  have HBV := Lib.hid bv
  have B0 : Below w.heap.size w ((w.alloc (.cells #[.slice A L.length c, .int .i64 s] 28)).alloc (.cells #[.int .i64 p0, .int .i64 p1] 30)) := below_one (below_one (Below.refl _ _) _) _
  have HW0 := Lib.hid ((Whole.new w 28 #[.slice A L.length c, .int .i64 s]).alloc (.cells #[.int .i64 p0, .int .i64 p1] 30))
  have HW1 : Hid (Whole ((w.alloc (.cells #[.slice A L.length c, .int .i64 s] 28)).alloc (.cells #[.int .i64 p0, .int .i64 p1] 30)) (w.heap.size + 1) 30 #[.int .i64 p0, .int .i64 p1]) := Lib.hid (by
    have := Whole.new (w.alloc (.cells #[.slice A L.length c, .int .i64 s] 28)) 30 #[.int .i64 p0, .int .i64 p1]
    simpa using this)
  have HB0 := Lib.hid B0
  clear hx hv bv B0
  go_enter Try.func7, Try.ntmps7
  go_upto_region 1 with fail
  obtain ⟨w0, ew0⟩ : ∃ w0, (w.alloc (.cells #[.slice A L.length c, .int .i64 s] 28)).alloc (.cells #[.int .i64 p0, .int .i64 p1] 30) = w0 := ⟨_, rfl⟩
  obtain ⟨g0, eg0⟩ : ∃ g0, w.heap.size = g0 := ⟨_, rfl⟩
  rw [ew0] at HW0 HW1 HB0 ⊢
  have HGG := Lib.hid eg0
  rw [eg0] at HW0 HW1 
  rw [show (Value.pointer (some ⟨w.heap.size, 0, none⟩) : Value) = .pointer (some ⟨g0, 0, none⟩) by rw [eg0]]
  rw [show (Value.pointer (some ⟨w.heap.size + 1, 0, none⟩) : Value) = .pointer (some ⟨g0 + 1, 0, none⟩) by rw [eg0]]
  clear ew0 eg0
  have KC : Hid (∀ W, Below w0.heap.size w0 W → (W.cell? ⟨g0, 0, none⟩ = some (.slice A L.length c) ∧ W.cell? ⟨g0, 1, none⟩ = some (.int .i64 s)) ∧ W.cell? ⟨g0 + 1, 0, none⟩ = some (.int .i64 p0) ∧ W.cell? ⟨g0 + 1, 1, none⟩ = some (.int .i64 p1)) := Lib.hid (fun W h => by
    have z := HW0.out.below h HW0.out.lt
    have z1 := HW1.out.below h HW1.out.lt
    exact ⟨⟨z.cell 0, z.cell 1⟩, z1.cell 0, z1.cell 1⟩)
  have HUP : Hid (∀ W, Below w0.heap.size w0 W → Below w.heap.size w W) := Lib.hid (fun W h => HB0.out.trans (h.mono HB0.out.size))
  go_wp2_with fail
  refine (aliveS_any w0).mono ?_
  rintro e w1 ⟨rfl, b1⟩
  dsimp only
  have HB1 := Lib.hid b1
  clear b1
  obtain ⟨⟨y0, y1⟩, k0, k1⟩ := KC.out _ HB1.out
  go_wp2_with fail
  refine (greatS_any A c L s w1 (HX.out.below (HUP.out _ HB1.out))).mono ?_
  rintro e w2 ⟨⟨gb, rfl, hgb⟩, b2⟩
  dsimp only
  have HB2 : Hid (Below w0.heap.size w0 w2) := Lib.hid (HB1.out.trans (b2.mono HB1.out.size))
  have HGB := Lib.hid hgb
  clear y0 y1 k0 k1 b2 hgb
  obtain ⟨⟨y0, y1⟩, k0, k1⟩ := KC.out _ HB2.out
  cases gb with
  | true =>
    clear HGB
    go_wp2_with fail
    refine (aliveS_any _).mono ?_
    rintro e wz ⟨rfl, bz⟩
    dsimp only
    go_wp2
    go_ret
    exact ⟨rfl, HUP.out _ (HB2.out.trans (bz.mono HB2.out.size))⟩
  | false =>
  have HSM := Lib.hid (HGB.out rfl)
  clear HGB
  go_wp2_with fail
  refine (beyond_oneS v.length hvl w2).mono ?_
  rintro e w3' ⟨⟨bb, rfl⟩, rfl⟩
  dsimp only
  obtain ⟨w3, ew3⟩ : ∃ w3, w2.alloc (.cells #[.int .i64 (v.length : Int)] 3) = w3 := ⟨_, rfl⟩
  have HB3 : Hid (Below w0.heap.size w0 w3) := Lib.hid (HB2.out.trans ((by rw [← ew3]; exact below_one (Below.refl _ _) _ : Below w2.heap.size w2 w3).mono HB2.out.size))
  rw [ew3]
  clear ew3 y0 y1 k0 k1
  obtain ⟨⟨y0, y1⟩, k0, k1⟩ := KC.out _ HB3.out
  cases bb with
  | true =>
    go_wp2_with fail
    refine (aliveS_any _).mono ?_
    rintro e wz ⟨rfl, bz⟩
    dsimp only
    go_wp2
    go_ret
    exact ⟨rfl, HUP.out _ (HB3.out.trans (bz.mono HB3.out.size))⟩
  | false =>
  have HPL := Lib.hid (pns_len L)
  have HAR : Hid (∀ W, Below w0.heap.size w0 W → GArg W A L) := Lib.hid (fun W h => (HX.out.below (HUP.out _ h)).arg HSM.out.1)
  have HVR : Hid (∀ W, Below w0.heap.size w0 W → Rd .i8 W W.heap.size B v) := Lib.hid (fun W h => (HV.out.below (HUP.out _ h)).more (HUP.out _ h).size)
  cases hBM : beamB (pns L) s v p1 p1 with
  | false =>
    obtain ⟨ea, eo⟩ := beam_no hBM
    go_wp2_with fail
    refine (beam_any A c L s B q v p1 p1 w3 (HAR.out _ HB3.out) (HVR.out _ HB3.out) HBV.out).mono ?_
    rintro e w4 ⟨Va, ca, Vl, cl, rfl, ra, rl, b4⟩
    dsimp only
    have HB4 : Hid (Below w0.heap.size w0 w4) := Lib.hid (HB3.out.trans (b4.mono HB3.out.size))
    rw [ea, eo, hBM, show errG false = 1 from rfl]
    clear y0 y1 k0 k1 ra rl b4
    go_wp2
    go_ret
    exact ⟨rfl, HUP.out _ HB4.out⟩
  | true =>
  obtain ⟨hM, m, rfl, hm1, hm2⟩ := beam_was hBM
  have HMS := Lib.hid hM
  have HOKG : Hid (∀ x ∈ pns L, PnOk x) := Lib.hid (HAR.out _ HB3.out).ok
  obtain ⟨AS, BS, CS, od, ⟨hb1, hb2, hb3, hb4, hb5⟩, ⟨hn1, hn2, hn3⟩, hle, hod, hcs, has⟩ := bey_facts hM hm1 hm2
  have HLE := Lib.hid hle
  have HOD := Lib.hid hod
  have hL2 := HSM.out.2
  have hPL2 := HPL.out
  have HCS := Lib.hid hcs
  have HAS := Lib.hid has
  have HM1 := Lib.hid (And.intro hm1 hm2)
  have CBM := Lib.hid (fun W (h : Below w0.heap.size w0 W) => beam_any A c L s B q v ((m : Nat) : Int) ((m : Nat) : Int) W (HAR.out _ h) (HVR.out _ h) HBV.out)
  rw [hb1, hb2, hb4, show errG true = 0 from rfl] at CBM
  have CEX := Lib.hid (fun W (h : Below w0.heap.size w0 W) => exact_any A c L s B q v ((m : Nat) : Int) W (HAR.out _ h) (HVR.out _ h) HBV.out)
  rw [hb3, hb5, show errG true = 0 from rfl] at CEX
  clear hBM hM hm1 hm2 hb1 hb2 hb3 hb4 hb5 hle hod hcs has
  obtain ⟨OS, eOS⟩ : ∃ OS, natS od = OS := ⟨_, rfl⟩
  have HOS := Lib.hid eOS
  rw [eOS] at CBM
  have hol : OS.length = od.length := by rw [← eOS]; unfold natS; rw [List.length_map]
  clear eOS
  go_wp2_with fail
  refine (CBM.out w3 HB3.out).mono ?_
  rintro e w4 ⟨Va, ca, Vl, cl, rfl, ra, rl, b4⟩
  dsimp only
  have HB4 : Hid (Below w0.heap.size w0 w4) := Lib.hid (HB3.out.trans (b4.mono HB3.out.size))
  have HRA := Lib.hid ra
  have HRL := Lib.hid rl
  clear y0 y1 k0 k1 ra rl b4
  obtain ⟨⟨y0, y1⟩, k0, k1⟩ := KC.out _ HB4.out
  go_wp2_with fail
  refine (CEX.out w4 HB4.out).mono ?_
  rintro e w5 ⟨Vb, cb, rfl, rb, b5, _⟩
  dsimp only
  have HB45 := Lib.hid b5
  have HB5 : Hid (Below w0.heap.size w0 w5) := Lib.hid (HB4.out.trans (b5.mono HB4.out.size))
  have HRB := Lib.hid rb
  clear y0 y1 k0 k1 rb b5 CBM CEX
  have HW := Lib.hid (fun W (h : Below w5.heap.size w5 W) => HB5.out.trans (h.mono HB5.out.size))
  have HTB : Hid (∀ W, Below w5.heap.size w5 W → (RdH W W.heap.size Va AS ∧ RdH W W.heap.size Vb BS) ∧ Rd .i64 W W.heap.size Vl OS) := Lib.hid (fun W h =>
    have h2 := HB45.out.trans (h.mono HB45.out.size)
    ⟨⟨own_rdHS (own_below HRA.out h2), own_rdHS (own_below HRB.out h)⟩, own_rdK (own_below HRL.out h2)⟩)
  have e5 : decide ((BS.length : Int) < (AS.length : Int)) = false := decide_eq_false (by omega)
  have B55 : Hid (Below w5.heap.size w5 w5) := Lib.hid (Below.refl _ _)
  go_wp2_with fail
  go_loopw [12] (fun i wr => ∃ k : Nat, k ≤ AS.length ∧ i = .int .i64 k ∧ Hid (Below w5.heap.size w5 wr)) (fun i _ => AS.length - (intOf i).toNat)
  case atStart => exact ⟨0, by omega, rfl, B55⟩
  case round =>
    clear B55
    obtain ⟨k, hk, rfl, HB⟩ := hrel
    by_cases hlt : k < AS.length
    · have e1 : decide ((k : Int) < (AS.length : Int)) = true := decide_eq_true (by omega)
      have z0 : (0 : Int) ≤ (k : Int) := by omega
      have z1 : (k : Int) < (AS.length : Int) := by omega
      have z2 : (k : Int) < (BS.length : Int) := by omega
      obtain ⟨b1, o1, x1, u1, hA1, _, _, _, hv1⟩ := (HTB.out _ HB.out).1.1.at_ (i := k) hlt
      obtain ⟨b2, o2, x2, u2, hA2, _, _, _, hv2⟩ := (HTB.out _ HB.out).1.2.at_ (i := k) (by omega)
      subst hA1 hA2
      have hls := HLE.out k _ _ hv1.out hv2.out
      have HC : Hid (∀ W, Below w5.heap.size w5 W → (W.cell? ⟨b1, o1 + k * 2, none⟩ = some (.int .u64 x1) ∧ W.cell? ⟨b1, o1 + k * 2 + 1, none⟩ = some (.int .i64 u1)) ∧ W.cell? ⟨b2, o2 + k * 2, none⟩ = some (.int .u64 x2) ∧ W.cell? ⟨b2, o2 + k * 2 + 1, none⟩ = some (.int .i64 u2)) := Lib.hid (fun W h => by
        obtain ⟨b3, o3, x3, u3, hA3, _, c1, c2, h3⟩ := (HTB.out _ h).1.1.at_ (i := k) hlt
        obtain ⟨b4, o4, x4, u4, hA4, _, c3, c4, h4⟩ := (HTB.out _ h).1.2.at_ (i := k) (by omega)
        simp only [Option.some.injEq, Addr.mk.injEq, and_true] at hA3 hA4
        obtain ⟨rfl, rfl⟩ := hA3
        obtain ⟨rfl, rfl⟩ := hA4
        have h5 := hv1.out.symm.trans h3.out
        have h6 := hv2.out.symm.trans h4.out
        simp only [Option.some.injEq, Prod.mk.injEq] at h5 h6
        obtain ⟨rfl, rfl⟩ := h5
        obtain ⟨rfl, rfl⟩ := h6
        exact ⟨⟨c1, c2⟩, c3, c4⟩)
      have CL : Hid (∀ W, Below w5.heap.size w5 W → Calls Try.prog 25 #[.agg #[.int .u64 x1, .int .i64 u1], .agg #[.int .u64 x2, .int .i64 u2]] W fun e w' => e = .returned (.bool false) ∧ Below w5.heap.size w5 w' ∧ (w'.cell? ⟨b1, o1 + k * 2, none⟩ = some (.int .u64 x1) ∧ w'.cell? ⟨b1, o1 + k * 2 + 1, none⟩ = some (.int .i64 u1)) ∧ w'.cell? ⟨b2, o2 + k * 2, none⟩ = some (.int .u64 x2) ∧ w'.cell? ⟨b2, o2 + k * 2 + 1, none⟩ = some (.int .i64 u2)) := Lib.hid (fun W h => (less_any x1 u1 x2 u2 W).mono fun e w' hh => by
        obtain ⟨h1, rfl⟩ := hh
        have hk := h.trans ((below_one (below_one (Below.refl W.heap.size W) (.cells #[.int .u64 x1, .int .i64 u1] 45)) (.cells #[.int .u64 x2, .int .i64 u2] 45)).mono h.size)
        rw [hls] at h1
        exact ⟨h1, hk, HC.out _ hk⟩)
      have HDR := HB.out.drew
      obtain ⟨⟨j1, j2⟩, j3, j4⟩ := HC.out _ HDR
      clear hv1 hv2 hls
      go_wp2
      first
      | (go_region_held3 (fun w' => (w'.cell? ⟨b1, o1 + k * 2, none⟩ = some (.int .u64 x1) ∧ w'.cell? ⟨b1, o1 + k * 2 + 1, none⟩ = some (.int .i64 u1)) ∧ w'.cell? ⟨b2, o2 + k * 2, none⟩ = some (.int .u64 x2) ∧ w'.cell? ⟨b2, o2 + k * 2 + 1, none⟩ = some (.int .i64 u2))
        (first | exact ⟨⟨by with_reducible assumption, by with_reducible assumption⟩, by with_reducible assumption, by with_reducible assumption⟩ | exact ⟨by with_reducible assumption, by with_reducible assumption⟩)
        (first
          | (go_at_call 25; (with_reducible refine (CL.out _ (by with_reducible assumption)).mono ?_); rintro e w6 ⟨rfl, b6, z3, z4⟩)
          | fail))
      | fail
      all_goals
        have HB6 := Lib.hid b6
        clear z3 z4 j1 j2 j3 j4 HDR b6
        go_wp2
        go_roundw
        case rel => exact ⟨k + 1, by omega, by go_num, HB6⟩
        case measure => simp [intOf]; omega
    · obtain rfl : k = AS.length := by omega
      have e1 : decide ((AS.length : Int) < (AS.length : Int)) = false := decide_eq_false (by omega)
      clear HLE hk hlt
      go_wp2
      go_loopw [13, 14, 15, 16, 17, 18] (fun i _ _ _ _ _ wr => ∃ k : Nat, k ≤ od.length ∧ i = .int .i64 k ∧ Hid (Below w5.heap.size w5 wr)) (fun i _ _ _ _ _ _ => od.length - (intOf i).toNat)
      case atStart => exact ⟨0, by omega, rfl, HB⟩
      case round =>
        clear HB
        obtain ⟨k, hk, rfl, HB⟩ := hrel
        by_cases hlt : k < od.length
        · have e2 : decide ((k : Int) < (OS.length : Int)) = true := decide_eq_true (by omega)
          have z0 : (0 : Int) ≤ (k : Int) := by omega
          have z1 : (k : Int) < (OS.length : Int) := by omega
          obtain ⟨p, hp⟩ : ∃ p, od[k]? = some p := ⟨_, List.getElem?_eq_getElem hlt⟩
          have hpl := (HOD.out p (List.mem_of_getElem? hp)).1
          have hot := (HOD.out p (List.mem_of_getElem? hp)).2
          have hplL : p < L.length := by rw [← HPL.out]; exact hpl
          obtain ⟨bb, off, id0, a0, c0, v0, a2, c2, o, rfl, hBg, _, _, m3, _, hr2, hvv⟩ := HX.out.rd.at_ hplL
          have hna : nAt (pns L) p = (id0, v0, o) := nAt_get (pns_at hvv.out)
          rw [hna] at hot
          obtain ⟨b3, o3, q3, hA3, _, _, hv3⟩ := (HTB.out _ HB.out).2.at_ (i := k) (by omega)
          have hq3 : q3 = (p : Int) := by
            have h1 := hv3.out
            rw [← HOS.out] at h1
            unfold natS at h1
            rw [List.getElem?_map, hp] at h1
            exact h1.symm
          subst hA3 hq3
          have HO3 : Hid (∀ W, Below w5.heap.size w5 W → W.cell? ⟨b3, o3 + k, none⟩ = some (.int .i64 (p : Int)) ∧ W.cell? ⟨bb, off + p * 3 + 2, none⟩ = some (.slice a2 o.length c2)) := Lib.hid (fun W h => by
            have hW := HUP.out _ (HW.out W h)
            obtain ⟨b4, o4, q4, hA4, _, c4, h4⟩ := (HTB.out _ h).2.at_ (i := k) (by omega)
            simp only [Option.some.injEq, Addr.mk.injEq, and_true] at hA4
            obtain ⟨rfl, rfl⟩ := hA4
            have h5 := hv3.out.symm.trans h4.out
            subst h5
            exact ⟨c4, (hW.cell (p := ⟨bb, off + p * 3 + 2, none⟩) hBg).trans m3⟩)
          have HRO : Hid (∀ W, Below w5.heap.size w5 W → Rd .i64 W W.heap.size a2 o) := Lib.hid (fun W h => (hr2.below (HUP.out _ (HW.out W h))).more (HUP.out _ (HW.out W h)).size)
          have HOT := Lib.hid hot
          have HOL : Hid (o.length ≤ 20000) := Lib.hid ((HSM.out.1.at_ (show (id0, v0, o) ∈ pns L by rw [← hna]; exact nAt_mem hpl)).2)
          have z2 : (0 : Int) ≤ (p : Int) := by omega
          have z3 : (p : Int) < (L.length : Int) := by omega
          obtain ⟨⟨y0, y1⟩, k0, k1⟩ := KC.out _ (HW.out _ HB.out)
          obtain ⟨r0, r1⟩ := HO3.out _ HB.out
          clear hp hpl hot hplL hBg m3 hr2 hvv hna hv3
          go_wp2
          go_quiet (fail)
          have b6 := below_drewN HB.out nq
          obtain ⟨w6, ew6⟩ : ∃ w6, wr.drewN nq = w6 := ⟨_, rfl⟩
          rw [ew6] at b6 ⊢
          clear ew6 r0 r1 y0 y1 k0 k1
          have HB6 := Lib.hid b6
          clear b6
          go_wp2
          go_loopw [15, 16, 17, 18] (fun i _ _ _ wr => ∃ j : Nat, j ≤ o.length ∧ i = .int .i64 j ∧ Hid (Below w5.heap.size w5 wr)) (fun i _ _ _ _ => o.length - (intOf i).toNat)
          case atStart => exact ⟨0, by omega, rfl, HB6⟩
          case round =>
            clear HB6 HB
            obtain ⟨j, hj, rfl, HB⟩ := hrel
            by_cases hlj : j < o.length
            · have e3 : decide ((j : Int) < (o.length : Int)) = true := decide_eq_true (by omega)
              have HOL2 := HOL.out
              have u0 : (0 : Int) ≤ (j : Int) := by omega
              have u1 : (j : Int) < (o.length : Int) := by omega
              obtain ⟨bq, oq, tq, hAq, _, _, hvq⟩ := (HRO.out _ HB.out).at_ (i := j) hlj
              subst hAq
              have htm : tq ∈ o := by
                have := hvq.out
                rw [List.getElem?_eq_getElem hlj] at this
                rw [← (show o[j] = tq from this)]
                exact List.getElem_mem _
              obtain ⟨t0, t1, t2⟩ := HOT.out tq htm
              obtain ⟨tn, rfl⟩ : ∃ tn : Nat, tq = tn := ⟨tq.toNat, by omega⟩
              rw [Int.toNat_natCast] at t2
              have htg : tn < (pns L).length := by omega
              have htL : tn < L.length := by rw [← HPL.out]; exact htg
              obtain ⟨bx, ox, id, a1, c1, v', a3, c3, o', hAx, hBg, m1, m2, _, hr1, _, hvx⟩ := HX.out.rd.at_ htL
              simp only [Option.some.injEq, Addr.mk.injEq, and_true] at hAx
              obtain ⟨rfl, rfl⟩ := hAx
              have hnt : nAt (pns L) tn = (id, v', o') := nAt_get (pns_at hvx.out)
              have hmem : (id, v', o') ∈ pns L := by rw [← hnt]; exact nAt_mem htg
              have hl1 : v.length = v'.length := (HMS.out.same _ hmem).symm
              have hd1 : 1 ≤ v'.length ∧ v'.length ≤ 64 := by rw [← hl1]; exact HMS.out.dim
              have hb8 := (HOKG.out _ hmem).2.1
              have hHI : hitP (pns L) v tn = (id, far v' v) := by unfold hitP; rw [hnt]
              have HHO := Lib.hid (hit_ok HMS.out HOKG.out HBV.out htg)
              rw [hHI] at HHO t2
              obtain ⟨lx, hlx, hAp, hcase⟩ := HCS.out _ t2
              have HR : Hid (∀ W, Below w5.heap.size w5 W → W.cell? ⟨bq, oq + j, none⟩ = some (.int .i64 (tn : Int)) ∧ W.cell? ⟨bb, off + tn * 3, none⟩ = some (.int .u64 id) ∧ W.cell? ⟨bb, off + tn * 3 + 1, none⟩ = some (.slice a1 v'.length c1)) := Lib.hid (fun W h => by
                have hW := HUP.out _ (HW.out W h)
                obtain ⟨b4, o4, q4, hA4, _, c4, h4⟩ := (HRO.out _ h).at_ (i := j) hlj
                simp only [Option.some.injEq, Addr.mk.injEq, and_true] at hA4
                obtain ⟨rfl, rfl⟩ := hA4
                have h5 := hvq.out.symm.trans h4.out
                subst h5
                exact ⟨c4, (hW.cell (p := ⟨bb, off + tn * 3, none⟩) hBg).trans m1, (hW.cell (p := ⟨bb, off + tn * 3 + 1, none⟩) hBg).trans m2⟩)
              obtain ⟨dd, edd⟩ : ∃ dd, far v' v = dd := ⟨_, rfl⟩
              have CD : Hid (∀ W, Below w5.heap.size w5 W → Calls Try.prog 24 #[.slice a1 v'.length c1, .slice B v.length q] W fun e w' => e = .returned (.tuple #[.int .i64 dd, .int .i64 0]) ∧ Below w5.heap.size w5 w' ∧ w'.cell? ⟨g0, 0, none⟩ = some (.slice (some ⟨bb, off, none⟩) L.length c) ∧ w'.cell? ⟨bq, oq + j, none⟩ = some (.int .i64 (tn : Int)) ∧ w'.cell? ⟨bb, off + tn * 3 + 1, none⟩ = some (.slice a1 v'.length c1)) := Lib.hid (fun W h => (dist_yes a1 B c1 q v' v hd1.1 hd1.2 hl1 v.length hl1 W ((hr1.below (HUP.out _ (HW.out W h))).more (HUP.out _ (HW.out W h)).size) (HVR.out _ (HW.out W h)) hb8 HBV.out).mono fun e w' hh => by
                have hk := h.trans (hh.2.mono h.size)
                rw [edd] at hh
                exact ⟨hh.1, hk, (KC.out _ (HW.out _ hk)).1.1, (HR.out _ hk).1, (HR.out _ hk).2.2⟩)
              rw [edd] at HHO t2 hcase
              obtain ⟨b1, o1, x1, u1', hA1, _, _, _, hv1⟩ := (HTB.out _ HB.out).1.1.at_ (i := AS.length - 1) (by omega)
              subst hA1
              have hlx2 : (x1, u1') = lx := Option.some.inj (hv1.out.symm.trans hlx)
              subst hlx2
              obtain ⟨jl, ejl⟩ : ∃ jl, AS.length - 1 = jl := ⟨_, rfl⟩
              have HL : Hid (∀ W, Below w5.heap.size w5 W → W.cell? ⟨b1, o1 + jl * 2, none⟩ = some (.int .u64 x1) ∧ W.cell? ⟨b1, o1 + jl * 2 + 1, none⟩ = some (.int .i64 u1')) := Lib.hid (fun W h => by
                obtain ⟨b4, o4, x4, u4, hA4, _, c4, c5, h4⟩ := (HTB.out _ h).1.1.at_ (i := AS.length - 1) (by omega)
                simp only [Option.some.injEq, Addr.mk.injEq, and_true] at hA4
                obtain ⟨rfl, rfl⟩ := hA4
                have h5 := hv1.out.symm.trans h4.out
                simp only [Option.some.injEq, Prod.mk.injEq] at h5
                obtain ⟨rfl, rfl⟩ := h5
                rw [ejl] at c4 c5
                exact ⟨c4, c5⟩)
              have HOA : Hid (∀ x ∈ AS, HitOk x) := Lib.hid (fun x hx => by
                obtain ⟨p', hp', rfl⟩ := HAS.out x hx
                exact hit_ok HMS.out HOKG.out HBV.out hp')
              have hsn : shN (ids [(id, dd)]) (ids AS) = if (id, dd) ∈ AS then 1 else 0 := by
                rw [show ids [(id, dd)] = [id] from rfl, sh_one]
                have := ids_hit (v := v) HMS.out.nd (ps := []) (by simp) (xs := AS) HAS.out htg
                rw [hHI, edd] at this
                simp only [this]
              have HSN := Lib.hid hsn
              have HCA := Lib.hid hcase
              have HJL := Lib.hid ejl
              have HAP := Lib.hid hAp
              have t3 : (tn : Int) < (L.length : Int) := by omega
              have HDR := HB.out.drew
              obtain ⟨⟨y0, y1⟩, _, _⟩ := KC.out _ (HW.out _ HDR)
              obtain ⟨r0, r1, r2⟩ := HR.out _ HDR
              clear hvq htm t1 t2 htg htL hBg m1 m2 hr1 hvx hnt hmem hl1 hd1 hb8 hHI hlx hcase hv1 hsn ejl hAp edd
              go_wp2
              first
              | (go_region_held3 (fun w' => w'.cell? ⟨g0, 0, none⟩ = some (.slice (some ⟨bb, off, none⟩) L.length c) ∧ w'.cell? ⟨bq, oq + j, none⟩ = some (.int .i64 (tn : Int)) ∧ w'.cell? ⟨bb, off + tn * 3 + 1, none⟩ = some (.slice a1 v'.length c1))
                (first | exact ⟨by with_reducible assumption, by with_reducible assumption, by with_reducible assumption⟩)
                (first
                  | (go_at_call 24; (with_reducible refine (CD.out _ (by with_reducible assumption)).mono ?_); rintro e w6 ⟨rfl, b6, z5, z6, z7⟩)
                  | fail))
              | fail
              all_goals
                have HB6 := Lib.hid b6
                clear z5 z6 z7 r0 r1 r2 y0 y1 b6 HDR
                obtain ⟨⟨y0, y1⟩, _, _⟩ := KC.out _ (HW.out _ HB6.out)
                obtain ⟨r0, r1, r2⟩ := HR.out _ HB6.out
                have HDR := HB6.out.drew
                clear r0 r1 r2 y0 y1
                obtain ⟨⟨y0, y1⟩, _, _⟩ := KC.out _ (HW.out _ HDR)
                obtain ⟨r0, r1, r2⟩ := HR.out _ HDR
                have HKS : Hid (∀ W, Below w5.heap.size w5 W → W.cell? ⟨g0, 0, none⟩ = some (.slice (some ⟨bb, off, none⟩) L.length c) ∧ W.cell? ⟨bq, oq + j, none⟩ = some (.int .i64 (tn : Int)) ∧ W.cell? ⟨bb, off + tn * 3, none⟩ = some (.int .u64 id)) := Lib.hid (fun W h => ⟨(KC.out _ (HW.out _ h)).1.1, (HR.out _ h).1, (HR.out _ h).2.1⟩)
                go_wp2
                go_region_held3 (fun w' => w'.cell? ⟨g0, 0, none⟩ = some (.slice (some ⟨bb, off, none⟩) L.length c) ∧ w'.cell? ⟨bq, oq + j, none⟩ = some (.int .i64 (tn : Int)) ∧ w'.cell? ⟨bb, off + tn * 3, none⟩ = some (.int .u64 id))
                  (first | exact ⟨by with_reducible assumption, by with_reducible assumption, by with_reducible assumption⟩ | exact HKS.out _ (below_one (by with_reducible assumption) _))
                  (fail)
                obtain ⟨xb, exb⟩ : ∃ xb, w6.heap.size = xb := ⟨_, rfl⟩
                obtain ⟨w7, ew7⟩ : ∃ w7, (w6.alloc (.cells #[.int .u64 id, .int .i64 dd] 45)).drew = w7 := ⟨_, rfl⟩
                have B67 : Below w6.heap.size w6 w7 := by rw [← ew7]; exact (below_one (Below.refl _ _) _).drew
                have HZ : Hid (Whole w7 xb 45 #[.int .u64 id, .int .i64 dd]) := Lib.hid (by
                  rw [← ew7, ← exb]
                  have h0 := Whole.new w6 45 #[.int .u64 id, .int .i64 dd]
                  exact h0.below (Below.refl _ _).drew h0.lt)
                have HB7 : Hid (Below w5.heap.size w5 w7) := Lib.hid (HB6.out.trans (B67.mono HB6.out.size))
                rw [ew7, exb]
                clear ew7 exb B67 r0 r1 r2 y0 y1 HDR
                have HS2 : Hid (∀ W, Below w7.heap.size w7 W → (W.cell? ⟨xb, 0, none⟩ = some (.int .u64 id) ∧ W.cell? ⟨xb, 1, none⟩ = some (.int .i64 dd)) ∧ W.cell? ⟨g0 + 1, 1, none⟩ = some (.int .i64 (m : Int)) ∧ W.cell? ⟨b1, o1 + jl * 2, none⟩ = some (.int .u64 x1) ∧ W.cell? ⟨b1, o1 + jl * 2 + 1, none⟩ = some (.int .i64 u1')) := Lib.hid (fun W h => by
                  have h5 := HB7.out.trans (h.mono HB7.out.size)
                  have z := HZ.out.below h HZ.out.lt
                  exact ⟨⟨z.cell 0, z.cell 1⟩, (KC.out _ (HW.out _ h5)).2.2, HL.out _ h5⟩)
                have HDR0 := Below.refl w7.heap.size w7
                have HDR := (Below.refl w7.heap.size w7).drew
                obtain ⟨⟨n0, n1⟩, n2, n3, n4⟩ := HS2.out _ HDR
                have CS : Hid (∀ W, Below w7.heap.size w7 W → Calls Try.prog 10 #[.slice (some ⟨W.heap.size, 0, none⟩) 1 1, .slice (some ⟨b1, o1, none⟩) AS.length ca] ((W.alloc (.cells #[.int .u64 id, .int .i64 dd] 45)).drew) fun e w' => e = .returned (.int .i64 (((if (id, dd) ∈ AS then 1 else 0 : Nat)) : Int)) ∧ Below w7.heap.size w7 w' ∧ (w'.cell? ⟨xb, 0, none⟩ = some (.int .u64 id) ∧ w'.cell? ⟨xb, 1, none⟩ = some (.int .i64 dd)) ∧ w'.cell? ⟨g0 + 1, 1, none⟩ = some (.int .i64 (m : Int)) ∧ w'.cell? ⟨b1, o1 + jl * 2, none⟩ = some (.int .u64 x1) ∧ w'.cell? ⟨b1, o1 + jl * 2 + 1, none⟩ = some (.int .i64 u1')) := Lib.hid (fun W h => by
                  have bT : Below w7.heap.size w7 ((W.alloc (.cells #[.int .u64 id, .int .i64 dd] 45)).drew) := (below_one h _).drew
                  have h5 := HB7.out.trans (bT.mono HB7.out.size)
                  refine (shared_any (some ⟨W.heap.size, 0, none⟩) (some ⟨b1, o1, none⟩) 1 ca [(id, dd)] AS 1 AS.length rfl rfl _ (show RdH _ ((W.alloc (.cells #[.int .u64 id, .int .i64 dd] 45)).drew).heap.size _ _ from ((rdH_one W id dd).below (w' := (W.alloc (.cells #[.int .u64 id, .int .i64 dd] 45)).drew) (Below.refl _ _).drew).more (Nat.le_refl _)) (HTB.out _ h5).1.1 (fun x hx => by rw [List.mem_singleton] at hx; subst hx; exact HHO.out) HOA.out (by simp) (by omega)).mono ?_
                  rintro e w8 ⟨rfl, b8⟩
                  have hk := bT.trans (b8.mono bT.size)
                  rw [HSN.out]
                  exact ⟨rfl, hk, HS2.out _ hk⟩)
                rcases HCA.out with hin | ⟨hout, hlen, hls⟩
                · rw [if_pos hin, show ((1 : Nat) : Int) = 1 from rfl] at CS
                  have g1 : ((1 : Int) == 0) = false := rfl
                  clear hin
                  obtain ⟨⟨n5, n6⟩, _, _, _⟩ := HS2.out _ HDR0
                  go_wp2
                  refine wp_region_any (by kernel_rfl) ?_
                  change wpAny _ _ _ _ _ _ _ (World.drew _)
                  refine wpAny_take (i := 2) (v := ?_) rfl (by kernel_rfl) (by kernel_rfl) (by kernel_rfl) (fun _ _ _ h => h) (Or.inl ⟨by rfl, ?_⟩) ?_
                  rotate_left
                  · (intro w; go_simp; try with_reducible rfl)
                  refine wpAny_ready (rs := [0]) (by kernel_rfl) (by simp) (AllReady.cons rfl (fun K hK => ?_) AllReady.nil)
                  go_simp
                  refine hK _ _ ?_
                  clear hK K
                  refine wpAny_ready (rs := [1]) (by kernel_rfl) (by simp) (AllReady.cons rfl (fun K hK => ?_) AllReady.nil)
                  go_simp
                  refine hK _ _ ?_
                  clear hK K
                  refine wpAny_ready (rs := [3]) (by kernel_rfl) (by simp) (AllReady.cons rfl (fun K hK => ?_) AllReady.nil)
                  go_simp
                  go_at_call 10
                  (with_reducible refine (CS.out _ (by with_reducible assumption)).mono ?_)
                  rintro e w8 ⟨rfl, b8, ⟨p0, p1⟩, p2, p3, p4⟩
                  try go_simp
                  refine hK _ _ ?_
                  clear hK K
                  refine wpAny_tail 4 (fun w' => ∃ n, w' = w8.drewN n) (by kernel_rfl) rfl (by rfl) (by kernel_rfl) ⟨0, rfl⟩ ?_
                  simp only [List.drop_succ_cons, List.drop_zero]
                  repeat (go_big_quiet_step (fail))
                  refine wpQuiet_nil ?_
                  intro _ hw'
                  obtain ⟨nq, rfl⟩ := hw'
                  have HB8 := Lib.hid (HB7.out.trans ((below_drewN b8 nq).mono HB7.out.size))
                  clear p0 p1 p2 p3 p4 n0 n1 n2 n3 n4 n5 n6 HDR HDR0 b8
                  go_wp2
                  go_roundw
                  case rel => exact ⟨j + 1, by omega, by go_num, HB8⟩
                  case measure => simp [intOf]; omega
                · rw [if_neg hout] at CS
                  have CL : Hid (∀ W, Below w7.heap.size w7 W → Calls Try.prog 25 #[.agg #[.int .u64 id, .int .i64 dd], .agg #[.int .u64 x1, .int .i64 u1']] W fun e w' => e = .returned (.bool false) ∧ Below w7.heap.size w7 w' ∧ (w'.cell? ⟨xb, 0, none⟩ = some (.int .u64 id) ∧ w'.cell? ⟨xb, 1, none⟩ = some (.int .i64 dd)) ∧ w'.cell? ⟨g0 + 1, 1, none⟩ = some (.int .i64 (m : Int)) ∧ w'.cell? ⟨b1, o1 + jl * 2, none⟩ = some (.int .u64 x1) ∧ w'.cell? ⟨b1, o1 + jl * 2 + 1, none⟩ = some (.int .i64 u1')) := Lib.hid (fun W h => (less_any id dd x1 u1' W).mono fun e w' hh => by
                    obtain ⟨h1, rfl⟩ := hh
                    have hk := h.trans ((below_one (below_one (Below.refl W.heap.size W) (.cells #[.int .u64 id, .int .i64 dd] 45)) (.cells #[.int .u64 x1, .int .i64 u1'] 45)).mono h.size)
                    rw [hls] at h1
                    exact ⟨h1, hk, HS2.out _ hk⟩)
                  have g1 : decide ((AS.length : Int) < (m : Int)) = false := decide_eq_false (by omega)
                  have g2 : decide (AS.length < m) = false := decide_eq_false (by omega)
                  have hjl := HJL.out
                  have hap := HAP.out
                  have i1 : (AS.length : Int) - 1 = (jl : Int) := by omega
                  have i2 : IntKind.i64.wrap ((AS.length : Int) - 1) = (jl : Int) := by rw [i1]; exact IntWalk.i64_in _ (by omega)
                  have i3 : IntKind.i64.wrap (jl : Int) = (jl : Int) := IntWalk.i64_in _ (by omega)
                  have y2 : (0 : Int) ≤ (jl : Int) := by omega
                  have y3 : (jl : Int) < (AS.length : Int) := by omega
                  clear hout hls hjl hap hlen
                  go_wp2
                  go_region_held3 (fun w' => (w'.cell? ⟨xb, 0, none⟩ = some (.int .u64 id) ∧ w'.cell? ⟨xb, 1, none⟩ = some (.int .i64 dd)) ∧ w'.cell? ⟨g0 + 1, 1, none⟩ = some (.int .i64 (m : Int)) ∧ w'.cell? ⟨b1, o1 + jl * 2, none⟩ = some (.int .u64 x1) ∧ w'.cell? ⟨b1, o1 + jl * 2 + 1, none⟩ = some (.int .i64 u1'))
                    (first | exact ⟨⟨by with_reducible assumption, by with_reducible assumption⟩, by with_reducible assumption, by with_reducible assumption, by with_reducible assumption⟩ | exact HS2.out _ (below_one (by with_reducible assumption) _) | exact HS2.out _ (below_one (by with_reducible assumption) _).drew)
                    (first
                      | (go_at_call 10; (with_reducible refine (CS.out _ (by with_reducible assumption)).mono ?_); rintro e w8 ⟨rfl, b8, ⟨p0, p1⟩, p2, p3, p4⟩)
                      | (go_at_call 25; (with_reducible refine (CL.out _ (by with_reducible assumption)).mono ?_); rintro e w9 ⟨rfl, b9, ⟨p5, p6⟩, p7, p8, p9⟩)
                      | fail)
                  all_goals
                    have HB8 := Lib.hid (HB7.out.trans (b9.mono HB7.out.size))
                    clear p0 p1 p2 p3 p4 p5 p6 p7 p8 p9 n0 n1 n2 n3 n4 HDR HDR0 b8 b9
                    go_wp2
                    go_roundw
                    case rel => exact ⟨j + 1, by omega, by go_num, HB8⟩
                    case measure => simp [intOf]; omega
            · obtain rfl : j = o.length := by omega
              have e3 : decide ((o.length : Int) < (o.length : Int)) = false := decide_eq_false (by omega)
              go_wp2
              go_roundw
              case rel => exact ⟨k + 1, by omega, by go_num, HB⟩
              case measure => simp [intOf]; omega
        · obtain rfl : k = od.length := by omega
          have e2 : decide ((od.length : Int) < (OS.length : Int)) = false := decide_eq_false (by omega)
          go_wp2
          go_ret
          exact ⟨rfl, HUP.out _ (HW.out _ HB.out)⟩
end Go.Proofs.Ytfokejlancmahaa
