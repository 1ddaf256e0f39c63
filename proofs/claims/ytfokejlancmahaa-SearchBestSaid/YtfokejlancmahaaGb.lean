/- The walk of SearchBest. -/
import Derived.Test.YtfokejlancmahaaFo
import Derived.Test.YtfokejlancmahaaFp
import Derived.Test.YtfokejlancmahaaFq
import Derived.Deep.QuietTactic
import Derived.BigQuiet
namespace Go.Proofs.Ytfokejlancmahaa
open Go.Shelf Go.RowKit Go.Lib
open Go.Sort hiding Below
set_option linter.unusedVariables false
set_option linter.unusedSimpArgs false
set_option maxRecDepth 100000 in
set_option maxHeartbeats 8000000 in
theorem searchBest_main (A : Option Addr) (c : Nat) (L : List Gn) (s : Int) (B : Option Addr) (q : Nat) (v : List Int) (p0 p1 : Nat) (w : World) (hx : GGiven w A L) (hv : Rd .i8 w w.heap.size B v) (bv : ∀ n ∈ v, -128 ≤ n ∧ n ≤ 127) (hvl : v.length ≤ 140737488355328) (hp0 : p0 ≤ 255) (hp1 : p1 ≤ 255) :
    Calls Try.prog 6 #[.agg #[.slice A L.length c, .int .i64 s], .slice B v.length q, .agg #[.int .u8 (p0 : Int), .int .u8 (p1 : Int)]] w fun e w' => e = .returned (.bool true) ∧ Below w.heap.size w w' := by
  have HX := Lib.hid hx
  have HV := Lib.hid hv
  have HBV := Lib.hid bv
  have B0 : Below w.heap.size w ((w.alloc (.cells #[.slice A L.length c, .int .i64 s] 28)).alloc (.cells #[.int .u8 (p0 : Int), .int .u8 (p1 : Int)] 52)) := below_one (below_one (Below.refl _ _) _) _
  have HW0 := Lib.hid ((Whole.new w 28 #[.slice A L.length c, .int .i64 s]).alloc (.cells #[.int .u8 (p0 : Int), .int .u8 (p1 : Int)] 52))
  have HW1 : Hid (Whole ((w.alloc (.cells #[.slice A L.length c, .int .i64 s] 28)).alloc (.cells #[.int .u8 (p0 : Int), .int .u8 (p1 : Int)] 52)) (w.heap.size + 1) 52 #[.int .u8 (p0 : Int), .int .u8 (p1 : Int)]) := Lib.hid (by
    have := Whole.new (w.alloc (.cells #[.slice A L.length c, .int .i64 s] 28)) 52 #[.int .u8 (p0 : Int), .int .u8 (p1 : Int)]
    simpa using this)
  have HB0 := Lib.hid B0
  clear hx hv bv B0
  go_enter Try.func6, Try.ntmps6
  go_upto_region 1 with fail
  obtain ⟨w0, ew0⟩ : ∃ w0, (w.alloc (.cells #[.slice A L.length c, .int .i64 s] 28)).alloc (.cells #[.int .u8 (p0 : Int), .int .u8 (p1 : Int)] 52) = w0 := ⟨_, rfl⟩
  obtain ⟨g0, eg0⟩ : ∃ g0, w.heap.size = g0 := ⟨_, rfl⟩
  rw [ew0] at HW0 HW1 HB0 ⊢
  have HGG := Lib.hid eg0
  rw [eg0] at HW0 HW1 
  rw [show (Value.pointer (some ⟨w.heap.size, 0, none⟩) : Value) = .pointer (some ⟨g0, 0, none⟩) by rw [eg0]]
  rw [show (Value.pointer (some ⟨w.heap.size + 1, 0, none⟩) : Value) = .pointer (some ⟨g0 + 1, 0, none⟩) by rw [eg0]]
  clear ew0 eg0
  have KC : Hid (∀ W, Below w0.heap.size w0 W → (W.cell? ⟨g0, 0, none⟩ = some (.slice A L.length c) ∧ W.cell? ⟨g0, 1, none⟩ = some (.int .i64 s)) ∧ W.cell? ⟨g0 + 1, 0, none⟩ = some (.int .u8 (p0 : Int)) ∧ W.cell? ⟨g0 + 1, 1, none⟩ = some (.int .u8 (p1 : Int))) := Lib.hid (fun W h => by
    have z := HW0.out.below h HW0.out.lt
    have z1 := HW1.out.below h HW1.out.lt
    exact ⟨⟨z.cell 0, z.cell 1⟩, z1.cell 0, z1.cell 1⟩)
  have HUP : Hid (∀ W, Below w0.heap.size w0 W → Below w.heap.size w W) := Lib.hid (fun W h => HB0.out.trans (h.mono HB0.out.size))
  go_wp2_with fail
  refine (aliveS_any w0).mono ?_
  rintro e w1 ⟨rfl, b1⟩
  dsimp only
  have HB1 := Lib.hid b1
  clear b1
  obtain ⟨⟨y0, y1⟩, k0, k1⟩ := KC.out _ HB1.out
  go_wp2_with fail
  refine (greatS_any A c L s w1 (HX.out.below (HUP.out _ HB1.out))).mono ?_
  rintro e w2 ⟨⟨gb, rfl, hgb⟩, b2⟩
  dsimp only
  have HB2 : Hid (Below w0.heap.size w0 w2) := Lib.hid (HB1.out.trans (b2.mono HB1.out.size))
  have HGB := Lib.hid hgb
  clear y0 y1 k0 k1 b2 hgb
  obtain ⟨⟨y0, y1⟩, k0, k1⟩ := KC.out _ HB2.out
  cases gb with
  | true =>
    clear HGB
    go_wp2_with fail
    refine (aliveS_any _).mono ?_
    rintro e wz ⟨rfl, bz⟩
    dsimp only
    go_wp2
    go_ret
    exact ⟨rfl, HUP.out _ (HB2.out.trans (bz.mono HB2.out.size))⟩
  | false =>
  have HSM := Lib.hid (HGB.out rfl)
  clear HGB
  go_wp2_with fail
  refine (beyond_oneS v.length hvl w2).mono ?_
  rintro e w3' ⟨⟨bb, rfl⟩, rfl⟩
  dsimp only
  obtain ⟨w3, ew3⟩ : ∃ w3, w2.alloc (.cells #[.int .i64 (v.length : Int)] 3) = w3 := ⟨_, rfl⟩
  have HB3 : Hid (Below w0.heap.size w0 w3) := Lib.hid (HB2.out.trans ((by rw [← ew3]; exact below_one (Below.refl _ _) _ : Below w2.heap.size w2 w3).mono HB2.out.size))
  rw [ew3]
  clear ew3 y0 y1 k0 k1
  obtain ⟨⟨y0, y1⟩, k0, k1⟩ := KC.out _ HB3.out
  cases bb with
  | true =>
    go_wp2_with fail
    refine (aliveS_any _).mono ?_
    rintro e wz ⟨rfl, bz⟩
    dsimp only
    go_wp2
    go_ret
    exact ⟨rfl, HUP.out _ (HB3.out.trans (bz.mono HB3.out.size))⟩
  | false =>
  have HPL := Lib.hid (pns_len L)
  have HAR : Hid (∀ W, Below w0.heap.size w0 W → GArg W A L) := Lib.hid (fun W h => (HX.out.below (HUP.out _ h)).arg HSM.out.1)
  have HVR : Hid (∀ W, Below w0.heap.size w0 W → Rd .i8 W W.heap.size B v) := Lib.hid (fun W h => (HV.out.below (HUP.out _ h)).more (HUP.out _ h).size)
  obtain ⟨mn, hmn⟩ : ∃ mn : Nat, min (p0 : Int) (p1 : Int) = (mn : Int) := ⟨min p0 p1, by omega⟩
  obtain ⟨mx, hmx⟩ : ∃ mx : Nat, max (p0 : Int) (p1 : Int) = (mx : Int) := ⟨max p0 p1, by omega⟩
  have hm1 : mn ≤ mx := by omega
  have hm2 : mx ≤ 255 := by omega
  have hL : L.length ≤ 150 := HSM.out.2
  obtain ⟨fN, hf⟩ : ∃ fN : Nat, (mn : Int) + 1 = (fN : Int) := ⟨mn + 1, by omega⟩
  obtain ⟨FN, hF⟩ : ∃ FN : Nat, (mx : Int) + 1 = (FN : Int) := ⟨mx + 1, by omega⟩
  have hf1 : 1 ≤ fN ∧ fN ≤ 256 := by omega
  have hF1 : fN ≤ FN ∧ FN ≤ 256 := by omega
  clear hp0 hp1
  go_wp2_with fail
  refine (exact_any A c L s B q v (fN : Int) w3 (HAR.out _ HB3.out) (HVR.out _ HB3.out) HBV.out).mono ?_
  rintro e w4 ⟨Va, ca, rfl, ra, b4, hVa⟩
  dsimp only
  have HB4 : Hid (Below w0.heap.size w0 w4) := Lib.hid (HB3.out.trans (b4.mono HB3.out.size))
  have HRA := Lib.hid ra
  clear y0 y1 k0 k1 ra b4
  obtain ⟨⟨y0, y1⟩, k0, k1⟩ := KC.out _ HB4.out
  go_wp2_with fail
  refine (exact_any A c L s B q v (FN : Int) w4 (HAR.out _ HB4.out) (HVR.out _ HB4.out) HBV.out).mono ?_
  rintro e w5 ⟨Vb, cb, rfl, rb, b5, hVb⟩
  dsimp only
  have HB45 := Lib.hid b5
  have HB5 : Hid (Below w0.heap.size w0 w5) := Lib.hid (HB4.out.trans (b5.mono HB4.out.size))
  have HRB := Lib.hid rb
  clear y0 y1 k0 k1 rb b5
  obtain ⟨⟨y0, y1⟩, k0, k1⟩ := KC.out _ HB5.out
  cases hM : mayS (pns L) s v with
  | false =>
    obtain ⟨ea, eb⟩ := exact_not (k := (fN : Int)) hM
    obtain ⟨ea', eb'⟩ := exact_not (k := (FN : Int)) hM
    rw [ea, eb, ea', eb']
    clear HRA HRB hVa hVb ea eb ea' eb' hM
    go_wp2
    go_ret
    exact ⟨rfl, HUP.out _ HB5.out⟩
  | true =>
  clear hf hF
  obtain ⟨ea, eb⟩ := exact_all (k := fN) hM (by omega) (by omega)
  obtain ⟨ea', eb'⟩ := exact_all (k := FN) hM (by omega) (by omega)
  rw [ea, eb, ea', eb', show errG true = 0 from rfl]
  rw [eb] at hVa
  rw [eb'] at hVb
  rw [ea] at HRA
  rw [ea'] at HRB
  obtain ⟨ga, rfl⟩ := hVa rfl
  obtain ⟨gb, rfl⟩ := hVb rfl
  have HMS := Lib.hid (mayS_yes hM)
  have HUPA := Lib.hid (allH_up (pns L) v)
  have HIDS := Lib.hid (allH_ids v HMS.out.nd)
  have HLEN := Lib.hid (allH_len (pns L) v)
  have HMEM : Hid (∀ x, x ∈ allH (pns L) v ↔ ∃ p, p < (pns L).length ∧ x = hitP (pns L) v p) := Lib.hid (fun x => allH_mem)
  rw [show srt (hlP (pns L) v (List.range (pns L).length)) = allH (pns L) v from rfl] at HRA HRB ⊢
  obtain ⟨la, hla⟩ : ∃ la, ((allH (pns L) v).take fN).length = la := ⟨_, rfl⟩
  obtain ⟨lb, hlb⟩ : ∃ lb, ((allH (pns L) v).take FN).length = lb := ⟨_, rfl⟩
  have hla2 : la = min fN L.length := by rw [← hla, List.length_take, HLEN.out, HPL.out]
  have hlb2 : lb = min FN L.length := by rw [← hlb, List.length_take, HLEN.out, HPL.out]
  rw [hla] at HRA ⊢
  rw [hlb] at HRB ⊢
  have HLA := Lib.hid hla
  have HLB := Lib.hid hlb
  have hmin : min (fN : Int) (L.length : Int) = (la : Int) := by omega
  have hle : (la : Int) ≤ (lb : Int) := by omega
  have hle0 : (0 : Int) ≤ (la : Int) := by omega
  have hcb : (la : Int) ≤ (cb : Int) := by
    have := HRB.out
    rcases this.2 with ⟨h1, _⟩ | ⟨g', cap, cur, h1, _, _, h4, _⟩
    · cases h1
    · injection h1 with _ _ q3; omega
  have hl150 : la ≤ 150 := by omega
  have hlb150 : lb ≤ 150 := by omega
  have hN1 : L.length = 0 ∨ 0 < la := by omega
  have HN1 := Lib.hid hN1
  clear hla hlb hla2 hlb2 ea eb ea' eb' hVa hVb hM hN1
  have HTB : Hid (∀ W, Below w5.heap.size w5 W → RdH W W.heap.size (some ⟨ga, 0, none⟩) ((allH (pns L) v).take fN) ∧ RdH W W.heap.size (some ⟨gb, 0, none⟩) ((allH (pns L) v).take FN)) := Lib.hid (fun W h => by
    exact ⟨own_rdHS (own_below HRA.out (HB45.out.trans (h.mono HB45.out.size))), own_rdHS (own_below HRB.out h)⟩)
  have HTR := Lib.hid (fun W (h : Below w5.heap.size w5 W) => trueHits_yes A c L s B q v (some ⟨gb, 0, none⟩) cb ((allH (pns L) v).take FN) W (HAR.out _ (HB5.out.trans (h.mono HB5.out.size))) (HVR.out _ (HB5.out.trans (h.mono HB5.out.size))) HBV.out HMS.out (HTB.out W h).2 (fun x hx => (HMEM.out x).1 (List.mem_of_mem_take hx)) (fun i x y hx hy => up_strict (up_take HUPA.out _) (ids_take HIDS.out _) (Nat.lt_succ_self i) hx hy) (by rw [HLB.out]; omega))
  rw [HLB.out] at HTR
  go_wp2_with fail
  refine (HTR.out w5 (Below.refl _ _)).mono ?_
  rintro e w6 ⟨rfl, b6⟩
  dsimp only
  have HB6 := Lib.hid b6
  clear b6
  have HSH := Lib.hid (sameTrue (some ⟨gb, 0, none⟩) (some ⟨ga, 0, none⟩) cb ca ((allH (pns L) v).take fN) la HLA.out.symm w6 w6.heap.size (by
    have := (HTB.out w6 HB6.out).2.take la
    have e : ((allH (pns L) v).take FN).take la = (allH (pns L) v).take fN := by
      have h1 := HLA.out
      rw [List.take_take, ← h1, List.length_take, List.take_eq_take_iff]
      omega
    rwa [e] at this) (HTB.out w6 HB6.out).1 (by rw [HLA.out]; omega))
  clear y0 y1 k0 k1
  obtain ⟨⟨y0, y1⟩, k0, k1⟩ := KC.out _ (HB5.out.trans (HB6.out.mono HB5.out.size))
  go_wp2_with fail
  refine HSH.out.mono ?_
  rintro e w7 ⟨rfl, nq, hw7⟩
  dsimp only
  have HB7 : Hid (Below w5.heap.size w5 w7) := Lib.hid (HB6.out.trans ((by rw [hw7]; exact below_drewN (Below.refl _ _) nq : Below w6.heap.size w6 w7).mono HB6.out.size))
  clear hw7 y0 y1 k0 k1 HSH HTR
  obtain ⟨⟨y0, y1⟩, _, _⟩ := KC.out _ (HB5.out.trans (HB7.out.mono HB5.out.size))
  go_wp2
  go_loopw [13, 14, 15, 16, 17] (fun i _ _ _ _ wr => ∃ k : Nat, k ≤ L.length ∧ i = .int .i64 k ∧ Hid (Below w5.heap.size w5 wr)) (fun i _ _ _ _ _ => L.length - (intOf i).toNat)
  case atStart => exact ⟨0, by omega, rfl, HB7⟩
  case round =>
    clear HB7 y0 y1
    obtain ⟨k, hk, rfl, HB⟩ := hrel
    have HW := Lib.hid (fun W (h : Below w5.heap.size w5 W) => HB5.out.trans (h.mono HB5.out.size))
    obtain ⟨⟨y0, y1⟩, _, _⟩ := KC.out _ (HW.out _ HB.out)
    by_cases hlt : k < L.length
    · have e1 : decide ((k : Int) < (L.length : Int)) = true := decide_eq_true (by omega)
      have hkg : k < (pns L).length := by rw [HPL.out]; exact hlt
      obtain ⟨bb, off, id, a1, c1, v', a2, c2, o, rfl, hBg, m1, m2, m3, hr1, hr2, hvv⟩ := HX.out.rd.at_ hlt
      have hna : nAt (pns L) k = (id, v', o) := nAt_get (pns_at hvv.out)
      have hmem : (id, v', o) ∈ pns L := by rw [← hna]; exact nAt_mem hkg
      have hl1 : v.length = v'.length := (HMS.out.same _ hmem).symm
      have hd1 : 1 ≤ v'.length ∧ v'.length ≤ 64 := by rw [← hl1]; exact HMS.out.dim
      have hb8 := ((HAR.out _ HB3.out).ok _ hmem).2.1
      have hHI : hitP (pns L) v k = (id, far v' v) := by unfold hitP; rw [hna]
      have HHO := Lib.hid (hit_ok HMS.out (HAR.out _ HB3.out).ok HBV.out hkg)
      rw [hHI] at HHO
      have hla0 : 0 < la := by rcases HN1.out with h | h <;> omega
      obtain ⟨j, hj⟩ : ∃ j, la = j + 1 := ⟨la - 1, by omega⟩
      have hxin : (id, far v' v) ∈ allH (pns L) v := (HMEM.out _).2 ⟨k, hkg, hHI.symm⟩
      obtain ⟨lx, hlx⟩ : ∃ lx, ((allH (pns L) v).take fN)[((allH (pns L) v).take fN).length - 1]? = some lx := by
        have := HLA.out
        exact ⟨_, List.getElem?_eq_getElem (by omega)⟩
      have htl := take_last HUPA.out HIDS.out hlx hxin
      have hin : shN (ids [(id, far v' v)]) (ids ((allH (pns L) v).take fN)) = if (id, far v' v) ∈ (allH (pns L) v).take fN then 1 else 0 := by
        rw [show ids [(id, far v' v)] = [id] from rfl, sh_one]
        have := ids_hit (v := v) HMS.out.nd (ps := []) (by simp) (xs := (allH (pns L) v).take fN) (fun x hx => (HMEM.out x).1 (List.mem_of_mem_take hx)) hkg
        rw [hHI] at this
        simp only [this]
      obtain ⟨bi, hbi, hls⟩ : ∃ bi : Bool, (((shN (ids [(id, far v' v)]) (ids ((allH (pns L) v).take fN)) : Nat) : Int) == 1) = bi ∧ ltH lx (id, far v' v) = !bi := by
        by_cases hm : (id, far v' v) ∈ (allH (pns L) v).take fN
        · exact ⟨true, by rw [hin, if_pos hm]; rfl, by rw [htl.1 hm]; rfl⟩
        · exact ⟨false, by rw [hin, if_neg hm]; rfl, by rw [(htl.2 hm).1]; rfl⟩
      have HR : Hid (∀ W, Below w5.heap.size w5 W → W.cell? ⟨bb, off + k * 3, none⟩ = some (.int .u64 id) ∧ W.cell? ⟨bb, off + k * 3 + 1, none⟩ = some (.slice a1 v'.length c1) ∧ W.cell? ⟨bb, off + k * 3 + 2, none⟩ = some (.slice a2 o.length c2) ∧ W.cell? ⟨ga, j * 2, none⟩ = some (.int .u64 lx.1) ∧ W.cell? ⟨ga, j * 2 + 1, none⟩ = some (.int .i64 lx.2)) := Lib.hid (fun W h => by
        have hW := HUP.out _ (HW.out W h)
        obtain ⟨b0, off0, x, y, hA0, _, kc1, kc2, hv2⟩ := (HTB.out W h).1.at_ (i := j) (by have := HLA.out; omega)
        simp only [Option.some.injEq, Addr.mk.injEq, and_true] at hA0
        obtain ⟨rfl, rfl⟩ := hA0
        rw [Nat.zero_add] at kc1 kc2
        have : (x, y) = lx := by
          have h1 := hv2.out
          rw [HLA.out, hj, Nat.add_sub_cancel, h1] at hlx
          exact Option.some.inj hlx
        subst this
        exact ⟨(hW.cell (p := ⟨bb, off + k * 3, none⟩) hBg).trans m1, (hW.cell (p := ⟨bb, off + k * 3 + 1, none⟩) hBg).trans m2, (hW.cell (p := ⟨bb, off + k * 3 + 2, none⟩) hBg).trans m3, kc1, kc2⟩)
      have CD := Lib.hid (fun W (h : Below w5.heap.size w5 W) => dist_yes a1 B c1 q v' v hd1.1 hd1.2 hl1 v.length hl1 W ((hr1.below (HUP.out _ (HW.out W h))).more (HUP.out _ (HW.out W h)).size) (HVR.out _ (HW.out W h)) hb8 HBV.out)
      have HOA : Hid (∀ x ∈ (allH (pns L) v).take fN, HitOk x) := Lib.hid (fun x hx => by
        obtain ⟨p, hp, rfl⟩ := (HMEM.out x).1 (List.mem_of_mem_take hx)
        exact hit_ok HMS.out (HAR.out _ HB3.out).ok HBV.out hp)
      obtain ⟨dd, edd⟩ : ∃ dd, far v' v = dd := ⟨_, rfl⟩
      rw [edd] at CD HHO hbi hls
      obtain ⟨SN, eSN⟩ : ∃ SN, shN (ids [(id, dd)]) (ids ((allH (pns L) v).take fN)) = SN := ⟨_, rfl⟩
      have HSN := Lib.hid eSN
      rw [eSN] at hbi
      have HBI := Lib.hid hbi
      have HLS := Lib.hid hls
      have x1 : (0 : Int) ≤ (k : Int) := by omega
      have x2 : (k : Int) < (L.length : Int) := by omega
      obtain ⟨r0, r1, r2, _, _⟩ := HR.out _ HB.out
      have i1 : (la : Int) - 1 = (j : Int) := by omega
      have i2 : IntKind.i64.wrap ((la : Int) - 1) = (j : Int) := by rw [i1]; exact IntWalk.i64_in _ (by omega)
      have i3 : IntKind.i64.wrap (j : Int) = (j : Int) := IntWalk.i64_in _ (by omega)
      have y2 : (0 : Int) ≤ (j : Int) := by omega
      have y3 : (j : Int) < (la : Int) := by omega
      have g1 : decide ((0 : Int) < (la : Int)) = true := decide_eq_true (by omega)
      have g2 : decide (0 < la) = true := decide_eq_true (by omega)
      clear hna hmem hl1 hd1 hb8 hHI hxin hlx htl hin m1 m2 m3 hr1 hr2 hvv hBg hkg hbi hls edd eSN hj hla0
      go_upto_region 16 with (go_at_call 24; refine (CD.out _ HB.out).mono ?_; rintro e w8 ⟨rfl, b8⟩; have HB8 : Hid (Below w5.heap.size w5 w8) := Lib.hid (HB.out.trans (b8.mono HB.out.size)); clear b8 r0 r1 r2 y0 y1; obtain ⟨r0, r1, r2, _, _⟩ := HR.out _ HB8.out; obtain ⟨⟨y0, y1⟩, _, _⟩ := KC.out _ (HW.out _ HB8.out))
      obtain ⟨w9, ew9⟩ : ∃ w9, w8.alloc (.cells #[.int .u64 id, .int .i64 dd] 45) = w9 := ⟨_, rfl⟩
      obtain ⟨xb, exb⟩ : ∃ xb, w8.heap.size = xb := ⟨_, rfl⟩
      have HZ : Hid (Whole w9 xb 45 #[.int .u64 id, .int .i64 dd]) := Lib.hid (by rw [← ew9, ← exb]; exact Whole.new w8 _ _)
      have HB9 : Hid (Below w5.heap.size w5 w9) := Lib.hid (HB8.out.trans ((by rw [← ew9]; exact below_one (Below.refl _ _) _ : Below w8.heap.size w8 w9).mono HB8.out.size))
      rw [ew9, exb]
      have q0 := HZ.out.cell 0
      have q1 := HZ.out.cell 1
      clear ew9 exb r0 r1 r2 y0 y1
      go_wp2_with fail
      have bT : Below w9.heap.size w9 (w9.alloc (.cells #[.int .u64 id, .int .i64 dd] 45)) := below_one (Below.refl _ _) _
      refine (shared_any (some ⟨w9.heap.size, 0, none⟩) (some ⟨ga, 0, none⟩) 1 ca [(id, dd)] ((allH (pns L) v).take fN) 1 la rfl HLA.out.symm _ (rdH_one w9 id dd) (HTB.out _ (HB9.out.trans (bT.mono HB9.out.size))).1 (fun x hx => by rw [List.mem_singleton] at hx; subst hx; exact HHO.out) HOA.out (by simp) (by rw [HLA.out]; omega)).mono ?_
      rintro e w10 ⟨rfl, b10⟩
      rw [HSN.out]
      dsimp only
      have HB910 : Hid (Below w9.heap.size w9 w10) := Lib.hid (bT.trans (b10.mono bT.size))
      have HB10 : Hid (Below w5.heap.size w5 w10) := Lib.hid (HB9.out.trans (HB910.out.mono HB9.out.size))
      clear bT b10 q0 q1
      have KS : Hid (∀ W, Below w10.heap.size w10 W → (W.cell? ⟨ga, j * 2, none⟩ = some (.int .u64 lx.1) ∧ W.cell? ⟨ga, j * 2 + 1, none⟩ = some (.int .i64 lx.2)) ∧ W.cell? ⟨xb, 0, none⟩ = some (.int .u64 id) ∧ W.cell? ⟨xb, 1, none⟩ = some (.int .i64 dd)) := Lib.hid (fun W h => by
        obtain ⟨_, _, _, k4, k5⟩ := HR.out W (HB10.out.trans (h.mono HB10.out.size))
        have z := HZ.out.below (HB910.out.trans (h.mono HB910.out.size)) HZ.out.lt
        exact ⟨⟨k4, k5⟩, z.cell 0, z.cell 1⟩)
      have CL : Hid (∀ W, Below w10.heap.size w10 W → Calls Try.prog 25 #[.agg #[.int .u64 lx.1, .int .i64 lx.2], .agg #[.int .u64 id, .int .i64 dd]] W fun e w' => e = .returned (.bool (!bi)) ∧ Below w10.heap.size w10 w' ∧ (w'.cell? ⟨ga, j * 2, none⟩ = some (.int .u64 lx.1) ∧ w'.cell? ⟨ga, j * 2 + 1, none⟩ = some (.int .i64 lx.2)) ∧ w'.cell? ⟨xb, 0, none⟩ = some (.int .u64 id) ∧ w'.cell? ⟨xb, 1, none⟩ = some (.int .i64 dd)) := Lib.hid (fun W h => (less_any lx.1 lx.2 id dd W).mono fun e w' hh => by
        obtain ⟨h1, rfl⟩ := hh
        have hk := h.trans ((below_one (below_one (Below.refl W.heap.size W) (.cells #[.int .u64 lx.1, .int .i64 lx.2] 45)) (.cells #[.int .u64 id, .int .i64 dd] 45)).mono h.size)
        rw [show ((lx.1, lx.2) : Int × Int) = lx from rfl, HLS.out] at h1
        exact ⟨h1, hk, KS.out _ hk⟩)
      have hsn : ((SN : Int) == 1) = bi := HBI.out
      have hbb : (bi == !bi) = false := by cases bi <;> rfl
      have HDR : Below w10.heap.size w10 w10.drew := (Below.refl _ _).drew
      obtain ⟨⟨p1, p2⟩, p3, p4⟩ := KS.out _ HDR
      go_wp2
      first
      | (go_region_held3 (fun w' => (w'.cell? ⟨ga, j * 2, none⟩ = some (.int .u64 lx.1) ∧ w'.cell? ⟨ga, j * 2 + 1, none⟩ = some (.int .i64 lx.2)) ∧ w'.cell? ⟨xb, 0, none⟩ = some (.int .u64 id) ∧ w'.cell? ⟨xb, 1, none⟩ = some (.int .i64 dd))
        (first | exact ⟨⟨by with_reducible assumption, by with_reducible assumption⟩, by with_reducible assumption, by with_reducible assumption⟩ | exact ⟨by with_reducible assumption, by with_reducible assumption⟩)
        (first
          | (go_at_call 25; (with_reducible refine (CL.out _ (by with_reducible assumption)).mono ?_); rintro e w11 ⟨rfl, b11, z1, z2⟩)
          | fail))
      | fail
      all_goals
        have HB11 := Lib.hid (HB10.out.trans (b11.mono HB10.out.size))
        clear z1 z2 p1 p2 p3 p4 HDR b11
        go_wp2
        go_roundw
        case rel => exact ⟨k + 1, by omega, by go_num, HB11⟩
        case measure => simp [intOf]; omega
    · obtain rfl : k = L.length := by omega
      have e1 : decide ((L.length : Int) < (L.length : Int)) = false := decide_eq_false (by omega)
      go_wp2
      go_ret
      exact ⟨rfl, HUP.out _ (HW.out _ HB.out)⟩
end Go.Proofs.Ytfokejlancmahaa
