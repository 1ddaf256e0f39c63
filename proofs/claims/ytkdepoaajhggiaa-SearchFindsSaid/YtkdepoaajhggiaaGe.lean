/- The walk of SearchFinds. -/
import Derived.Test.YtkdepoaajhggiaaFo
import Derived.Test.YtkdepoaajhggiaaFp
import Derived.Test.YtkdepoaajhggiaaFq
import Derived.Test.YtkdepoaajhggiaaFv
import Derived.Test.YtkdepoaajhggiaaKs
import Derived.Test.YtkdepoaajhggiaaFu
import Derived.Deep.QuietTactic
import Derived.BigQuiet
namespace Go.Proofs.Ytkdepoaajhggiaa
open Go.Shelf Go.RowKit Go.Lib
open Go.Sort hiding Below
set_option linter.unusedVariables false
set_option linter.unusedSimpArgs false
theorem wpQuiet_stepR {P : Program} {ops : Array Oper} {C : World → Prop} {Q : Act → Prop} {a : Act} {o : Oper} {rest : List Oper}
    (h : ∀ K R : Act → Prop, (∀ a, R a → K a) → R = wpQuiet P ops C Q rest → if Region.wanted o (yielded ops a.tmps) then o.quiet P a C K else K (a.put o.dst undef)) : wpQuiet P ops C Q (o :: rest) a :=
  wpQuiet_step fun K hK => h K _ hK rfl
set_option maxRecDepth 100000 in
set_option maxHeartbeats 8000000 in
theorem searchFinds_main (A : Option Addr) (c : Nat) (L : List Gn) (s : Int) (B : Option Addr) (q : Nat) (v : List Int) (p0 p1 : Int) (w : World) (hx : GGiven w A L) (hv : Rd .i8 w w.heap.size B v) (bv : ∀ n ∈ v, -128 ≤ n ∧ n ≤ 127) (hvl : v.length ≤ 140737488355328) (hp0 : -9223372036854775808 ≤ p0 ∧ p0 ≤ 9223372036854775807) (hp1 : -9223372036854775808 ≤ p1 ∧ p1 ≤ 9223372036854775807) :
    Calls Try.prog 3 #[.agg #[.slice A L.length c, .int .i64 s], .slice B v.length q, .agg #[.int .i64 p0, .int .i64 p1]] w fun e w' => e = .returned (.bool true) ∧ Below w.heap.size w w' := by
  have HX := Lib.hid hx
  have HV := Lib.hid hv
  have HBV := Lib.hid bv
  have B0 : Below w.heap.size w ((w.alloc (.cells #[.slice A L.length c, .int .i64 s] 24)).alloc (.cells #[.int .i64 p0, .int .i64 p1] 26)) := below_one (below_one (Below.refl _ _) _) _
  have HW0 := Lib.hid ((Whole.new w 24 #[.slice A L.length c, .int .i64 s]).alloc (.cells #[.int .i64 p0, .int .i64 p1] 26))
  have HW1 : Hid (Whole ((w.alloc (.cells #[.slice A L.length c, .int .i64 s] 24)).alloc (.cells #[.int .i64 p0, .int .i64 p1] 26)) (w.heap.size + 1) 26 #[.int .i64 p0, .int .i64 p1]) := Lib.hid (by
    have := Whole.new (w.alloc (.cells #[.slice A L.length c, .int .i64 s] 24)) 26 #[.int .i64 p0, .int .i64 p1]
    simpa using this)
  have HB0 := Lib.hid B0
  clear hx hv bv B0
  go_enter Try.func3, Try.ntmps3
  go_upto_region 1 with fail
  obtain ⟨w0, ew0⟩ : ∃ w0, (w.alloc (.cells #[.slice A L.length c, .int .i64 s] 24)).alloc (.cells #[.int .i64 p0, .int .i64 p1] 26) = w0 := ⟨_, rfl⟩
  obtain ⟨g0, eg0⟩ : ∃ g0, w.heap.size = g0 := ⟨_, rfl⟩
  rw [ew0] at HW0 HW1 HB0 ⊢
  have HGG := Lib.hid eg0
  rw [eg0] at HW0 HW1 
  rw [show (Value.pointer (some ⟨w.heap.size, 0, none⟩) : Value) = .pointer (some ⟨g0, 0, none⟩) by rw [eg0]]
  rw [show (Value.pointer (some ⟨w.heap.size + 1, 0, none⟩) : Value) = .pointer (some ⟨g0 + 1, 0, none⟩) by rw [eg0]]
  clear ew0 eg0
  have KC : Hid (∀ W, Below w0.heap.size w0 W → (W.cell? ⟨g0, 0, none⟩ = some (.slice A L.length c) ∧ W.cell? ⟨g0, 1, none⟩ = some (.int .i64 s)) ∧ W.cell? ⟨g0 + 1, 0, none⟩ = some (.int .i64 p0) ∧ W.cell? ⟨g0 + 1, 1, none⟩ = some (.int .i64 p1)) := Lib.hid (fun W h => by
    have z := HW0.out.below h HW0.out.lt
    have z1 := HW1.out.below h HW1.out.lt
    exact ⟨⟨z.cell 0, z.cell 1⟩, z1.cell 0, z1.cell 1⟩)
  have HUP : Hid (∀ W, Below w0.heap.size w0 W → Below w.heap.size w W) := Lib.hid (fun W h => HB0.out.trans (h.mono HB0.out.size))
  go_wp2_with fail
  refine (aliveS_any w0).mono ?_
  rintro e w1 ⟨rfl, b1⟩
  dsimp only
  have HB1 := Lib.hid b1
  clear b1
  obtain ⟨⟨y0, y1⟩, k0, k1⟩ := KC.out _ HB1.out
  go_wp2_with fail
  refine (greatS_any A c L s w1 (HX.out.below (HUP.out _ HB1.out))).mono ?_
  rintro e w2 ⟨⟨gb, rfl, hgb⟩, b2⟩
  dsimp only
  have HB2 : Hid (Below w0.heap.size w0 w2) := Lib.hid (HB1.out.trans (b2.mono HB1.out.size))
  have HGB := Lib.hid hgb
  clear y0 y1 k0 k1 b2 hgb
  obtain ⟨⟨y0, y1⟩, k0, k1⟩ := KC.out _ HB2.out
  cases gb with
  | true =>
    clear HGB
    go_wp2_with fail
    refine (aliveS_any _).mono ?_
    rintro e wz ⟨rfl, bz⟩
    dsimp only
    go_wp2
    go_ret
    exact ⟨rfl, HUP.out _ (HB2.out.trans (bz.mono HB2.out.size))⟩
  | false =>
  have HSM := Lib.hid (HGB.out rfl)
  clear HGB
  go_wp2_with fail
  refine (beyond_oneS v.length hvl w2).mono ?_
  rintro e w3' ⟨⟨bb, rfl⟩, rfl⟩
  dsimp only
  obtain ⟨w3, ew3⟩ : ∃ w3, w2.alloc (.cells #[.int .i64 (v.length : Int)] 3) = w3 := ⟨_, rfl⟩
  have HB3 : Hid (Below w0.heap.size w0 w3) := Lib.hid (HB2.out.trans ((by rw [← ew3]; exact below_one (Below.refl _ _) _ : Below w2.heap.size w2 w3).mono HB2.out.size))
  rw [ew3]
  clear ew3 y0 y1 k0 k1
  obtain ⟨⟨y0, y1⟩, k0, k1⟩ := KC.out _ HB3.out
  cases bb with
  | true =>
    go_wp2_with fail
    refine (aliveS_any _).mono ?_
    rintro e wz ⟨rfl, bz⟩
    dsimp only
    go_wp2
    go_ret
    exact ⟨rfl, HUP.out _ (HB3.out.trans (bz.mono HB3.out.size))⟩
  | false =>
  have HPL := Lib.hid (pns_len L)
  have HAR : Hid (∀ W, Below w0.heap.size w0 W → GArg W A L) := Lib.hid (fun W h => (HX.out.below (HUP.out _ h)).arg HSM.out.1)
  have HVR : Hid (∀ W, Below w0.heap.size w0 W → Rd .i8 W W.heap.size B v) := Lib.hid (fun W h => (HV.out.below (HUP.out _ h)).more (HUP.out _ h).size)
  cases hBM : beamB (pns L) s v p0 p1 with
  | false =>
    obtain ⟨ea, eo⟩ := beam_no hBM
    go_wp2_with fail
    refine (beam_any A c L s B q v p0 p1 w3 (HAR.out _ HB3.out) (HVR.out _ HB3.out) HBV.out).mono ?_
    rintro e w4 ⟨Va, ca, Vl, cl, rfl, ra, rl, b4⟩
    dsimp only
    have HB4 : Hid (Below w0.heap.size w0 w4) := Lib.hid (HB3.out.trans (b4.mono HB3.out.size))
    rw [ea, eo, hBM, show errG false = 1 from rfl]
    clear y0 y1 k0 k1 ra rl b4
    go_wp2
    go_ret
    exact ⟨rfl, HUP.out _ HB4.out⟩
  | true =>
  obtain ⟨hM, k, m, rfl, rfl, hm1, hm2, hm3⟩ := beam_was2 hBM
  have HMS := Lib.hid hM
  have HOKG : Hid (∀ x ∈ pns L, PnOk x) := Lib.hid (HAR.out _ HB3.out).ok
  obtain ⟨AS, od, ⟨hb1, hb2, hb4⟩, ⟨hn1, hn2, hn3⟩, has, hlt0, hst, hnd, hod⟩ := fin_facts hM hm1 hm2 hm3
  have HAS := Lib.hid has
  have HLT := Lib.hid hlt0
  have HST := Lib.hid hst
  have HND := Lib.hid hnd
  have HOD := Lib.hid hod
  have HM1 := Lib.hid (And.intro hm1 hm2)
  have HPO := Lib.hid hn2
  have hL2 := HSM.out.2
  have hPL2 := HPL.out
  have CBM := Lib.hid (fun W (h : Below w0.heap.size w0 W) => beam_any A c L s B q v ((k : Nat) : Int) ((m : Nat) : Int) W (HAR.out _ h) (HVR.out _ h) HBV.out)
  rw [hb1, hb2, hb4, show errG true = 0 from rfl] at CBM
  have CHO := Lib.hid (fun W (h : Below w0.heap.size w0 W) => hops_any A c L s W (HAR.out _ h))
  rw [show holdsB (pns L) s = true from decide_eq_true hM.ho, show hopsA (pns L) s = hopsL (pns L) s by unfold hopsA; rw [show holdsB (pns L) s = true from decide_eq_true hM.ho]; rfl, show errG true = 0 from rfl] at CHO
  obtain ⟨HS, eHS⟩ : ∃ HS, hopsL (pns L) s = HS := ⟨_, rfl⟩
  have HHS := Lib.hid eHS
  rw [eHS] at CHO
  clear hBM hM hm1 hm2 hb1 hb2 hb4 has hlt0 hst hnd hod hn2 eHS
  obtain ⟨OS, eOS⟩ : ∃ OS, natS od = OS := ⟨_, rfl⟩
  have HOS := Lib.hid eOS
  rw [eOS] at CBM
  have HOL : Hid (OS.length = od.length) := Lib.hid (by rw [← eOS]; unfold natS; rw [List.length_map])
  clear eOS
  go_wp2_with fail
  refine (CBM.out w3 HB3.out).mono ?_
  rintro e w4 ⟨Va, ca, Vl, cl, rfl, ra, rl, b4⟩
  dsimp only
  have HB4 : Hid (Below w0.heap.size w0 w4) := Lib.hid (HB3.out.trans (b4.mono HB3.out.size))
  have HRA := Lib.hid ra
  have HRL := Lib.hid rl
  clear y0 y1 k0 k1 ra rl b4
  obtain ⟨⟨y0, y1⟩, k0, k1⟩ := KC.out _ HB4.out
  go_wp2_with fail
  refine (CHO.out w4 HB4.out).mono ?_
  rintro e w5 ⟨Vh, ch, rfl, rh, b5⟩
  dsimp only
  have HB45 := Lib.hid b5
  have HB5 : Hid (Below w0.heap.size w0 w5) := Lib.hid (HB4.out.trans (b5.mono HB4.out.size))
  have HRH := Lib.hid rh
  clear y0 y1 k0 k1 rh b5 CBM CHO
  have HW := Lib.hid (fun W (h : Below w5.heap.size w5 W) => HB5.out.trans (h.mono HB5.out.size))
  have HTB : Hid (∀ W, Below w5.heap.size w5 W → (RdH W W.heap.size Va AS ∧ Rd .i64 W W.heap.size Vh HS) ∧ Rd .i64 W W.heap.size Vl OS) := Lib.hid (fun W h =>
    have h2 := HB45.out.trans (h.mono HB45.out.size)
    ⟨⟨own_rdHS (own_below HRA.out h2), own_rdK (own_below HRH.out h)⟩, own_rdK (own_below HRL.out h2)⟩)
  have HTR : Hid (∀ W, Below w5.heap.size w5 W → Calls Try.prog 10 #[.agg #[.slice A L.length c, .int .i64 s], .slice B v.length q, .slice Va AS.length ca] W fun e w' => e = .returned (.bool true) ∧ Below w5.heap.size w5 w') := Lib.hid (fun W h => (trueHits_yes A c L s B q v Va ca AS W (HAR.out _ (HW.out W h)) (HVR.out _ (HW.out W h)) HBV.out HMS.out (HTB.out W h).1.1 (fun x hx => by
    obtain ⟨p, hp, _, e⟩ := HAS.out x hx
    exact ⟨p, hp, e⟩) HLT.out (by have := HM1.out; omega)).mono fun e w' hh => ⟨hh.1, h.trans (hh.2.mono h.size)⟩)
  have g1 : decide ((k : Int) < (AS.length : Int)) = false := decide_eq_false (by omega)
  have g1n : decide (k < AS.length) = false := decide_eq_false (by omega)
  obtain ⟨ne, hne1, hne2⟩ : ∃ ne : Bool, decide (0 < (AS.length : Int)) = ne ∧ decide (0 < (L.length : Int)) = ne := by
    refine ⟨decide (0 < (L.length : Int)), ?_, rfl⟩
    have h1 : (0 < (AS.length : Int)) ↔ (0 < (L.length : Int)) := by have := HPO.out; omega
    exact decide_eq_decide.2 h1
  clear HPO
  obtain ⟨fh, HFH⟩ : ∃ fh : Nat → Int, Hid ((∀ p ∈ od, p < (pns L).length ∧ 0 ≤ fh p) ∧ (∀ p, p < (pns L).length → HS[p]? = some (fh p)) ∧ HS.length = (pns L).length) := ⟨hopI (pns L) s.toNat, Lib.hid ⟨HOD.out, fun p hp => by rw [← HHS.out]; exact hopsL_at hp, by rw [← HHS.out, hopsL_len]⟩⟩
  have HDR := (Below.refl w5.heap.size w5).drew
  obtain ⟨⟨y0, y1⟩, k0, k1⟩ := KC.out _ (HW.out _ HDR)
  cases ne with
  | true =>
    have hLp : 0 < L.length := by simpa using hne2
    obtain ⟨hs0, lo, hlo⟩ := HST.out (by omega)
    obtain ⟨sN, rfl⟩ := Int.eq_ofNat_of_zero_le hs0
    have hol := HOL.out
    obtain ⟨bl, ol, q3, hAl, _, c3, hv3⟩ := (HTB.out _ HDR).2.at_ (i := 0) (by rw [hol, hlo]; simp)
    have hq3 : q3 = (sN : Int) := by
      have h1 := hv3.out
      rw [← HOS.out, hlo] at h1
      exact h1.symm
    subst hAl hq3
    rw [Nat.add_zero] at c3
    have x1 : (0 : Int) < (OS.length : Int) := by rw [hol, hlo]; simp
    have hol0 : 0 < OS.length := by rw [hol, hlo]; simp
    have HC3 : Hid (∀ W, Below w5.heap.size w5 W → W.cell? ⟨bl, ol, none⟩ = some (.int .i64 (sN : Int))) := Lib.hid (fun W h => by
      obtain ⟨b4, o4, q4, hA4, _, c4, h4⟩ := (HTB.out _ h).2.at_ (i := 0) hol0
      simp only [Option.some.injEq, Addr.mk.injEq, and_true] at hA4
      obtain ⟨rfl, rfl⟩ := hA4
      have h5 := hv3.out.symm.trans h4.out
      subst h5
      rwa [Nat.add_zero] at c4)
    have HS5 : Hid (∀ W, Below w5.heap.size w5 W → (W.cell? ⟨g0, 0, none⟩ = some (.slice A L.length c) ∧ W.cell? ⟨g0, 1, none⟩ = some (.int .i64 (sN : Int))) ∧ W.cell? ⟨g0 + 1, 0, none⟩ = some (.int .i64 (k : Int)) ∧ W.cell? ⟨bl, ol, none⟩ = some (.int .i64 (sN : Int))) := Lib.hid (fun W h => ⟨(KC.out _ (HW.out _ h)).1, (KC.out _ (HW.out _ h)).2.1, HC3.out W h⟩)
    have CTR : Hid (∀ W, Below w5.heap.size w5 W → Calls Try.prog 10 #[.agg #[.slice A L.length c, .int .i64 (sN : Int)], .slice B v.length q, .slice Va AS.length ca] W fun e w' => e = .returned (.bool true) ∧ Below w5.heap.size w5 w' ∧ (w'.cell? ⟨g0, 0, none⟩ = some (.slice A L.length c) ∧ w'.cell? ⟨g0, 1, none⟩ = some (.int .i64 (sN : Int))) ∧ w'.cell? ⟨g0 + 1, 0, none⟩ = some (.int .i64 (k : Int)) ∧ w'.cell? ⟨bl, ol, none⟩ = some (.int .i64 (sN : Int))) := Lib.hid (fun W h => (HTR.out W h).mono fun e w' hh => ⟨hh.1, hh.2, HS5.out _ hh.2⟩)
    have e7 : ((sN : Int) != (sN : Int)) = false := by simp
    have n1 : 0 < AS.length := by simpa using hne1
    have n2 : decide (0 < AS.length) = true := decide_eq_true n1
    have n3 : decide (0 < L.length) = true := decide_eq_true hLp
    have hod0 : 0 < od.length := by rw [hlo]; simp
    clear k1 hv3 hlo
    go_wp2
    refine wp_region_quietC (fun W => Below w5.heap.size w5 W) (by kernel_rfl) (by kernel_rfl) HDR ?_
    repeat
      with_reducible apply wpQuiet_stepR
      intro K R hK hR
      go_simp
      first
        | (refine hK _ ?_; clear hK K; subst hR)
        | (apply Exists.intro
           refine ⟨fun W hW => ?_, hK _ ?_⟩
           first
             | rfl
             | (exact HTR.out W hW)
             | (obtain ⟨⟨j0, j1⟩, j2, j3⟩ := HS5.out W hW
                go_simp
                first | rfl | exact ⟨rfl, rfl⟩)
           clear hK K
           subst hR)
    refine wpQuiet_nil ?_
    intro w6 b6
    have HB6 := Lib.hid b6
    clear b6 HDR HTR HS5 y0 y1 k0
    have hLB : L.length ≤ 150 := hL2
    have hOB : od.length ≤ L.length := by have := hn3; rwa [hPL2] at this
    have hAB : AS.length ≤ 256 := by have := HM1.out; omega
    have hmk : ∀ W : World, (Instr.makeSlice 38 (.int .i64 (L.length : Int)) (.int .i64 (L.length : Int))).run Try.prog W = .ok (.slice (some ⟨W.heap.size, 0, none⟩) L.length L.length) (W.alloc (.cells (cellsB (List.replicate L.length false)) 4)) := fun W => by
      have := run_make_row' (P := Try.prog) 38 4 (.bool false) 1 Try.underlying38 Try.info4b (by rfl) .i64 .i64 L.length (by omega) (by omega) W
      rw [cellsB_made] at this
      exact this
    obtain ⟨⟨y0, y1⟩, _, _⟩ := KC.out _ (HW.out _ HB6.out)
    go_wp2
    obtain ⟨w7, ew7⟩ : ∃ w7, w6.alloc (.cells (cellsB (List.replicate L.length false)) 4) = w7 := ⟨_, rfl⟩
    obtain ⟨qb, eqb⟩ : ∃ qb, w6.heap.size = qb := ⟨_, rfl⟩
    have HM7 : Hid (Whole w7 qb 4 (cellsB (goneL L.length (OS.take 0)))) := Lib.hid (by rw [List.take_zero, goneL_nil, ← ew7, ← eqb]; exact Whole.new w6 _ _)
    have HB7 : Hid (Below w5.heap.size w5 w7) := Lib.hid (by rw [← ew7]; exact below_one HB6.out _)
    have HQ5 : Hid (w5.heap.size ≤ qb) := Lib.hid (by rw [← eqb]; exact HB6.out.size)
    rw [ew7, eqb]
    clear ew7 eqb hmk y0 y1 HB6
    go_loopw [13] (fun i wr => ∃ j : Nat, j ≤ OS.length ∧ i = .int .i64 j ∧ Hid (Below w5.heap.size w5 wr) ∧ Hid (Whole wr qb 4 (cellsB (goneL L.length (OS.take j))))) (fun i _ => OS.length - (intOf i).toNat)
    case atStart => exact ⟨0, by omega, rfl, HB7, HM7⟩
    case round =>
      clear HB7 HM7
      obtain ⟨j, hj, rfl, HB, HM⟩ := hrel
      by_cases hlt : j < OS.length
      · have hjo : j < od.length := by have := HOL.out; omega
        have e1 : decide ((j : Int) < (OS.length : Int)) = true := decide_eq_true (by omega)
        obtain ⟨bj, oj, t, hAj, _, c3, hv3⟩ := (HTB.out _ HB.out).2.at_ hlt
        obtain ⟨p, hp⟩ : ∃ p, od[j]? = some p := ⟨_, List.getElem?_eq_getElem hjo⟩
        obtain rfl : t = (p : Int) := by
          have h1 := hv3.out
          rw [← HOS.out] at h1
          unfold natS at h1
          rw [List.getElem?_map, hp] at h1
          exact h1.symm
        have hpm := List.mem_of_getElem? hp
        obtain ⟨hpl, hph⟩ := HFH.out.1 p hpm
        have hth0 := HFH.out.2.1 p hpl
        rw [hPL2] at hpl
        have hgn : goneAt (OS.take j) p = false := by
          refine decide_eq_false fun hm => ?_
          rw [← HOS.out] at hm
          unfold natS at hm
          rw [← List.map_take] at hm
          obtain ⟨p', hp', e⟩ := List.mem_map.1 hm
          obtain rfl : p' = p := by omega
          obtain ⟨i, hi⟩ := List.getElem?_of_mem hp'
          rw [List.getElem?_take] at hi
          split at hi
          · rename_i hij
            have hpw := List.pairwise_iff_getElem.1 HND.out
            obtain ⟨l1, g1'⟩ := List.getElem?_eq_some_iff.1 hi
            obtain ⟨l2, g2'⟩ := List.getElem?_eq_some_iff.1 hp
            exact hpw i j l1 l2 hij (g1'.trans g2'.symm)
          · cases hi
        have hHL : p < HS.length := by rw [HFH.out.2.2, hPL2]; exact hpl
        obtain ⟨bh, oh, th, hAh, _, c4, hv4⟩ := (HTB.out _ HB.out).1.2.at_ hHL
        have hth : th = fh p := by
          rw [List.getElem?_eq_getElem hHL] at hth0
          injection hth0 with h1
          rw [← h1, ← hv4.out, List.getElem?_eq_getElem hHL]; rfl
        subst hth
        have a1 : decide ((p : Int) < 0) = false := decide_eq_false (by omega)
        have a2 : decide ((L.length : Int) ≤ (p : Int)) = false := decide_eq_false (by omega)
        have a3 : decide (fh p < 0) = false := decide_eq_false (by omega)
        have y1 : (0 : Int) ≤ (p : Int) := by omega
        have y2 : (p : Int) < (L.length : Int) := by omega
        have y3 : (p : Int) < (HS.length : Int) := by omega
        have x1 : (0 : Int) ≤ (j : Int) := by omega
        have x2 : (j : Int) < (OS.length : Int) := by omega
        have cg : wr.cell? ⟨qb, p, none⟩ = some (.bool false) := (HM.out.cell p).trans ((cellsB_at (by rw [goneL_len]; exact hpl)).trans (by rw [goneL_at hpl, hgn]))
        have fg := HM.out.frozen p
        have HM2 := Lib.hid (HM.out.set p (.bool true))
        rw [cellsB_set, goneL_set hpl] at HM2
        have HTK : Hid (OS.take (j + 1) = OS.take j ++ [(p : Int)]) := Lib.hid (by
          rw [List.take_add_one]
          have : OS[j]? = some (p : Int) := by rw [← HOS.out]; unfold natS; rw [List.getElem?_map, hp]; rfl
          rw [this]; rfl)
        rw [← HTK.out] at HM2
        have HB2 : Hid (Below w5.heap.size w5 (wr.setCell ⟨qb, p, none⟩ (.bool true))) := Lib.hid (HB.out.setCell (p := ⟨qb, p, none⟩) HQ5.out _)
        obtain ⟨hq, ehq⟩ : ∃ hq, fh p = hq := ⟨_, rfl⟩
        rw [ehq] at c4 a3
        first | subst hAj | (injection hAj with q; injection q with q1 q2; subst q1 q2)
        first | subst hAh | (injection hAh with q; injection q with q1 q2; subst q1 q2)
        clear hv3 hv4 hpm hph hgn hp HM ehq hth0
        go_wp2
        first | exact ⟨⟨j + 1, by omega, by go_num, HB2, HM2⟩, by simp [intOf]; omega⟩ | exact ⟨⟨j + 1, by omega, by omega, HM2⟩, by simp [intOf]; omega⟩ | exact ⟨⟨j + 1, by omega, by omega, HB2, HM2⟩, by simp [intOf]; omega⟩
      · obtain rfl : j = OS.length := by omega
        have e1 : decide ((OS.length : Int) < (OS.length : Int)) = false := decide_eq_false (by omega)
        rw [List.take_length] at HM
        go_wp2
        go_loopw [14] (fun i wr => ∃ j : Nat, j ≤ AS.length ∧ i = .int .i64 j ∧ Hid (Below w5.heap.size w5 wr) ∧ Hid (Whole wr qb 4 (cellsB (goneL L.length OS)))) (fun i _ => AS.length - (intOf i).toNat)
        case atStart => exact ⟨0, by omega, rfl, HB, HM⟩
        case round =>
          clear HB HM e1
          try clear hol
          obtain ⟨j, hj, rfl, HB, HM⟩ := hrel
          by_cases hlt : j < AS.length
          · have e1 : decide ((j : Int) < (AS.length : Int)) = true := decide_eq_true (by omega)
            obtain ⟨b0, off0, x, y, hA0, _, kc1, kc2, hv⟩ := (HTB.out _ HB.out).1.1.at_ (i := j) hlt
            obtain ⟨p, hpl, hpo, hxp⟩ := HAS.out (x, y) (List.mem_of_getElem? hv.out)
            have hx1 : x = (nAt (pns L) p).1 := congrArg Prod.fst hxp
            have hfi : findI (pns L) x = (p : Int) := by
              rw [hx1]
              exact findI_at hpl rfl (fun i hi e => by
                have := ids_inj HMS.out.nd (by omega) hpl e
                omega)
            have hpl2 : p < L.length := by rw [hPL2] at hpl; exact hpl
            have hgn : goneAt OS p = true := decide_eq_true (by rw [← HOS.out]; exact List.mem_map_of_mem hpo)
            have CF := Lib.hid (fun W (h : Below w5.heap.size w5 W) => find_any A c L (sN : Int) x W W.heap.size (Nat.le_refl _) ((HAR.out _ (HW.out _ h)).rd) (by omega))
            rw [hfi] at CF
            have x1 : (0 : Int) ≤ (j : Int) := by omega
            have x2 : (j : Int) < (AS.length : Int) := by omega
            have y2 : (0 : Int) ≤ (p : Int) := by omega
            have y3 : (p : Int) < (L.length : Int) := by omega
            have KX : Hid (∀ W, Below wr.heap.size wr W → (W.cell? ⟨g0, 0, none⟩ = some (.slice A L.length c) ∧ W.cell? ⟨g0, 1, none⟩ = some (.int .i64 (sN : Int))) ∧ W.cell? ⟨b0, off0 + j * 2, none⟩ = some (.int .u64 x) ∧ W.cell? ⟨qb, p, none⟩ = some (.bool true)) := Lib.hid (fun W h => by
              have h5 := HB.out.trans (h.mono HB.out.size)
              obtain ⟨b1, off1, x', y', hA1, _, q1, q2, hv'⟩ := (HTB.out _ h5).1.1.at_ (i := j) hlt
              have e2 : (x', y') = (x, y) := Option.some.inj (hv'.out.symm.trans hv.out)
              have e3 := congrArg Prod.fst e2
              simp only at e3
              subst e3
              rw [hA0] at hA1
              simp only [Option.some.injEq, Addr.mk.injEq, and_true] at hA1
              obtain ⟨rfl, rfl⟩ := hA1
              have z := HM.out.below h HM.out.lt
              exact ⟨(KC.out _ (HW.out _ h5)).1, q1, (z.cell p).trans ((cellsB_at (by rw [goneL_len]; exact hpl2)).trans (by rw [goneL_at hpl2, hgn]))⟩)
            have CFX : Hid (∀ W, Below wr.heap.size wr W → Calls Try.prog 11 #[.agg #[.slice A L.length c, .int .i64 (sN : Int)], .int .u64 x] W fun e w' => e = .returned (.int .i64 (p : Int)) ∧ Below wr.heap.size wr w' ∧ (w'.cell? ⟨g0, 0, none⟩ = some (.slice A L.length c) ∧ w'.cell? ⟨g0, 1, none⟩ = some (.int .i64 (sN : Int))) ∧ w'.cell? ⟨b0, off0 + j * 2, none⟩ = some (.int .u64 x) ∧ w'.cell? ⟨qb, p, none⟩ = some (.bool true)) := Lib.hid (fun W h => (CF.out W (HB.out.trans (h.mono HB.out.size))).mono fun e w' hh => ⟨hh.1, h.trans (hh.2.mono h.size), KX.out _ (h.trans (hh.2.mono h.size))⟩)
            subst hA0
            have HDR := (Below.refl wr.heap.size wr).drew
            obtain ⟨⟨y0, y1⟩, k0, k1⟩ := KX.out _ HDR
            clear hv hxp hx1 hfi hgn hpo kc1 kc2 CF
            go_upto_region 19 with fail
            refine wp_region_quietC (fun W => Below wr.heap.size wr W) (by kernel_rfl) (by kernel_rfl) HDR ?_
            repeat
              with_reducible apply wpQuiet_stepR
              intro K R hK hR
              go_simp
              first
                | (refine hK _ ?_; clear hK K; subst hR)
                | (apply Exists.intro
                   refine ⟨fun W hW => ?_, hK _ ?_⟩
                   first
                     | rfl
                     | (exact (CFX.out W hW).mono (fun e w' hh => ⟨hh.1, hh.2.1⟩))
                     | (obtain ⟨⟨j0, j1⟩, j2, j3⟩ := KX.out W hW
                        go_simp
                        first | rfl | exact ⟨rfl, rfl⟩)
                   clear hK K
                   subst hR)
            refine wpQuiet_nil ?_
            intro w8 b8
            have HB8 : Hid (Below w5.heap.size w5 w8) := Lib.hid (HB.out.trans (b8.mono HB.out.size))
            have HM8 : Hid (Whole w8 qb 4 (cellsB (goneL L.length OS))) := Lib.hid (HM.out.below b8 HM.out.lt)
            clear b8 HDR HB HM y0 y1 k0 k1 KX CFX
            go_wp2
            first
              | exact ⟨⟨j + 1, by omega, by go_num, HB8, HM8⟩, by simp [intOf]; omega⟩
              | (go_roundw
                 case rel => exact ⟨j + 1, by omega, by go_num, HB8, HM8⟩
                 case measure => simp [intOf]; omega)
          · obtain rfl : j = AS.length := by omega
            have e1 : decide ((AS.length : Int) < (AS.length : Int)) = false := decide_eq_false (by omega)
            go_wp2
            go_ret
            exact ⟨rfl, HUP.out _ (HW.out _ HB.out)⟩
  | false =>
    have hL0 : L.length = 0 := by
      have : ¬ (0 < (L.length : Int)) := by simpa using hne2
      omega
    have hA0 : AS.length = 0 := by
      have : ¬ (0 < (AS.length : Int)) := by simpa using hne1
      omega
    have HS5 : Hid (∀ W, Below w5.heap.size w5 W → (W.cell? ⟨g0, 0, none⟩ = some (.slice A L.length c) ∧ W.cell? ⟨g0, 1, none⟩ = some (.int .i64 s)) ∧ W.cell? ⟨g0 + 1, 0, none⟩ = some (.int .i64 (k : Int)) ∧ True) := Lib.hid (fun W h => ⟨(KC.out _ (HW.out _ h)).1, (KC.out _ (HW.out _ h)).2.1, trivial⟩)
    have n2 : decide (0 < AS.length) = false := decide_eq_false (by omega)
    have n3 : decide (0 < L.length) = false := decide_eq_false (by omega)
    clear k1 hL0 hA0
    go_wp2
    refine wp_region_quietC (fun W => Below w5.heap.size w5 W) (by kernel_rfl) (by kernel_rfl) HDR ?_
    repeat
      with_reducible apply wpQuiet_stepR
      intro K R hK hR
      go_simp
      first
        | (refine hK _ ?_; clear hK K; subst hR)
        | (apply Exists.intro
           refine ⟨fun W hW => ?_, hK _ ?_⟩
           first
             | rfl
             | (exact HTR.out W hW)
             | (obtain ⟨⟨j0, j1⟩, j2, j3⟩ := HS5.out W hW
                go_simp
                first | rfl | exact ⟨rfl, rfl⟩)
           clear hK K
           subst hR)
    refine wpQuiet_nil ?_
    intro w6 b6
    have HB6 := Lib.hid b6
    clear b6 HDR HTR HS5 y0 y1 k0
    have hLB : L.length ≤ 150 := hL2
    have hOB : od.length ≤ L.length := by have := hn3; rwa [hPL2] at this
    have hAB : AS.length ≤ 256 := by have := HM1.out; omega
    have hmk : ∀ W : World, (Instr.makeSlice 38 (.int .i64 (L.length : Int)) (.int .i64 (L.length : Int))).run Try.prog W = .ok (.slice (some ⟨W.heap.size, 0, none⟩) L.length L.length) (W.alloc (.cells (cellsB (List.replicate L.length false)) 4)) := fun W => by
      have := run_make_row' (P := Try.prog) 38 4 (.bool false) 1 Try.underlying38 Try.info4b (by rfl) .i64 .i64 L.length (by omega) (by omega) W
      rw [cellsB_made] at this
      exact this
    obtain ⟨⟨y0, y1⟩, _, _⟩ := KC.out _ (HW.out _ HB6.out)
    go_wp2
    obtain ⟨w7, ew7⟩ : ∃ w7, w6.alloc (.cells (cellsB (List.replicate L.length false)) 4) = w7 := ⟨_, rfl⟩
    obtain ⟨qb, eqb⟩ : ∃ qb, w6.heap.size = qb := ⟨_, rfl⟩
    have HM7 : Hid (Whole w7 qb 4 (cellsB (goneL L.length (OS.take 0)))) := Lib.hid (by rw [List.take_zero, goneL_nil, ← ew7, ← eqb]; exact Whole.new w6 _ _)
    have HB7 : Hid (Below w5.heap.size w5 w7) := Lib.hid (by rw [← ew7]; exact below_one HB6.out _)
    have HQ5 : Hid (w5.heap.size ≤ qb) := Lib.hid (by rw [← eqb]; exact HB6.out.size)
    rw [ew7, eqb]
    clear ew7 eqb hmk y0 y1 HB6
    go_loopw [13] (fun i wr => ∃ j : Nat, j ≤ OS.length ∧ i = .int .i64 j ∧ Hid (Below w5.heap.size w5 wr) ∧ Hid (Whole wr qb 4 (cellsB (goneL L.length (OS.take j))))) (fun i _ => OS.length - (intOf i).toNat)
    case atStart => exact ⟨0, by omega, rfl, HB7, HM7⟩
    case round =>
      clear HB7 HM7
      obtain ⟨j, hj, rfl, HB, HM⟩ := hrel
      by_cases hlt : j < OS.length
      · have hjo : j < od.length := by have := HOL.out; omega
        have e1 : decide ((j : Int) < (OS.length : Int)) = true := decide_eq_true (by omega)
        obtain ⟨bj, oj, t, hAj, _, c3, hv3⟩ := (HTB.out _ HB.out).2.at_ hlt
        obtain ⟨p, hp⟩ : ∃ p, od[j]? = some p := ⟨_, List.getElem?_eq_getElem hjo⟩
        obtain rfl : t = (p : Int) := by
          have h1 := hv3.out
          rw [← HOS.out] at h1
          unfold natS at h1
          rw [List.getElem?_map, hp] at h1
          exact h1.symm
        have hpm := List.mem_of_getElem? hp
        obtain ⟨hpl, hph⟩ := HFH.out.1 p hpm
        have hth0 := HFH.out.2.1 p hpl
        rw [hPL2] at hpl
        have hgn : goneAt (OS.take j) p = false := by
          refine decide_eq_false fun hm => ?_
          rw [← HOS.out] at hm
          unfold natS at hm
          rw [← List.map_take] at hm
          obtain ⟨p', hp', e⟩ := List.mem_map.1 hm
          obtain rfl : p' = p := by omega
          obtain ⟨i, hi⟩ := List.getElem?_of_mem hp'
          rw [List.getElem?_take] at hi
          split at hi
          · rename_i hij
            have hpw := List.pairwise_iff_getElem.1 HND.out
            obtain ⟨l1, g1'⟩ := List.getElem?_eq_some_iff.1 hi
            obtain ⟨l2, g2'⟩ := List.getElem?_eq_some_iff.1 hp
            exact hpw i j l1 l2 hij (g1'.trans g2'.symm)
          · cases hi
        have hHL : p < HS.length := by rw [HFH.out.2.2, hPL2]; exact hpl
        obtain ⟨bh, oh, th, hAh, _, c4, hv4⟩ := (HTB.out _ HB.out).1.2.at_ hHL
        have hth : th = fh p := by
          rw [List.getElem?_eq_getElem hHL] at hth0
          injection hth0 with h1
          rw [← h1, ← hv4.out, List.getElem?_eq_getElem hHL]; rfl
        subst hth
        have a1 : decide ((p : Int) < 0) = false := decide_eq_false (by omega)
        have a2 : decide ((L.length : Int) ≤ (p : Int)) = false := decide_eq_false (by omega)
        have a3 : decide (fh p < 0) = false := decide_eq_false (by omega)
        have y1 : (0 : Int) ≤ (p : Int) := by omega
        have y2 : (p : Int) < (L.length : Int) := by omega
        have y3 : (p : Int) < (HS.length : Int) := by omega
        have x1 : (0 : Int) ≤ (j : Int) := by omega
        have x2 : (j : Int) < (OS.length : Int) := by omega
        have cg : wr.cell? ⟨qb, p, none⟩ = some (.bool false) := (HM.out.cell p).trans ((cellsB_at (by rw [goneL_len]; exact hpl)).trans (by rw [goneL_at hpl, hgn]))
        have fg := HM.out.frozen p
        have HM2 := Lib.hid (HM.out.set p (.bool true))
        rw [cellsB_set, goneL_set hpl] at HM2
        have HTK : Hid (OS.take (j + 1) = OS.take j ++ [(p : Int)]) := Lib.hid (by
          rw [List.take_add_one]
          have : OS[j]? = some (p : Int) := by rw [← HOS.out]; unfold natS; rw [List.getElem?_map, hp]; rfl
          rw [this]; rfl)
        rw [← HTK.out] at HM2
        have HB2 : Hid (Below w5.heap.size w5 (wr.setCell ⟨qb, p, none⟩ (.bool true))) := Lib.hid (HB.out.setCell (p := ⟨qb, p, none⟩) HQ5.out _)
        obtain ⟨hq, ehq⟩ : ∃ hq, fh p = hq := ⟨_, rfl⟩
        rw [ehq] at c4 a3
        first | subst hAj | (injection hAj with q; injection q with q1 q2; subst q1 q2)
        first | subst hAh | (injection hAh with q; injection q with q1 q2; subst q1 q2)
        clear hv3 hv4 hpm hph hgn hp HM ehq hth0
        go_wp2
        first | exact ⟨⟨j + 1, by omega, by go_num, HB2, HM2⟩, by simp [intOf]; omega⟩ | exact ⟨⟨j + 1, by omega, by omega, HM2⟩, by simp [intOf]; omega⟩ | exact ⟨⟨j + 1, by omega, by omega, HB2, HM2⟩, by simp [intOf]; omega⟩
      · obtain rfl : j = OS.length := by omega
        have e1 : decide ((OS.length : Int) < (OS.length : Int)) = false := decide_eq_false (by omega)
        rw [List.take_length] at HM
        go_wp2
        go_loopw [14] (fun i wr => ∃ j : Nat, j ≤ AS.length ∧ i = .int .i64 j ∧ Hid (Below w5.heap.size w5 wr) ∧ Hid (Whole wr qb 4 (cellsB (goneL L.length OS)))) (fun i _ => AS.length - (intOf i).toNat)
        case atStart => exact ⟨0, by omega, rfl, HB, HM⟩
        case round =>
          clear HB HM e1
          try clear hol
          obtain ⟨j, hj, rfl, HB, HM⟩ := hrel
          by_cases hlt : j < AS.length
          · have e1 : decide ((j : Int) < (AS.length : Int)) = true := decide_eq_true (by omega)
            obtain ⟨b0, off0, x, y, hA0, _, kc1, kc2, hv⟩ := (HTB.out _ HB.out).1.1.at_ (i := j) hlt
            obtain ⟨p, hpl, hpo, hxp⟩ := HAS.out (x, y) (List.mem_of_getElem? hv.out)
            have hx1 : x = (nAt (pns L) p).1 := congrArg Prod.fst hxp
            have hfi : findI (pns L) x = (p : Int) := by
              rw [hx1]
              exact findI_at hpl rfl (fun i hi e => by
                have := ids_inj HMS.out.nd (by omega) hpl e
                omega)
            have hpl2 : p < L.length := by rw [hPL2] at hpl; exact hpl
            have hgn : goneAt OS p = true := decide_eq_true (by rw [← HOS.out]; exact List.mem_map_of_mem hpo)
            have CF := Lib.hid (fun W (h : Below w5.heap.size w5 W) => find_any A c L s x W W.heap.size (Nat.le_refl _) ((HAR.out _ (HW.out _ h)).rd) (by omega))
            rw [hfi] at CF
            have x1 : (0 : Int) ≤ (j : Int) := by omega
            have x2 : (j : Int) < (AS.length : Int) := by omega
            have y2 : (0 : Int) ≤ (p : Int) := by omega
            have y3 : (p : Int) < (L.length : Int) := by omega
            have KX : Hid (∀ W, Below wr.heap.size wr W → (W.cell? ⟨g0, 0, none⟩ = some (.slice A L.length c) ∧ W.cell? ⟨g0, 1, none⟩ = some (.int .i64 s)) ∧ W.cell? ⟨b0, off0 + j * 2, none⟩ = some (.int .u64 x) ∧ W.cell? ⟨qb, p, none⟩ = some (.bool true)) := Lib.hid (fun W h => by
              have h5 := HB.out.trans (h.mono HB.out.size)
              obtain ⟨b1, off1, x', y', hA1, _, q1, q2, hv'⟩ := (HTB.out _ h5).1.1.at_ (i := j) hlt
              have e2 : (x', y') = (x, y) := Option.some.inj (hv'.out.symm.trans hv.out)
              have e3 := congrArg Prod.fst e2
              simp only at e3
              subst e3
              rw [hA0] at hA1
              simp only [Option.some.injEq, Addr.mk.injEq, and_true] at hA1
              obtain ⟨rfl, rfl⟩ := hA1
              have z := HM.out.below h HM.out.lt
              exact ⟨(KC.out _ (HW.out _ h5)).1, q1, (z.cell p).trans ((cellsB_at (by rw [goneL_len]; exact hpl2)).trans (by rw [goneL_at hpl2, hgn]))⟩)
            have CFX : Hid (∀ W, Below wr.heap.size wr W → Calls Try.prog 11 #[.agg #[.slice A L.length c, .int .i64 s], .int .u64 x] W fun e w' => e = .returned (.int .i64 (p : Int)) ∧ Below wr.heap.size wr w' ∧ (w'.cell? ⟨g0, 0, none⟩ = some (.slice A L.length c) ∧ w'.cell? ⟨g0, 1, none⟩ = some (.int .i64 s)) ∧ w'.cell? ⟨b0, off0 + j * 2, none⟩ = some (.int .u64 x) ∧ w'.cell? ⟨qb, p, none⟩ = some (.bool true)) := Lib.hid (fun W h => (CF.out W (HB.out.trans (h.mono HB.out.size))).mono fun e w' hh => ⟨hh.1, h.trans (hh.2.mono h.size), KX.out _ (h.trans (hh.2.mono h.size))⟩)
            subst hA0
            have HDR := (Below.refl wr.heap.size wr).drew
            obtain ⟨⟨y0, y1⟩, k0, k1⟩ := KX.out _ HDR
            clear hv hxp hx1 hfi hgn hpo kc1 kc2 CF
            go_upto_region 19 with fail
            refine wp_region_quietC (fun W => Below wr.heap.size wr W) (by kernel_rfl) (by kernel_rfl) HDR ?_
            repeat
              with_reducible apply wpQuiet_stepR
              intro K R hK hR
              go_simp
              first
                | (refine hK _ ?_; clear hK K; subst hR)
                | (apply Exists.intro
                   refine ⟨fun W hW => ?_, hK _ ?_⟩
                   first
                     | rfl
                     | (exact (CFX.out W hW).mono (fun e w' hh => ⟨hh.1, hh.2.1⟩))
                     | (obtain ⟨⟨j0, j1⟩, j2, j3⟩ := KX.out W hW
                        go_simp
                        first | rfl | exact ⟨rfl, rfl⟩)
                   clear hK K
                   subst hR)
            refine wpQuiet_nil ?_
            intro w8 b8
            have HB8 : Hid (Below w5.heap.size w5 w8) := Lib.hid (HB.out.trans (b8.mono HB.out.size))
            have HM8 : Hid (Whole w8 qb 4 (cellsB (goneL L.length OS))) := Lib.hid (HM.out.below b8 HM.out.lt)
            clear b8 HDR HB HM y0 y1 k0 k1 KX CFX
            go_wp2
            first
              | exact ⟨⟨j + 1, by omega, by go_num, HB8, HM8⟩, by simp [intOf]; omega⟩
              | (go_roundw
                 case rel => exact ⟨j + 1, by omega, by go_num, HB8, HM8⟩
                 case measure => simp [intOf]; omega)
          · obtain rfl : j = AS.length := by omega
            have e1 : decide ((AS.length : Int) < (AS.length : Int)) = false := decide_eq_false (by omega)
            go_wp2
            go_ret
            exact ⟨rfl, HUP.out _ (HW.out _ HB.out)⟩
end Go.Proofs.Ytkdepoaajhggiaa
