/- The walk of PruneRule. -/
import Derived.Test.YtjdidlbmgnfcdaaUl
import Derived.Test.YtjdidlbmgnfcdaaIc
import Derived.Test.YtjdidlbmgnfcdaaKc
import Derived.Deep.Cut
import Derived.Deep.RegionHeld3
namespace Go.Proofs.Ytjdidlbmgnfcdaa
open Go.RowKit
set_option linter.unusedVariables false
set_option linter.unusedSimpArgs false
set_option maxRecDepth 100000 in
set_option maxHeartbeats 16000000 in
theorem pruneRule_main (A : Option Addr) (c : Nat) (L : List Gn) (s d deg bm nm dn at_ : Int) (B : Option Addr) (q : Nat) (P : List Int) (w : World) (hx : GGiven w A L) (hp : Rd .i64 w w.heap.size B P) (hPq : P.length ≤ q) :
    Calls Try.prog 5 #[.agg #[.slice A L.length c, .int .i64 s, .int .i64 d, .int .i64 deg, .int .i64 bm, .int .i64 nm, .int .i64 dn, .int .i64 at_], .slice B P.length q] w fun e w' => e = .returned (.bool true) ∧ Below w.heap.size w w' := by
  have HW0 := Lib.hid (Whole.new w 42 #[.slice A L.length c, .int .i64 s, .int .i64 d, .int .i64 deg, .int .i64 bm, .int .i64 nm, .int .i64 dn, .int .i64 at_])
  have HB0 := Lib.hid (below_one (Below.refl w.heap.size w) (.cells #[.slice A L.length c, .int .i64 s, .int .i64 d, .int .i64 deg, .int .i64 bm, .int .i64 nm, .int .i64 dn, .int .i64 at_] 42))
  have HX := Lib.hid hx
  have HP := Lib.hid hp
  clear hp
  clear hx
  go_enter Try.func5, Try.ntmps5
  go_upto_region 1 with fail
  obtain ⟨w1, ew1⟩ : ∃ w1, w.alloc (.cells #[.slice A L.length c, .int .i64 s, .int .i64 d, .int .i64 deg, .int .i64 bm, .int .i64 nm, .int .i64 dn, .int .i64 at_] 42) = w1 := ⟨_, rfl⟩
  rw [ew1] at HW0 HB0 ⊢
  obtain ⟨g, eg⟩ : ∃ g, w.heap.size = g := ⟨_, rfl⟩
  rw [eg] at HW0 ⊢
  have HG := Lib.hid eg
  clear ew1 eg
  go_wp2_with fail
  refine (aliveQ_any w1).mono ?_
  rintro e w2 ⟨rfl, b2⟩
  dsimp only
  have HB2 := Lib.hid (HB0.out.trans (b2.mono HB0.out.size))
  have Z2 := HW0.out.below b2 HW0.out.lt
  have HZ2 := Lib.hid Z2
  have y0 := Z2.cell 0
  have y1 := Z2.cell 1
  clear Z2 b2 HB0 HW0
  go_wp2_with fail
  refine (great9_any A c L s w2 (HX.out.below HB2.out)).mono ?_
  rintro e w3 ⟨⟨gb, rfl, hgb⟩, b3⟩
  dsimp only
  have HB3 := Lib.hid (HB2.out.trans (b3.mono HB2.out.size))
  clear y0 y1
  cases gb with
  | true =>
    clear hgb
    go_wp2_with fail
    refine (aliveQ_any w3).mono ?_
    rintro e w4 ⟨rfl, b4⟩
    dsimp only
    go_wp2
    go_ret
    exact ⟨rfl, HB3.out.trans (b4.mono HB3.out.size)⟩
  | false =>
    have HSM := Lib.hid (hgb rfl)
    have Z3 := HZ2.out.below b3 HZ2.out.lt
    have HZ3 := Lib.hid Z3
    clear hgb b3 HZ2 HB2 Z3
    have HAR : Hid (GArg w A L) := Lib.hid (HX.out.arg HSM.out)
    have HLN := Lib.hid (pns_len L)
    have HRM : Hid (∀ x ∈ L, x.2.2.2.2.length ≤ x.2.2.2.1) := Lib.hid (fun x hx => (HX.out.room x hx).2.1)
    have HCL : Hid (∀ W, Below w3.heap.size w3 W → ((W.cell? ⟨g, 0, none⟩ = some (.slice A L.length c) ∧ W.cell? ⟨g, 1, none⟩ = some (.int .i64 s)) ∧ (W.cell? ⟨g, 2, none⟩ = some (.int .i64 d) ∧ W.cell? ⟨g, 3, none⟩ = some (.int .i64 deg) ∧ W.cell? ⟨g, 4, none⟩ = some (.int .i64 bm) ∧ W.cell? ⟨g, 5, none⟩ = some (.int .i64 nm) ∧ W.cell? ⟨g, 6, none⟩ = some (.int .i64 dn)) ∧ W.cell? ⟨g, 7, none⟩ = some (.int .i64 at_))) := Lib.hid (fun W h => by
      have z0 := HZ3.out.below h HZ3.out.lt
      exact ⟨⟨z0.cell 0, z0.cell 1⟩, ⟨z0.cell 2, z0.cell 3, z0.cell 4, z0.cell 5, z0.cell 6⟩, z0.cell 7⟩)
    have HUP : Hid (∀ W, Below w3.heap.size w3 W → Below w.heap.size w W) := Lib.hid (fun W h => HB3.out.trans (h.mono HB3.out.size))
    have hL : L.length ≤ 20000 := by have := HSM.out.len; rwa [pns_len] at this
    obtain ⟨⟨y0, y1⟩, ⟨q0, q1, q2, q3, q4⟩, q5⟩ := HCL.out _ (Below.refl _ _)
    by_cases hn : 300 < P.length
    case pos =>
      have ez : decide ((300 : Int) < (P.length : Int)) = true := decide_eq_true (by omega)
      go_wp2_with fail
      refine (aliveQ_any w3).mono ?_
      rintro e w4 ⟨rfl, b4⟩
      dsimp only
      go_wp2
      go_ret
      exact ⟨rfl, HB3.out.trans (b4.mono HB3.out.size)⟩
    have ez : decide ((300 : Int) < (P.length : Int)) = false := decide_eq_false (by omega)
    have KP := keep_any A c L s d deg bm nm dn at_ B q P w3 (HAR.out.below HB3.out) HRM.out ((HP.out.below HB3.out).more HB3.out.size) (by omega)
    clear ez
    go_wp2_with fail
    refine KP.mono ?_
    intro e w4 hans
    cases hkb : keepB (pns L) s d deg bm nm dn at_ P with
    | false =>
      obtain ⟨V, vc, rfl, b4⟩ := keepNo hans hkb
      dsimp only
      clear hans hkb KP y0 y1 q0 q1 q2 q3 q4 q5
      go_wp2
      go_ret
      exact ⟨rfl, HUP.out _ b4⟩
    | true =>
      have hask := keepB_yes HX.out.ok hkb
      obtain ⟨a, rfl⟩ := Int.eq_ofNat_of_zero_le hask.at0.1
      obtain ⟨R, eR⟩ : ∃ R, keepL (pns L) nm dn deg a P = R := ⟨_, rfl⟩
      have htold := keepL_told (n := nm) (m := dn) (deg := deg) (a := a) hask.pg hask.all
      rw [eR] at htold
      obtain ⟨V, vc, rfl, ho4, b4⟩ := keepYes hans hkb eR
      dsimp only
      have hln := pns_len L
      have haL : a < L.length := by have := hask.at0.2; omega
      have hL2 : L.length ≤ 2048 := by have := hask.pg.len; omega
      have hdg := hask.dg
      have HASK := Lib.hid hask
      have HT := Lib.hid htold
      have HB4 := Lib.hid b4
      have HO4 := Lib.hid ho4
      have HER := Lib.hid eR
      have HUP4 : Hid (∀ W, Below w4.heap.size w4 W → Below w.heap.size w W) := Lib.hid (fun W h => HUP.out W (b4.trans (h.mono b4.size)))
      have HC4 : Hid (∀ W, Below w4.heap.size w4 W → ((W.cell? ⟨g, 0, none⟩ = some (.slice A L.length c) ∧ W.cell? ⟨g, 1, none⟩ = some (.int .i64 s)) ∧ (W.cell? ⟨g, 2, none⟩ = some (.int .i64 d) ∧ W.cell? ⟨g, 3, none⟩ = some (.int .i64 deg) ∧ W.cell? ⟨g, 4, none⟩ = some (.int .i64 bm) ∧ W.cell? ⟨g, 5, none⟩ = some (.int .i64 nm) ∧ W.cell? ⟨g, 6, none⟩ = some (.int .i64 dn)) ∧ W.cell? ⟨g, 7, none⟩ = some (.int .i64 (a : Int)))) := Lib.hid (fun W h => HCL.out W (b4.trans (h.mono b4.size)))
      have HRd : Hid (Rd .i64 w4 w4.heap.size V (natI R)) := Lib.hid (own_rdU (xs := natI R) (n := R.length) ho4)
      have HPd : Hid (Rd .i64 w4 w4.heap.size B P) := Lib.hid (by
        have h1 := HB3.out.trans (b4.mono HB3.out.size)
        exact (HP.out.below h1).more h1.size)
      have hRl : R.length ≤ 32 := by have := htold.few; omega
      have hdeg : (R.length : Int) ≤ deg := by have := htold.few; omega
      have HDM := Lib.hid (fun W (h : Below w4.heap.size w4 W) (x y : Nat) (hx : x < L.length) (hy : y < L.length) => (by
        have h1 := dominQ_any A c L s d deg bm nm dn (a : Int) (x : Int) (y : Int) W (HAR.out.below (HUP4.out W h)) HRM.out
        obtain ⟨h2, h3⟩ := HASK.out.dom (x := x) (y := y) (by rw [hln]; exact hx) (by rw [hln]; exact hy)
        rw [h2, h3] at h1
        exact h1 : Calls Try.prog 15 #[.agg #[.slice A L.length c, .int .i64 s], .agg #[.int .i64 d, .int .i64 deg, .int .i64 bm, .int .i64 nm, .int .i64 dn], .int .i64 (a : Int), .int .i64 (x : Int), .int .i64 (y : Int)] W fun e w' => e = .returned (.tuple #[.bool (ndP (pns L) nm dn a x y), .int .i64 0]) ∧ Below W.heap.size W w'))
      have HHT := Lib.hid (fun W (h : Below w4.heap.size w4 W) (x : Nat) (hx : x < L.length) => hitQ_any A c L s d.toNat HASK.out.pg a x haL hx W (HAR.out.below (HUP4.out W h)).rd)
      have HLS := Lib.hid (fun W (x y : Int × Int) => (lessQ_any x.1 x.2 y.1 y.2 W).mono (fun e w' q => (by
        obtain ⟨q1, rfl⟩ := q
        exact ⟨q1, below_one (below_one (Below.refl _ _) _) _⟩ : e = .returned (.bool (ltQ x y)) ∧ Below W.heap.size W w')))
      have HSB : Hid (∀ i, (h : i < R.length) → R[i] < L.length ∧ R[i] ≠ a ∧ ((R[i] : Nat) : Int) ∈ P) := Lib.hid (fun i h => by
        obtain ⟨h1, h2, h3⟩ := htold.sub R[i] (List.getElem_mem h)
        exact ⟨by omega, h2, h3⟩)
      clear hans hkb hask htold eR ho4 b4 KP y0 y1 q0 q1 q2 q3 q4 q5 hln
      have f6 : decide (deg < (R.length : Int)) = false := decide_eq_false (by omega)
      have CB : Hid (Below w4.heap.size w4 w4) := Lib.hid (Below.refl _ _)
      have hvc : R.length ≤ vc := own_roomU HO4.out
      obtain ⟨⟨y0, y1⟩, ⟨q0, q1, q2, q3, q4⟩, q5⟩ := HC4.out _ (Below.refl _ _)
      go_wp2
      clear y0 y1 q0 q1 q2 q3 q4 q5
      go_loopw [7] (fun i wr => ∃ k : Nat, k ≤ R.length ∧ i = .int .i64 k ∧ Hid (Below w4.heap.size w4 wr)) (fun i _ => R.length - (intOf i).toNat)
      case atStart => exact ⟨0, by omega, rfl, CB⟩
      case round =>
        clear CB
        obtain ⟨i, hi, rfl, HB⟩ := hrel
        by_cases hlt : i < R.length
        · have e1 : decide ((i : Int) < (R.length : Int)) = true := decide_eq_true (by omega)
          obtain ⟨hppl, hppa, hppP⟩ := HSB.out i hlt
          obtain ⟨p, ep⟩ : ∃ x, R[i]'(hlt) = x := ⟨_, rfl⟩
          rw [ep] at hppl hppa hppP
          obtain ⟨lb, lo, t, rfl, hlbi, hlci, hlv⟩ := HRd.out.at_ (i := i) (by rw [natI_len]; exact hlt)
          have et : t = (p : Int) := by rw [← hlv.out, natI_at hlt, ep]
          subst et
          have hnew := HT.out.new hlt
          rw [ep] at hnew
          have x1 : (0 : Int) ≤ (i : Int) := by omega
          have x2 : (i : Int) < (R.length : Int) := by omega
          have x3 : (i : Int) ≤ (vc : Int) := by omega
          have x4 : ((p : Int) == (a : Int)) = false := by simp; omega
          have hPl : P.length ≤ 1000000 := by omega
          have LP := Lib.hid (fun (k : Nat) (hk : k < i) => (HT.out.at_ hk hlt))
          have HDR := HB.out.drew
          have HEP := Lib.hid ep
          have HLC : Hid (∀ W, Below w4.heap.size w4 W → W.cell? ⟨lb, lo + i, none⟩ = some (.int .i64 (p : Int))) := Lib.hid (fun W h => (h.cell (p := ⟨lb, lo + i, none⟩) hlbi).trans hlci)
          by_cases hi0 : 0 < i
          · as_aux_lemma =>
              have g1 : decide ((0 : Int) < (i : Int)) = true := decide_eq_true (by omega)
              have g2 : decide (0 < i) = true := decide_eq_true hi0
              obtain ⟨j, ej⟩ : ∃ j, i - 1 = j := ⟨_, rfl⟩
              have hjl : j < R.length := by omega
              have hji : j < i := by omega
              have hsub : IntKind.i64.wrap ((i : Int) - 1) = (j : Int) := by rw [IntWalk.i64_in _ (by omega)]; omega
              have hsub2 : (i : Int) - 1 = (j : Int) := by omega
              have hsub3 : IntKind.i64.wrap (j : Int) = (j : Int) := IntWalk.i64_in _ (by omega)
              obtain ⟨hp0l, hp0a, hp0P⟩ := HSB.out j hjl
              have hlt0 := (LP.out j hji).1
              obtain ⟨p0, ep0⟩ : ∃ x, R[j] = x := ⟨_, rfl⟩
              rw [ep0] at hp0l
              rw [ep0, ep] at hlt0
              obtain ⟨lbj, loj, t, eV, hlbj, hlcj, hlvj⟩ := HRd.out.at_ (i := j) (by rw [natI_len]; exact hjl)
              cases eV
              have et : t = (p0 : Int) := by rw [← hlvj.out, natI_at hjl, ep0]
              subst et
              have x5 : (0 : Int) ≤ (j : Int) := by omega
              have x6 : (j : Int) < (R.length : Int) := by omega
              have KS : ∀ W, Below w4.heap.size w4 W → W.cell? ⟨g, 0, none⟩ = some (.slice A L.length c) ∧ W.cell? ⟨g, 1, none⟩ = some (.int .i64 s) ∧ W.cell? ⟨g, 7, none⟩ = some (.int .i64 (a : Int)) ∧ W.cell? ⟨lb, lo + i, none⟩ = some (.int .i64 (p : Int)) ∧ W.cell? ⟨lb, lo + j, none⟩ = some (.int .i64 (p0 : Int)) := fun W h => by
                have z := HC4.out W h
                exact ⟨z.1.1, z.1.2, z.2.2, (h.cell (p := ⟨lb, lo + i, none⟩) hlbi).trans hlci, (h.cell (p := ⟨lb, lo + j, none⟩) hlbj).trans hlcj⟩
              have KC : ∀ {f : Nat} {args : Array Value} {W : World} {e0 : Ending}, Below w4.heap.size w4 W → (Calls Try.prog f args W fun e w' => e = e0 ∧ Below W.heap.size W w') → Calls Try.prog f args W fun e w' => e = e0 ∧ Below w4.heap.size w4 w' ∧ w'.cell? ⟨g, 0, none⟩ = some (.slice A L.length c) ∧ w'.cell? ⟨g, 1, none⟩ = some (.int .i64 s) ∧ w'.cell? ⟨g, 7, none⟩ = some (.int .i64 (a : Int)) ∧ w'.cell? ⟨lb, lo + i, none⟩ = some (.int .i64 (p : Int)) ∧ w'.cell? ⟨lb, lo + j, none⟩ = some (.int .i64 (p0 : Int)) := fun h C => C.mono fun e w' q => (by
                have hw := h.trans (q.2.mono h.size)
                exact ⟨q.1, hw, KS w' hw⟩)
              have A1 := Lib.hid (fun W (h : Below w4.heap.size w4 W) => KC h ((hasQ_any B q P P.length rfl (p : Int) W w4.heap.size (HPd.out.below h) hPl).mono (fun e w' qq => (⟨qq.1.trans (by rw [decide_eq_true hppP]), by rw [qq.2]; exact Below.refl _ _⟩ : e = .returned (.bool true) ∧ Below W.heap.size W w'))))
              have A2 := Lib.hid (fun W (h : Below w4.heap.size w4 W) => KC h ((hasQ_any (some ⟨lb, lo, none⟩) vc ((natI R).take i) i (by rw [List.length_take, natI_len]; omega) (p : Int) W w4.heap.size ((HRd.out.below h).take i) (by rw [List.length_take, natI_len]; omega)).mono (fun e w' qq => (⟨qq.1.trans (by rw [decide_eq_false hnew]), by rw [qq.2]; exact Below.refl _ _⟩ : e = .returned (.bool false) ∧ Below W.heap.size W w'))))
              have A3 := Lib.hid (fun W (h : Below w4.heap.size w4 W) => KC h (HHT.out W h p0 hp0l))
              have A4 := Lib.hid (fun W (h : Below w4.heap.size w4 W) => KC h (HHT.out W h p hppl))
              have A5 := Lib.hid (fun W (h : Below w4.heap.size w4 W) => KC h (by have := HLS.out W (kQ (pns L) a p0) (kQ (pns L) a p); rw [show ltQ (kQ (pns L) a p0) (kQ (pns L) a p) = true from hlt0] at this; exact this))
              obtain ⟨m1, em1⟩ : ∃ x, (kQ (pns L) a p0).1 = x := ⟨_, rfl⟩
              obtain ⟨m2, em2⟩ : ∃ x, (kQ (pns L) a p0).2 = x := ⟨_, rfl⟩
              obtain ⟨m3, em3⟩ : ∃ x, (kQ (pns L) a p).1 = x := ⟨_, rfl⟩
              obtain ⟨m4, em4⟩ : ∃ x, (kQ (pns L) a p).2 = x := ⟨_, rfl⟩
              rw [em1, em2] at A3
              rw [em3, em4] at A4
              rw [em1, em2, em3, em4] at A5
              obtain ⟨j0, j1, j2, j3, j4⟩ := KS _ HDR
              clear em1 em2 em3 em4 KS KC hp0a hp0P hlt0 ep ep0 hlbj hlcj hlvj hlbi hlci hlv ej hji hp0l hjl hnew
              go_wp2
              first
              | (go_region_held3 (fun w' => w'.cell? ⟨g, 0, none⟩ = some (.slice A L.length c) ∧ w'.cell? ⟨g, 1, none⟩ = some (.int .i64 s) ∧ w'.cell? ⟨g, 7, none⟩ = some (.int .i64 (a : Int)) ∧ w'.cell? ⟨lb, lo + i, none⟩ = some (.int .i64 (p : Int)) ∧ w'.cell? ⟨lb, lo + j, none⟩ = some (.int .i64 (p0 : Int)))
                (first | exact ⟨by with_reducible assumption, by with_reducible assumption, by with_reducible assumption, by with_reducible assumption, by with_reducible assumption⟩)
                (first
                  | (go_at_call 20; (with_reducible refine (A1.out _ (by with_reducible assumption)).mono ?_); rintro e wa ⟨rfl, bwa, zwa0, zwa1, zwa2, zwa3, zwa4⟩)
                  | (go_at_call 20; (with_reducible refine (A2.out _ (by with_reducible assumption)).mono ?_); rintro e wb ⟨rfl, bwb, zwb0, zwb1, zwb2, zwb3, zwb4⟩)
                  | (go_at_call 22; (with_reducible refine (A3.out _ (by with_reducible assumption)).mono ?_); rintro e wc ⟨rfl, bwc, zwc0, zwc1, zwc2, zwc3, zwc4⟩)
                  | (go_at_call 22; (with_reducible refine (A4.out _ (by with_reducible assumption)).mono ?_); rintro e wd ⟨rfl, bwd, zwd0, zwd1, zwd2, zwd3, zwd4⟩)
                  | (go_at_call 21; (with_reducible refine (A5.out _ (by with_reducible assumption)).mono ?_); rintro e we ⟨rfl, bwe, zwe0, zwe1, zwe2, zwe3, zwe4⟩)
                  | fail))
              | fail
              all_goals
                clear zwa0 zwa1 zwa2 zwa3 zwa4 zwb0 zwb1 zwb2 zwb3 zwb4 zwc0 zwc1 zwc2 zwc3 zwc4 zwd0 zwd1 zwd2 zwd3 zwd4 zwe0 zwe1 zwe2 zwe3 zwe4 bwa bwb bwc bwd j0 j1 j2 j3 j4 HDR
                have HBe := Lib.hid bwe
                clear bwe
                go_wp2
                go_loopw [8] (fun k wr => ∃ x : Nat, x ≤ i ∧ k = .int .i64 x ∧ Hid (Below w4.heap.size w4 wr)) (fun k _ => i - (intOf k).toNat)
                case atStart => exact ⟨0, by omega, rfl, HBe⟩
                case round =>
                  clear HBe
                  obtain ⟨k, hk, rfl, HBk⟩ := hrel
                  by_cases hki : k < i
                  · have e2 : decide ((k : Int) < (i : Int)) = true := decide_eq_true (by omega)
                    have hkl : k < R.length := by omega
                    have hlp := (LP.out k hki).2
                    obtain ⟨hppkl, hppka, hppkP⟩ := HSB.out k hkl
                    obtain ⟨pk, epk⟩ : ∃ x, R[k]'(hkl) = x := ⟨_, rfl⟩
                    rw [epk] at hppkl hppka hppkP
                    rw [epk, HEP.out] at hlp
                    obtain ⟨lbk, lok, t, eV, hlbk, hlck, hlvk⟩ := HRd.out.at_ (i := k) (by rw [natI_len]; exact hkl)
                    cases eV
                    have et : t = (pk : Int) := by rw [← hlvk.out, natI_at hkl, epk]
                    subst et
                    have x5 : (0 : Int) ≤ (k : Int) := by omega
                    have x6 : (k : Int) < (R.length : Int) := by omega
                    have KS : ∀ W, Below w4.heap.size w4 W → W.cell? ⟨g, 0, none⟩ = some (.slice A L.length c) ∧ W.cell? ⟨g, 1, none⟩ = some (.int .i64 s) ∧ W.cell? ⟨g, 7, none⟩ = some (.int .i64 (a : Int)) ∧ W.cell? ⟨g, 2, none⟩ = some (.int .i64 d) ∧ W.cell? ⟨g, 3, none⟩ = some (.int .i64 deg) ∧ W.cell? ⟨g, 4, none⟩ = some (.int .i64 bm) ∧ W.cell? ⟨g, 5, none⟩ = some (.int .i64 nm) ∧ W.cell? ⟨g, 6, none⟩ = some (.int .i64 dn) ∧ W.cell? ⟨lb, lo + k, none⟩ = some (.int .i64 (pk : Int)) ∧ W.cell? ⟨lb, lo + i, none⟩ = some (.int .i64 (p : Int)) := fun W h => by
                      have z := HC4.out W h
                      exact ⟨z.1.1, z.1.2, z.2.2, z.2.1.1, z.2.1.2.1, z.2.1.2.2.1, z.2.1.2.2.2.1, z.2.1.2.2.2.2, (h.cell (p := ⟨lb, lo + k, none⟩) hlbk).trans hlck, HLC.out W h⟩
                    have KC : ∀ {f : Nat} {args : Array Value} {W : World} {e0 : Ending}, Below w4.heap.size w4 W → (Calls Try.prog f args W fun e w' => e = e0 ∧ Below W.heap.size W w') → Calls Try.prog f args W fun e w' => e = e0 ∧ Below w4.heap.size w4 w' ∧ w'.cell? ⟨g, 0, none⟩ = some (.slice A L.length c) ∧ w'.cell? ⟨g, 1, none⟩ = some (.int .i64 s) ∧ w'.cell? ⟨g, 7, none⟩ = some (.int .i64 (a : Int)) ∧ w'.cell? ⟨g, 2, none⟩ = some (.int .i64 d) ∧ w'.cell? ⟨g, 3, none⟩ = some (.int .i64 deg) ∧ w'.cell? ⟨g, 4, none⟩ = some (.int .i64 bm) ∧ w'.cell? ⟨g, 5, none⟩ = some (.int .i64 nm) ∧ w'.cell? ⟨g, 6, none⟩ = some (.int .i64 dn) ∧ w'.cell? ⟨lb, lo + k, none⟩ = some (.int .i64 (pk : Int)) ∧ w'.cell? ⟨lb, lo + i, none⟩ = some (.int .i64 (p : Int)) := fun h C => C.mono fun e w' q => (by
                      have hw := h.trans (q.2.mono h.size)
                      exact ⟨q.1, hw, KS w' hw⟩)
                    have A6 := Lib.hid (fun W (h : Below w4.heap.size w4 W) => KC h (by have := HDM.out W h pk p hppkl hppl; rw [hlp] at this; exact this))
                    have HDK := HBk.out.drew
                    obtain ⟨j0, j1, j2, j3, j4, j5, j6, j7, j8, j9⟩ := KS _ HDK
                    clear KS KC hlbk hlck hlvk hlp epk hppkl hppka hppkP
                    go_wp2
                    first
                    | (go_region_held3 (fun w' => w'.cell? ⟨g, 0, none⟩ = some (.slice A L.length c) ∧ w'.cell? ⟨g, 1, none⟩ = some (.int .i64 s) ∧ w'.cell? ⟨g, 7, none⟩ = some (.int .i64 (a : Int)) ∧ w'.cell? ⟨g, 2, none⟩ = some (.int .i64 d) ∧ w'.cell? ⟨g, 3, none⟩ = some (.int .i64 deg) ∧ w'.cell? ⟨g, 4, none⟩ = some (.int .i64 bm) ∧ w'.cell? ⟨g, 5, none⟩ = some (.int .i64 nm) ∧ w'.cell? ⟨g, 6, none⟩ = some (.int .i64 dn) ∧ w'.cell? ⟨lb, lo + k, none⟩ = some (.int .i64 (pk : Int)) ∧ w'.cell? ⟨lb, lo + i, none⟩ = some (.int .i64 (p : Int)))
                      (first | exact ⟨by with_reducible assumption, by with_reducible assumption, by with_reducible assumption, by with_reducible assumption, by with_reducible assumption, by with_reducible assumption, by with_reducible assumption, by with_reducible assumption, by with_reducible assumption, by with_reducible assumption⟩)
                      (first
                        | (go_at_call 15; (with_reducible refine (A6.out _ (by with_reducible assumption)).mono ?_); rintro e wf ⟨rfl, bwf, zwf0, zwf1, zwf2, zwf3, zwf4, zwf5, zwf6, zwf7, zwf8, zwf9⟩)
                        | fail))
                    | fail
                    all_goals
                      have HBf := Lib.hid bwf
                      clear bwf zwf0 zwf1 zwf2 zwf3 zwf4 zwf5 zwf6 zwf7 zwf8 zwf9 j0 j1 j2 j3 j4 j5 j6 j7 j8 j9 HDK
                      go_wp2
                      go_roundw
                      case rel => exact ⟨k + 1, by omega, by go_num, HBf⟩
                      case measure => simp [intOf]; omega
                  · obtain rfl : k = i := by omega
                    have e2 : decide ((k : Int) < (k : Int)) = false := decide_eq_false (by omega)
                    go_wp2
                    go_roundw
                    case rel => exact ⟨k + 1, by omega, by go_num, HBk⟩
                    case measure => simp [intOf]; omega
          · as_aux_lemma =>
              have g1 : decide ((0 : Int) < (i : Int)) = false := decide_eq_false (by omega)
              have g2 : decide (0 < i) = false := decide_eq_false hi0
              have A1 := Lib.hid (fun (nq : Nat) => (hasQ_any B q P P.length rfl (p : Int) (wr.drewN nq) w4.heap.size (HPd.out.below (below_drewN HB.out nq)) hPl).mono (fun e w' qq => (⟨qq.1.trans (by rw [decide_eq_true hppP]), qq.2⟩ : e = .returned (.bool true) ∧ w' = wr.drewN nq)))
              have A2 := Lib.hid (fun (nq : Nat) => (hasQ_any (some ⟨lb, lo, none⟩) vc ((natI R).take i) i (by rw [List.length_take, natI_len]; omega) (p : Int) (wr.drewN nq) w4.heap.size ((HRd.out.below (below_drewN HB.out nq)).take i) (by rw [List.length_take, natI_len]; omega)).mono (fun e w' qq => (⟨qq.1.trans (by rw [decide_eq_false hnew]), qq.2⟩ : e = .returned (.bool false) ∧ w' = wr.drewN nq)))
              have z := HC4.out _ HB.out
              have j0 := z.1.1
              have j1 := z.1.2
              have j2 := z.2.2
              have j3 := HLC.out _ HB.out
              clear z ep hlbi hlci hlv hnew HDR
              go_wp2
              go_quiet ((go_at_call 20; first | with_reducible exact Calls.quiet_of_same (A1.out _) | with_reducible exact Calls.quiet_of_same (A2.out _)))
              all_goals
                have bwb := below_drewN HB.out nq
                clear j0 j1 j2 j3
                have HBe := Lib.hid bwb
                clear bwb
                go_wp2
                go_loopw [8] (fun k wr => ∃ x : Nat, x ≤ i ∧ k = .int .i64 x ∧ Hid (Below w4.heap.size w4 wr)) (fun k _ => i - (intOf k).toNat)
                case atStart => exact ⟨0, by omega, rfl, HBe⟩
                case round =>
                  clear HBe
                  obtain ⟨k, hk, rfl, HBk⟩ := hrel
                  by_cases hki : k < i
                  · exfalso; omega
                  · obtain rfl : k = i := by omega
                    have e2 : decide ((k : Int) < (k : Int)) = false := decide_eq_false (by omega)
                    go_wp2
                    go_roundw
                    case rel => exact ⟨k + 1, by omega, by go_num, HBk⟩
                    case measure => simp [intOf]; omega
        · obtain rfl : i = R.length := by omega
          have e1 : decide ((R.length : Int) < (R.length : Int)) = false := decide_eq_false (by omega)
          clear hlt hi
          go_wp2
          have HB1 := HB
          go_loopw [11] (fun i wr => ∃ k : Nat, k ≤ P.length ∧ i = .int .i64 k ∧ Hid (Below w4.heap.size w4 wr)) (fun i _ => P.length - (intOf i).toNat)
          case atStart => exact ⟨0, by omega, rfl, HB1⟩
          case round =>
            clear HB1 HB
            obtain ⟨i, hi, rfl, HB⟩ := hrel
            by_cases hlt : i < P.length
            · have e2 : decide ((i : Int) < (P.length : Int)) = true := decide_eq_true (by omega)
              obtain ⟨pb, po, t, rfl, hpb, hpc, hpv⟩ := HPd.out.at_ hlt
              have hmem : t ∈ P := by
                have := hpv.out
                rw [List.getElem?_eq_getElem hlt] at this
                have h2 : P[i] = t := this
                rw [← h2]; exact List.getElem_mem hlt
              have htr := HASK.out.all t hmem
              obtain ⟨p, rfl⟩ := Int.eq_ofNat_of_zero_le htr.1
              have hpl : p < L.length := by rw [HLN.out] at htr; omega
              have x1 : (0 : Int) ≤ (i : Int) := by omega
              have x2 : (i : Int) < (P.length : Int) := by omega
              have HPC : Hid (∀ W, Below w4.heap.size w4 W → W.cell? ⟨pb, po + i, none⟩ = some (.int .i64 (p : Int))) := Lib.hid (fun W h => (h.cell (p := ⟨pb, po + i, none⟩) hpb).trans hpc)
              have HDR := HB.out.drew
              have hRl2 : (natI R).length ≤ 1000000 := by rw [natI_len]; omega
              have j1 := (HC4.out _ HDR).2.2
              have j2 := HPC.out _ HDR
              by_cases hpa : p = a
              · subst hpa
                have x3 : ((p : Int) == (p : Int)) = true := by simp
                clear hpb hpc hpv hmem htr j1 j2 HDR
                have j1 := (HC4.out _ HB.out).2.2
                have j2 := HPC.out _ HB.out
                go_wp2
                go_quiet (fail)
                go_wp2
                go_roundw
                case rel => exact ⟨i + 1, by omega, by go_num, Lib.hid (below_drewN HB.out _)⟩
                case measure => simp [intOf]; omega
              · have x3 : ((p : Int) == (a : Int)) = false := by simp; omega
                have KS : ∀ W, Below w4.heap.size w4 W → W.cell? ⟨g, 7, none⟩ = some (.int .i64 (a : Int)) ∧ W.cell? ⟨pb, po + i, none⟩ = some (.int .i64 (p : Int)) := fun W h => by
                  exact ⟨(HC4.out W h).2.2, HPC.out W h⟩
                have KC : ∀ {f : Nat} {args : Array Value} {W : World} {e0 : Ending}, Below w4.heap.size w4 W → (Calls Try.prog f args W fun e w' => e = e0 ∧ Below W.heap.size W w') → Calls Try.prog f args W fun e w' => e = e0 ∧ Below w4.heap.size w4 w' ∧ w'.cell? ⟨g, 7, none⟩ = some (.int .i64 (a : Int)) ∧ w'.cell? ⟨pb, po + i, none⟩ = some (.int .i64 (p : Int)) := fun h C => C.mono fun e w' q => (by
                  have hw := h.trans (q.2.mono h.size)
                  exact ⟨q.1, hw, KS w' hw⟩)
                by_cases hin : p ∈ R
                · have hin2 : ((p : Int) ∈ natI R) := natI_mem.2 hin
                  have A1 := Lib.hid (fun W (h : Below w4.heap.size w4 W) => KC h ((hasQ_any V vc (natI R) R.length (natI_len R).symm (p : Int) W w4.heap.size (HRd.out.below h) hRl2).mono (fun e w' qq => (⟨qq.1.trans (by rw [decide_eq_true hin2]), by rw [qq.2]; exact Below.refl _ _⟩ : e = .returned (.bool true) ∧ Below W.heap.size W w'))))
                  clear KS KC hpb hpc hpv hmem htr hin hin2
                  go_wp2
                  first
                  | (go_region_held3 (fun w' => w'.cell? ⟨g, 7, none⟩ = some (.int .i64 (a : Int)) ∧ w'.cell? ⟨pb, po + i, none⟩ = some (.int .i64 (p : Int)))
                    (first | exact ⟨by with_reducible assumption, by with_reducible assumption⟩)
                    (first
                      | (go_at_call 20; (with_reducible refine (A1.out _ (by with_reducible assumption)).mono ?_); rintro e wa ⟨rfl, bwa, zwa0, zwa1⟩)
                      | fail))
                  | fail
                  all_goals
                    have HBD := Lib.hid bwa
                    clear zwa0 zwa1 bwa j1 j2 HDR
                    go_wp2
                    go_roundw
                    case rel => exact ⟨i + 1, by omega, by go_num, HBD⟩
                    case measure => simp [intOf]; omega
                · as_aux_lemma =>
                    have hin2 : ¬ ((p : Int) ∈ natI R) := fun h => hin (natI_mem.1 h)
                    have A1 := Lib.hid (fun W (h : Below w4.heap.size w4 W) => KC h ((hasQ_any V vc (natI R) R.length (natI_len R).symm (p : Int) W w4.heap.size (HRd.out.below h) hRl2).mono (fun e w' qq => (⟨qq.1.trans (by rw [decide_eq_false hin2]), by rw [qq.2]; exact Below.refl _ _⟩ : e = .returned (.bool false) ∧ Below W.heap.size W w'))))
                    have HEND := Lib.hid (HT.out.end_ hmem hpa hin)
                    have HD0 : Hid (aheadN (pns L) a p (R.take 0) = 0 ∧ aheadB (pns L) nm dn a p (R.take 0) = false) := Lib.hid ⟨rfl, rfl⟩
                    clear KS KC hpb hpc hpv hmem htr hin hin2
                    go_wp2
                    first
                    | (go_region_held3 (fun w' => w'.cell? ⟨g, 7, none⟩ = some (.int .i64 (a : Int)) ∧ w'.cell? ⟨pb, po + i, none⟩ = some (.int .i64 (p : Int)))
                      (first | exact ⟨by with_reducible assumption, by with_reducible assumption⟩)
                      (first
                        | (go_at_call 20; (with_reducible refine (A1.out _ (by with_reducible assumption)).mono ?_); rintro e wa ⟨rfl, bwa, zwa0, zwa1⟩)
                        | fail))
                    | fail
                    all_goals
                      have HBD := Lib.hid bwa
                      clear zwa0 zwa1 bwa j1 j2 HDR A1
                      go_wp2
                      go_loopw [12, 13, 14] (fun nv bv kv wr => ∃ k : Nat, k ≤ R.length ∧ kv = .int .i64 k ∧ nv = .int .i64 ((aheadN (pns L) a p (R.take k) : Nat) : Int) ∧ bv = .bool (aheadB (pns L) nm dn a p (R.take k)) ∧ Hid (Below w4.heap.size w4 wr)) (fun _ _ kv _ => R.length - (intOf kv).toNat)
                      case atStart => exact ⟨0, by omega, rfl, by rw [HD0.out.1]; rfl, by rw [HD0.out.2], HBD⟩
                      case round =>
                        clear HBD HD0
                        obtain ⟨k, hk, rfl, rfl, rfl, HBk⟩ := hrel
                        by_cases hkl : k < R.length
                        · have e3 : decide ((k : Int) < (R.length : Int)) = true := decide_eq_true (by omega)
                          obtain ⟨hppkl, hppka, hppkP⟩ := HSB.out k hkl
                          obtain ⟨pk, epk⟩ : ∃ x, R[k]'(hkl) = x := ⟨_, rfl⟩
                          rw [epk] at hppkl hppka hppkP
                          obtain ⟨lb, lo, t, rfl, hlbk, hlck, hlvk⟩ := HRd.out.at_ (i := k) (by rw [natI_len]; exact hkl)
                          have et : t = (pk : Int) := by rw [← hlvk.out, natI_at hkl, epk]
                          subst et
                          have x5 : (0 : Int) ≤ (k : Int) := by omega
                          have x6 : (k : Int) < (R.length : Int) := by omega
                          have HTS := Lib.hid (show R.take (k + 1) = R.take k ++ [pk] by rw [take_snoc hkl, epk])
                          have hNN : aheadN (pns L) a p (R.take k) ≤ 32 := by
                            unfold aheadN
                            exact Nat.le_trans (List.length_filter_le _ _) (by rw [List.length_take]; omega)
                          have HN1 := Lib.hid (aheadN_snoc (pns L) a p (R.take k) pk)
                          have HN2 := Lib.hid (aheadB_snoc (pns L) nm dn a p (R.take k) pk)
                          obtain ⟨nn, enn⟩ : ∃ x, aheadN (pns L) a p (R.take k) = x := ⟨_, rfl⟩
                          obtain ⟨bb, ebb⟩ : ∃ x, aheadB (pns L) nm dn a p (R.take k) = x := ⟨_, rfl⟩
                          rw [enn] at HN1 hNN
                          rw [ebb] at HN2
                          rw [← HTS.out] at HN1 HN2
                          rw [enn, ebb]
                          have KS : ∀ W, Below w4.heap.size w4 W → W.cell? ⟨g, 0, none⟩ = some (.slice A L.length c) ∧ W.cell? ⟨g, 1, none⟩ = some (.int .i64 s) ∧ W.cell? ⟨g, 7, none⟩ = some (.int .i64 (a : Int)) ∧ W.cell? ⟨lb, lo + k, none⟩ = some (.int .i64 (pk : Int)) ∧ W.cell? ⟨pb, po + i, none⟩ = some (.int .i64 (p : Int)) := fun W h => by
                            have z := HC4.out W h
                            exact ⟨z.1.1, z.1.2, z.2.2, (h.cell (p := ⟨lb, lo + k, none⟩) hlbk).trans hlck, HPC.out W h⟩
                          have KC : ∀ {f : Nat} {args : Array Value} {W : World} {e0 : Ending}, Below w4.heap.size w4 W → (Calls Try.prog f args W fun e w' => e = e0 ∧ Below W.heap.size W w') → Calls Try.prog f args W fun e w' => e = e0 ∧ Below w4.heap.size w4 w' ∧ w'.cell? ⟨g, 0, none⟩ = some (.slice A L.length c) ∧ w'.cell? ⟨g, 1, none⟩ = some (.int .i64 s) ∧ w'.cell? ⟨g, 7, none⟩ = some (.int .i64 (a : Int)) ∧ w'.cell? ⟨lb, lo + k, none⟩ = some (.int .i64 (pk : Int)) ∧ w'.cell? ⟨pb, po + i, none⟩ = some (.int .i64 (p : Int)) := fun h C => C.mono fun e w' q => (by
                            have hw := h.trans (q.2.mono h.size)
                            exact ⟨q.1, hw, KS w' hw⟩)
                          have A3 := Lib.hid (fun W (h : Below w4.heap.size w4 W) => KC h (HHT.out W h pk hppkl))
                          have A4 := Lib.hid (fun W (h : Below w4.heap.size w4 W) => KC h (HHT.out W h p hpl))
                          have A5 := Lib.hid (fun W (h : Below w4.heap.size w4 W) => KC h (HLS.out W (kQ (pns L) a pk) (kQ (pns L) a p)))
                          obtain ⟨m1, em1⟩ : ∃ x, (kQ (pns L) a pk).1 = x := ⟨_, rfl⟩
                          obtain ⟨m2, em2⟩ : ∃ x, (kQ (pns L) a pk).2 = x := ⟨_, rfl⟩
                          obtain ⟨m3, em3⟩ : ∃ x, (kQ (pns L) a p).1 = x := ⟨_, rfl⟩
                          obtain ⟨m4, em4⟩ : ∃ x, (kQ (pns L) a p).2 = x := ⟨_, rfl⟩
                          rw [em1, em2] at A3
                          rw [em3, em4] at A4
                          have hlq : ltQ (kQ (pns L) a pk) (kQ (pns L) a p) = ltP (pns L) a pk p := rfl
                          rw [hlq] at A5
                          obtain ⟨lv, elv⟩ : ∃ x, ltP (pns L) a pk p = x := ⟨_, rfl⟩
                          rw [elv] at A5 HN1 HN2
                          rw [em1, em2, em3, em4] at A5
                          have HDK := HBk.out.drew
                          have HLCK : Hid (∀ W, Below w4.heap.size w4 W → W.cell? ⟨lb, lo + k, none⟩ = some (.int .i64 (pk : Int))) := Lib.hid (fun W h => (h.cell (p := ⟨lb, lo + k, none⟩) hlbk).trans hlck)
                          obtain ⟨j0, j1, j2, j3, j4⟩ := KS _ HDK
                          clear em1 em2 em3 em4 KS KC hlq elv enn ebb epk hlbk hlck hlvk hppka hppkP
                          go_wp2
                          first
                          | (go_region_held3 (fun w' => w'.cell? ⟨g, 0, none⟩ = some (.slice A L.length c) ∧ w'.cell? ⟨g, 1, none⟩ = some (.int .i64 s) ∧ w'.cell? ⟨g, 7, none⟩ = some (.int .i64 (a : Int)) ∧ w'.cell? ⟨lb, lo + k, none⟩ = some (.int .i64 (pk : Int)) ∧ w'.cell? ⟨pb, po + i, none⟩ = some (.int .i64 (p : Int)))
                            (first | exact ⟨by with_reducible assumption, by with_reducible assumption, by with_reducible assumption, by with_reducible assumption, by with_reducible assumption⟩)
                            (first
                              | (go_at_call 22; (with_reducible refine (A3.out _ (by with_reducible assumption)).mono ?_); rintro e wc ⟨rfl, bwc, zwc0, zwc1, zwc2, zwc3, zwc4⟩)
                              | (go_at_call 22; (with_reducible refine (A4.out _ (by with_reducible assumption)).mono ?_); rintro e wd ⟨rfl, bwd, zwd0, zwd1, zwd2, zwd3, zwd4⟩)
                              | (go_at_call 21; (with_reducible refine (A5.out _ (by with_reducible assumption)).mono ?_); rintro e we ⟨rfl, bwe, zwe0, zwe1, zwe2, zwe3, zwe4⟩)
                              | fail))
                          | fail
                          all_goals
                            have HBe := Lib.hid bwe
                            clear zwc0 zwc1 zwc2 zwc3 zwc4 zwd0 zwd1 zwd2 zwd3 zwd4 zwe0 zwe1 zwe2 zwe3 zwe4 bwc bwd bwe j0 j1 j2 j3 j4 HDK
                            cases lv with
                            | false =>
                              have HN1' : Hid (aheadN (pns L) a p (R.take (k + 1)) = nn) := Lib.hid (by rw [HN1.out]; simp)
                              have HN2' : Hid (aheadB (pns L) nm dn a p (R.take (k + 1)) = bb) := Lib.hid (by rw [HN2.out]; simp)
                              go_wp2
                              go_roundw
                              case rel => exact ⟨k + 1, by omega, by go_num, by rw [HN1'.out], by rw [HN2'.out], HBe⟩
                              case measure => simp [intOf]; omega
                            | true =>
                              have KS : ∀ W, Below w4.heap.size w4 W → W.cell? ⟨g, 0, none⟩ = some (.slice A L.length c) ∧ W.cell? ⟨g, 1, none⟩ = some (.int .i64 s) ∧ W.cell? ⟨g, 7, none⟩ = some (.int .i64 (a : Int)) ∧ W.cell? ⟨g, 2, none⟩ = some (.int .i64 d) ∧ W.cell? ⟨g, 3, none⟩ = some (.int .i64 deg) ∧ W.cell? ⟨g, 4, none⟩ = some (.int .i64 bm) ∧ W.cell? ⟨g, 5, none⟩ = some (.int .i64 nm) ∧ W.cell? ⟨g, 6, none⟩ = some (.int .i64 dn) ∧ W.cell? ⟨lb, lo + k, none⟩ = some (.int .i64 (pk : Int)) ∧ W.cell? ⟨pb, po + i, none⟩ = some (.int .i64 (p : Int)) := fun W h => by
                                have z := HC4.out W h
                                exact ⟨z.1.1, z.1.2, z.2.2, z.2.1.1, z.2.1.2.1, z.2.1.2.2.1, z.2.1.2.2.2.1, z.2.1.2.2.2.2, HLCK.out W h, HPC.out W h⟩
                              have KC : ∀ {f : Nat} {args : Array Value} {W : World} {e0 : Ending}, Below w4.heap.size w4 W → (Calls Try.prog f args W fun e w' => e = e0 ∧ Below W.heap.size W w') → Calls Try.prog f args W fun e w' => e = e0 ∧ Below w4.heap.size w4 w' ∧ w'.cell? ⟨g, 0, none⟩ = some (.slice A L.length c) ∧ w'.cell? ⟨g, 1, none⟩ = some (.int .i64 s) ∧ w'.cell? ⟨g, 7, none⟩ = some (.int .i64 (a : Int)) ∧ w'.cell? ⟨g, 2, none⟩ = some (.int .i64 d) ∧ w'.cell? ⟨g, 3, none⟩ = some (.int .i64 deg) ∧ w'.cell? ⟨g, 4, none⟩ = some (.int .i64 bm) ∧ w'.cell? ⟨g, 5, none⟩ = some (.int .i64 nm) ∧ w'.cell? ⟨g, 6, none⟩ = some (.int .i64 dn) ∧ w'.cell? ⟨lb, lo + k, none⟩ = some (.int .i64 (pk : Int)) ∧ w'.cell? ⟨pb, po + i, none⟩ = some (.int .i64 (p : Int)) := fun h C => C.mono fun e w' q => (by
                                have hw := h.trans (q.2.mono h.size)
                                exact ⟨q.1, hw, KS w' hw⟩)
                              have A6 := Lib.hid (fun W (h : Below w4.heap.size w4 W) => KC h (HDM.out W h pk p hppkl hpl))
                              obtain ⟨dv, edv⟩ : ∃ x, ndP (pns L) nm dn a pk p = x := ⟨_, rfl⟩
                              rw [edv] at A6 HN2
                              have HN1' : Hid (aheadN (pns L) a p (R.take (k + 1)) = nn + 1) := Lib.hid (by rw [HN1.out]; simp)
                              have HN2' : Hid (aheadB (pns L) nm dn a p (R.take (k + 1)) = (bb || dv)) := Lib.hid (by rw [HN2.out]; simp)
                              have HDE := HBe.out.drew
                              obtain ⟨j0, j1, j2, j3, j4, j5, j6, j7, j8, j9⟩ := KS _ HDE
                              clear KS KC edv
                              go_wp2
                              first
                              | (go_region_held3 (fun w' => w'.cell? ⟨g, 0, none⟩ = some (.slice A L.length c) ∧ w'.cell? ⟨g, 1, none⟩ = some (.int .i64 s) ∧ w'.cell? ⟨g, 7, none⟩ = some (.int .i64 (a : Int)) ∧ w'.cell? ⟨g, 2, none⟩ = some (.int .i64 d) ∧ w'.cell? ⟨g, 3, none⟩ = some (.int .i64 deg) ∧ w'.cell? ⟨g, 4, none⟩ = some (.int .i64 bm) ∧ w'.cell? ⟨g, 5, none⟩ = some (.int .i64 nm) ∧ w'.cell? ⟨g, 6, none⟩ = some (.int .i64 dn) ∧ w'.cell? ⟨lb, lo + k, none⟩ = some (.int .i64 (pk : Int)) ∧ w'.cell? ⟨pb, po + i, none⟩ = some (.int .i64 (p : Int)))
                                (first | exact ⟨by with_reducible assumption, by with_reducible assumption, by with_reducible assumption, by with_reducible assumption, by with_reducible assumption, by with_reducible assumption, by with_reducible assumption, by with_reducible assumption, by with_reducible assumption, by with_reducible assumption⟩)
                                (first
                                  | (go_at_call 15; (with_reducible refine (A6.out _ (by with_reducible assumption)).mono ?_); rintro e wf ⟨rfl, bwf, zwf0, zwf1, zwf2, zwf3, zwf4, zwf5, zwf6, zwf7, zwf8, zwf9⟩)
                                  | fail))
                              | fail
                              all_goals
                                have HBf := Lib.hid bwf
                                clear zwf0 zwf1 zwf2 zwf3 zwf4 zwf5 zwf6 zwf7 zwf8 zwf9 bwf j0 j1 j2 j3 j4 j5 j6 j7 j8 j9 HDE
                                cases bb with
                                | true =>
                                  go_wp2
                                  go_roundw
                                  case rel => exact ⟨k + 1, by omega, by go_num, by rw [HN1'.out]; go_num, by rw [HN2'.out]; rfl, HBf⟩
                                  case measure => simp [intOf]; omega
                                | false =>
                                  go_wp2
                                  go_roundw
                                  case rel => exact ⟨k + 1, by omega, by go_num, by rw [HN1'.out]; go_num, by rw [HN2'.out]; rfl, HBf⟩
                                  case measure => simp [intOf]; omega
                        · obtain rfl : k = R.length := by omega
                          have e3 : decide ((R.length : Int) < (R.length : Int)) = false := decide_eq_false (by omega)
                          have hend := HEND.out
                          rw [List.take_length]
                          have hNN : aheadN (pns L) a p R ≤ 32 := by
                            unfold aheadN
                            exact Nat.le_trans (List.length_filter_le _ _) hRl
                          obtain ⟨nn, enn⟩ : ∃ x, aheadN (pns L) a p R = x := ⟨_, rfl⟩
                          obtain ⟨bb, ebb⟩ : ∃ x, aheadB (pns L) nm dn a p R = x := ⟨_, rfl⟩
                          rw [enn] at hend hNN ⊢
                          rw [ebb] at hend ⊢
                          obtain ⟨⟨y0, y1⟩, ⟨q0, q1, q2, q3, q4⟩, q5⟩ := HC4.out _ HBk.out
                          cases bb with
                          | true =>
                            clear hend enn ebb
                            go_wp2
                            go_roundw
                            case rel => exact ⟨i + 1, by omega, by go_num, HBk⟩
                            case measure => simp [intOf]; omega
                          | false =>
                            have hd2 : nn = deg.toNat := by
                              rcases hend with h | h
                              · cases h
                              · exact h
                            have f1 : decide ((nn : Int) < deg) = false := decide_eq_false (by omega)
                            clear hend enn ebb hd2
                            go_wp2
                            go_roundw
                            case rel => exact ⟨i + 1, by omega, by go_num, HBk⟩
                            case measure => simp [intOf]; omega
            · obtain rfl : i = P.length := by omega
              have e2 : decide ((P.length : Int) < (P.length : Int)) = false := decide_eq_false (by omega)
              go_wp2
              go_ret
              exact ⟨rfl, HUP4.out _ HB.out⟩
end Go.Proofs.Ytjdidlbmgnfcdaa
