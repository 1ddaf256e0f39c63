/- The walk of PruneAgain. -/
import Derived.Test.YtjdidlbmgnfcdaaUl
import Derived.Test.YtjdidlbmgnfcdaaIf
import Derived.Test.YtjdidlbmgnfcdaaKc
import Derived.Deep.Cut
import Derived.Deep.RegionHeld3
namespace Go.Proofs.Ytjdidlbmgnfcdaa
open Go.RowKit Go.Lib
set_option linter.unusedVariables false
set_option linter.unusedSimpArgs false
theorem zs_self (xs : List Int) : eqZ xs xs = true := by simp [eqZ]
theorem keepB_sub {G : List Pn} {s d deg b n m at_ : Int} {P Q : List Int} (h : keepB G s d deg b n m at_ P = true) (hl : Q.length ≤ 2048) (hq : ∀ p ∈ Q, p ∈ P) : keepB G s d deg b n m at_ Q = true := by
  unfold keepB at *
  simp only [Bool.and_eq_true] at *
  exact ⟨decide_eq_true hl, askB_sub h.2 hq⟩
theorem tw_next {P : List Int} {j : Nat} {t : Int} (hj : j < P.length) (ht : P[j]? = some t) : tw P (P.length - j) = tw P (P.length - (j + 1)) ++ [t, t] := by
  obtain ⟨k, e⟩ : ∃ k, P.length - (j + 1) = k := ⟨_, rfl⟩
  rw [e, show P.length - j = k + 1 by omega]
  show tw P k ++ [P[P.length - 1 - k]?.getD 0, P[P.length - 1 - k]?.getD 0] = _
  rw [show P.length - 1 - k = j by omega, ht]; rfl
theorem best_own {G : List Pn} {a : Nat} {P : List Int} {k : Nat} {b : Int} (h : BestIs G a P k b) (hp : P[k]? = some (a : Int)) : BestIs G a P (k + 1) b := by
  rcases h with ⟨hb, h⟩ | ⟨p, hb, h1, h2, h3, h4⟩
  · refine .inl ⟨hb, fun j hj => ?_⟩
    by_cases e : j = k
    · subst e; rw [hp]; rfl
    · exact h j (by omega)
  · refine .inr ⟨p, hb, h1, h2, h3, fun j q hj hq hqa => ?_⟩
    by_cases e : j = k
    · subst e
      rw [hp] at hq
      have : (a : Int) = (q : Int) := hq
      exact absurd (by omega : q = a) hqa
    · exact h4 j q (by omega) hq hqa
theorem best_new {G : List Pn} {dm : Nat} (hG : PG G dm) {a p : Nat} {P : List Int} {k : Nat} {b : Int} (h : BestIs G a P k b) (hp : P[k]? = some (p : Int)) (hl : p < G.length) (hpa : p ≠ a) (hb : b = -1 ∨ ∃ q : Nat, b = (q : Int) ∧ ltP G a p q = true) : BestIs G a P (k + 1) (p : Int) := by
  have O := ordP hG a
  refine .inr ⟨p, rfl, hl, hpa, List.mem_of_getElem? hp, fun j q hj hq hqa => ?_⟩
  by_cases e : j = k
  · subst e
    rw [hp] at hq
    have e2 : (p : Int) = (q : Int) := hq
    have e3 : p = q := by omega
    subst e3
    exact O.irr p
  · rcases h with ⟨hb1, h⟩ | ⟨p0, hb1, h1, h2, h3, h4⟩
    · have := h j (by omega)
      rw [hq] at this
      exact absurd (by omega : q = a) hqa
    · rcases hb with hb | ⟨q0, hb, hlt⟩
      · omega
      · have e3 : p0 = q0 := by omega
        subst e3
        have h5 := h4 j q (by omega) hq hqa
        cases hc : ltP G a q p with
        | false => rfl
        | true => rw [O.tr q p p0 hc hlt] at h5; cases h5
theorem best_old {G : List Pn} {a p b : Nat} {P : List Int} {k : Nat} (h : BestIs G a P k (b : Int)) (hp : P[k]? = some (p : Int)) (hlt : ltP G a p b = false) : BestIs G a P (k + 1) (b : Int) := by
  rcases h with ⟨hb, h⟩ | ⟨p0, hb, h1, h2, h3, h4⟩
  · omega
  · refine .inr ⟨p0, hb, h1, h2, h3, fun j q hj hq hqa => ?_⟩
    by_cases e : j = k
    · subst e
      rw [hp] at hq
      have e2 : (p : Int) = (q : Int) := hq
      have e3 : p = q := by omega
      have e4 : b = p0 := by omega
      subst e3; subst e4
      exact hlt
    · exact h4 j q (by omega) hq hqa
theorem best_cases {G : List Pn} {a : Nat} {P : List Int} {k : Nat} {b : Int} (h : BestIs G a P k b) : b = -1 ∨ ∃ q : Nat, b = (q : Int) ∧ q < G.length := by
  rcases h with ⟨hb, h⟩ | ⟨p, hb, h1, h2, h3, h4⟩
  · exact .inl hb
  · exact .inr ⟨p, hb, h1⟩
theorem best_end {G : List Pn} {s d b : Int} {n m deg : Int} {a : Nat} {P : List Int} (hA : Asked G s d deg b n m (a : Int) P) {bb : Int} {R : List Nat} (h : BestIs G a P P.length bb) (hR : keepL G n m deg a P = R) (ht : Told G n m deg.toNat a P R) : (bb = -1 ∧ R.length = 0) ∨ ∃ p : Nat, bb = (p : Int) ∧ 0 < R.length ∧ R[0]? = some p := by
  rcases h.end_ hA.pg (n := n) (m := m) (deg := deg) hA.dg.1 hA.all hR ht with ⟨h1, h2⟩ | ⟨p, T, h1, h2⟩
  · exact .inl ⟨h1, by rw [h2]; rfl⟩
  · exact .inr ⟨p, h1, by rw [h2]; simp, by rw [h2]; rfl⟩
set_option maxRecDepth 100000 in
set_option maxHeartbeats 16000000 in
theorem pruneAgain_main (A : Option Addr) (c : Nat) (L : List Gn) (s d deg bm nm dn at_ : Int) (B : Option Addr) (q : Nat) (P : List Int) (w : World) (hx : GGiven w A L) (hp : Rd .i64 w w.heap.size B P) (hPq : P.length ≤ q) :
    Calls Try.prog 6 #[.agg #[.slice A L.length c, .int .i64 s, .int .i64 d, .int .i64 deg, .int .i64 bm, .int .i64 nm, .int .i64 dn, .int .i64 at_], .slice B P.length q] w fun e w' => e = .returned (.bool true) ∧ Below w.heap.size w w' := by
  have HW0 := Lib.hid (Whole.new w 42 #[.slice A L.length c, .int .i64 s, .int .i64 d, .int .i64 deg, .int .i64 bm, .int .i64 nm, .int .i64 dn, .int .i64 at_])
  have HB0 := Lib.hid (below_one (Below.refl w.heap.size w) (.cells #[.slice A L.length c, .int .i64 s, .int .i64 d, .int .i64 deg, .int .i64 bm, .int .i64 nm, .int .i64 dn, .int .i64 at_] 42))
  have HX := Lib.hid hx
  have HP := Lib.hid hp
  clear hp
  clear hx
  go_enter Try.func6, Try.ntmps6
  go_upto_region 1 with fail
  obtain ⟨w1, ew1⟩ : ∃ w1, w.alloc (.cells #[.slice A L.length c, .int .i64 s, .int .i64 d, .int .i64 deg, .int .i64 bm, .int .i64 nm, .int .i64 dn, .int .i64 at_] 42) = w1 := ⟨_, rfl⟩
  rw [ew1] at HW0 HB0 ⊢
  obtain ⟨g, eg⟩ : ∃ g, w.heap.size = g := ⟨_, rfl⟩
  rw [eg] at HW0 ⊢
  have HG := Lib.hid eg
  clear ew1 eg
  go_wp2_with fail
  refine (aliveQ_any w1).mono ?_
  rintro e w2 ⟨rfl, b2⟩
  dsimp only
  have HB2 := Lib.hid (HB0.out.trans (b2.mono HB0.out.size))
  have Z2 := HW0.out.below b2 HW0.out.lt
  have HZ2 := Lib.hid Z2
  have y0 := Z2.cell 0
  have y1 := Z2.cell 1
  clear Z2 b2 HB0 HW0
  go_wp2_with fail
  refine (great9_any A c L s w2 (HX.out.below HB2.out)).mono ?_
  rintro e w3 ⟨⟨gb, rfl, hgb⟩, b3⟩
  dsimp only
  have HB3 := Lib.hid (HB2.out.trans (b3.mono HB2.out.size))
  clear y0 y1
  cases gb with
  | true =>
    clear hgb
    go_wp2_with fail
    refine (aliveQ_any w3).mono ?_
    rintro e w4 ⟨rfl, b4⟩
    dsimp only
    go_wp2
    go_ret
    exact ⟨rfl, HB3.out.trans (b4.mono HB3.out.size)⟩
  | false =>
    have HSM := Lib.hid (hgb rfl)
    have Z3 := HZ2.out.below b3 HZ2.out.lt
    have HZ3 := Lib.hid Z3
    clear hgb b3 HZ2 HB2 Z3
    have HAR : Hid (GArg w A L) := Lib.hid (HX.out.arg HSM.out)
    have HLN := Lib.hid (pns_len L)
    have HRM : Hid (∀ x ∈ L, x.2.2.2.2.length ≤ x.2.2.2.1) := Lib.hid (fun x hx => (HX.out.room x hx).2.1)
    have HCL : Hid (∀ W, Below w3.heap.size w3 W → ((W.cell? ⟨g, 0, none⟩ = some (.slice A L.length c) ∧ W.cell? ⟨g, 1, none⟩ = some (.int .i64 s)) ∧ (W.cell? ⟨g, 2, none⟩ = some (.int .i64 d) ∧ W.cell? ⟨g, 3, none⟩ = some (.int .i64 deg) ∧ W.cell? ⟨g, 4, none⟩ = some (.int .i64 bm) ∧ W.cell? ⟨g, 5, none⟩ = some (.int .i64 nm) ∧ W.cell? ⟨g, 6, none⟩ = some (.int .i64 dn)) ∧ W.cell? ⟨g, 7, none⟩ = some (.int .i64 at_))) := Lib.hid (fun W h => by
      have z0 := HZ3.out.below h HZ3.out.lt
      exact ⟨⟨z0.cell 0, z0.cell 1⟩, ⟨z0.cell 2, z0.cell 3, z0.cell 4, z0.cell 5, z0.cell 6⟩, z0.cell 7⟩)
    have HUP : Hid (∀ W, Below w3.heap.size w3 W → Below w.heap.size w W) := Lib.hid (fun W h => HB3.out.trans (h.mono HB3.out.size))
    have hL : L.length ≤ 20000 := by have := HSM.out.len; rwa [pns_len] at this
    obtain ⟨⟨y0, y1⟩, ⟨q0, q1, q2, q3, q4⟩, q5⟩ := HCL.out _ (Below.refl _ _)
    by_cases hn : 300 < P.length
    case pos =>
      have ez : decide ((300 : Int) < (P.length : Int)) = true := decide_eq_true (by omega)
      go_wp2_with fail
      refine (aliveQ_any w3).mono ?_
      rintro e w4 ⟨rfl, b4⟩
      dsimp only
      go_wp2
      go_ret
      exact ⟨rfl, HB3.out.trans (b4.mono HB3.out.size)⟩
    have ez : decide ((300 : Int) < (P.length : Int)) = false := decide_eq_false (by omega)
    have KP := keep_any A c L s d deg bm nm dn at_ B q P w3 (HAR.out.below HB3.out) HRM.out ((HP.out.below HB3.out).more HB3.out.size) (by omega)
    clear ez
    go_wp2_with fail
    refine KP.mono ?_
    intro e w4 hans
    cases hkb : keepB (pns L) s d deg bm nm dn at_ P with
    | false =>
      obtain ⟨V, vc, rfl, b4⟩ := keepNo hans hkb
      dsimp only
      clear hans hkb KP y0 y1 q0 q1 q2 q3 q4 q5
      go_wp2
      go_ret
      exact ⟨rfl, HUP.out _ b4⟩
    | true =>
      have hask := keepB_yes HX.out.ok hkb
      obtain ⟨a, rfl⟩ := Int.eq_ofNat_of_zero_le hask.at0.1
      obtain ⟨R, eR⟩ : ∃ R, keepL (pns L) nm dn deg a P = R := ⟨_, rfl⟩
      have htold := keepL_told (n := nm) (m := dn) (deg := deg) (a := a) hask.pg hask.all
      rw [eR] at htold
      obtain ⟨V, vc, rfl, ho4, b4⟩ := keepYes hans hkb eR
      dsimp only
      have hln := pns_len L
      have haL : a < L.length := by have := hask.at0.2; omega
      have hL2 : L.length ≤ 2048 := by have := hask.pg.len; omega
      have hdg := hask.dg
      have HASK := Lib.hid hask
      have HT := Lib.hid htold
      have HKB := Lib.hid hkb
      have HB4 := Lib.hid b4
      have HO4 := Lib.hid ho4
      have HER := Lib.hid eR
      have HUP4 : Hid (∀ W, Below w4.heap.size w4 W → Below w.heap.size w W) := Lib.hid (fun W h => HUP.out W (b4.trans (h.mono b4.size)))
      have HC4 : Hid (∀ W, Below w4.heap.size w4 W → ((W.cell? ⟨g, 0, none⟩ = some (.slice A L.length c) ∧ W.cell? ⟨g, 1, none⟩ = some (.int .i64 s)) ∧ (W.cell? ⟨g, 2, none⟩ = some (.int .i64 d) ∧ W.cell? ⟨g, 3, none⟩ = some (.int .i64 deg) ∧ W.cell? ⟨g, 4, none⟩ = some (.int .i64 bm) ∧ W.cell? ⟨g, 5, none⟩ = some (.int .i64 nm) ∧ W.cell? ⟨g, 6, none⟩ = some (.int .i64 dn)) ∧ W.cell? ⟨g, 7, none⟩ = some (.int .i64 (a : Int)))) := Lib.hid (fun W h => HCL.out W (b4.trans (h.mono b4.size)))
      have HRd : Hid (Rd .i64 w4 w4.heap.size V (natI R)) := Lib.hid (own_rdU (xs := natI R) (n := R.length) ho4)
      have HPd : Hid (Rd .i64 w4 w4.heap.size B P) := Lib.hid (by
        have h1 := HB3.out.trans (b4.mono HB3.out.size)
        exact (HP.out.below h1).more h1.size)
      have hRl : R.length ≤ 32 := by have := htold.few; omega
      have hdeg : (R.length : Int) ≤ deg := by have := htold.few; omega
      have HDM := Lib.hid (fun W (h : Below w4.heap.size w4 W) (x y : Nat) (hx : x < L.length) (hy : y < L.length) => (by
        have h1 := dominQ_any A c L s d deg bm nm dn (a : Int) (x : Int) (y : Int) W (HAR.out.below (HUP4.out W h)) HRM.out
        obtain ⟨h2, h3⟩ := HASK.out.dom (x := x) (y := y) (by rw [hln]; exact hx) (by rw [hln]; exact hy)
        rw [h2, h3] at h1
        exact h1 : Calls Try.prog 15 #[.agg #[.slice A L.length c, .int .i64 s], .agg #[.int .i64 d, .int .i64 deg, .int .i64 bm, .int .i64 nm, .int .i64 dn], .int .i64 (a : Int), .int .i64 (x : Int), .int .i64 (y : Int)] W fun e w' => e = .returned (.tuple #[.bool (ndP (pns L) nm dn a x y), .int .i64 0]) ∧ Below W.heap.size W w'))
      have HHT := Lib.hid (fun W (h : Below w4.heap.size w4 W) (x : Nat) (hx : x < L.length) => hitQ_any A c L s d.toNat HASK.out.pg a x haL hx W (HAR.out.below (HUP4.out W h)).rd)
      have HLS := Lib.hid (fun W (x y : Int × Int) => (lessQ_any x.1 x.2 y.1 y.2 W).mono (fun e w' q => (by
        obtain ⟨q1, rfl⟩ := q
        exact ⟨q1, below_one (below_one (Below.refl _ _) _) _⟩ : e = .returned (.bool (ltQ x y)) ∧ Below W.heap.size W w')))
      have HSB : Hid (∀ i, (h : i < R.length) → R[i] < L.length ∧ R[i] ≠ a ∧ ((R[i] : Nat) : Int) ∈ P) := Lib.hid (fun i h => by
        obtain ⟨h1, h2, h3⟩ := htold.sub R[i] (List.getElem_mem h)
        exact ⟨by omega, h2, h3⟩)
      clear hans hkb hask htold eR ho4 b4 KP y0 y1 q0 q1 q2 q3 q4 q5 hln

      obtain ⟨i0, hi, hz0, hz1, hz2⟩ := info_parts Try.info3k
      have CB : Hid (Below w4.heap.size w4 w4) := Lib.hid (Below.refl _ _)
      have CO : Hid (w4.ownsRow w4.heap.size 3 1 (.slice none 0 0) 0 ((tw P (P.length - P.length)).map (Value.int .i64))) := Lib.hid (by rw [Nat.sub_self]; exact ⟨rfl, .inl ⟨rfl, rfl⟩⟩)
      obtain ⟨⟨y0, y1⟩, ⟨q0, q1, q2, q3, q4⟩, q5⟩ := HC4.out _ (Below.refl _ _)
      go_wp2
      clear y0 y1 q0 q1 q2 q3 q4 q5
      go_loopw [7, 8] (fun v i wr => ∃ (m : Nat) (x : Int) (N : Nat) (T : Option Addr) (tc : Nat), i = .int .i64 x ∧ x + 1 ≤ (m : Int) ∧ (m : Int) ≤ x + 1 ∧ m ≤ P.length ∧ Hid (N = 2 * (P.length - m)) ∧ v = .slice T N tc ∧ Hid (wr.ownsRow w4.heap.size 3 1 (.slice T N tc) N ((tw P (P.length - m)).map (Value.int .i64))) ∧ Hid (Below w4.heap.size w4 wr)) (fun _ i _ => (intOf i + 1).toNat)
      case atStart => exact ⟨P.length, (P.length : Int) - 1, 0, none, 0, by go_num, by omega, by omega, by omega, Lib.hid (by omega), rfl, CO, CB⟩
      case round =>
        clear CB CO
        obtain ⟨m, x, N, T, tc, rfl, hx1, hx2, hm, HN, rfl, HO, HB⟩ := hrel
        by_cases hx0 : 0 ≤ x
        · obtain ⟨j, rfl⟩ := Int.eq_ofNat_of_zero_le hx0
          obtain rfl : m = j + 1 := by omega
          have hj : j < P.length := by omega
          have hNl : N ≤ 600 := by have := HN.out; omega
          have HN6 : Hid (N + 2 = 2 * (P.length - j)) := Lib.hid (by have := HN.out; omega)
          have e1 : decide ((0 : Int) ≤ (j : Int)) = true := decide_eq_true (by omega)
          obtain ⟨pb, po, t, rfl, hpb, hpc, hpv⟩ := HPd.out.at_ hj
          have hmem : P[j]? = some t := by
            have := hpv.out
            rw [List.getElem?_eq_getElem hj] at this ⊢
            exact congrArg some this
          have HTW := Lib.hid (tw_next hj hmem)
          have x1 : (0 : Int) ≤ (j : Int) := by omega
          have x2 : (j : Int) < (P.length : Int) := by omega
          have HPC : Hid (∀ W, Below w4.heap.size w4 W → W.cell? ⟨pb, po + j, none⟩ = some (.int .i64 t) ∧ Below w4.heap.size w4 W) := Lib.hid (fun W h => ⟨(h.cell (p := ⟨pb, po + j, none⟩) hpb).trans hpc, h⟩)
          have HDR := HB.out.drew
          have hsz := HB.out.size
          obtain ⟨j1, j2⟩ := HPC.out _ HDR
          clear hpb hpc hpv hmem hx0 hx1 hx2
          go_wp2
          go_region_held3 (fun w' => w'.cell? ⟨pb, po + j, none⟩ = some (.int .i64 t) ∧ Below w4.heap.size w4 w')
            (first | exact ⟨by with_reducible assumption, by with_reducible assumption⟩ | exact HPC.out _ (Below.alloc (by with_reducible assumption) (Below.size (by with_reducible assumption)) _))
            (first
              | (refine step_append_lies _ (by rfl) _ _ _ (by rfl) w4.heap.size 3 i0 (.int .i64 0) 1 8 Try.underlying27 hi hz0 hz1 hz2 rfl (by omega) (.slice T N tc) N ((tw P (P.length - (j + 1))).map (Value.int .i64)) (by rfl) (own_below HO.out (below_one (Below.refl _ _).drew _)) ⟨wr.heap.size, 0, none⟩ 2 2 [.int .i64 t, .int .i64 t] (by rfl) (by rfl) (World.news_of_block (cs := #[.int .i64 t, .int .i64 t]) (t := 3) (fr := (0, 0)) (heap_alloc_new wr.drew _)) (by simp [Value.oneCell']) (by omega) (by unfold maxLen; omega) (by omega) (by show w4.heap.size ≤ (wr.drew.alloc _).heap.size; rw [World.size_alloc]; exact Nat.le_succ_of_le hsz) (wr.heap.size + 1) (by simp) ?_; intro gg gcap w6 hown6 hgrow6 hat6 hlt6
                 have b6 : Below w4.heap.size w4 w6 := (below_one HDR _).grown hgrow6 (by show w4.heap.size ≤ (wr.drew.alloc _).heap.size; rw [World.size_alloc]; exact Nat.le_succ_of_le hsz) (fun r hr => (HO.out.lt r hr).1)
                 obtain ⟨z1, z2⟩ := HPC.out w6 b6)
              | fail)
          all_goals
            have HO6 : Hid (w6.ownsRow w4.heap.size 3 1 (.slice (some ⟨gg, 0, none⟩) (N + 2) gcap) (N + 2) ((tw P (P.length - j)).map (Value.int .i64))) := Lib.hid (by rw [HTW.out, List.map_append]; exact hown6)
            have HB6 := Lib.hid b6
            clear hown6 hgrow6 hat6 hlt6 b6 z1 z2 j1 j2
            go_wp2
            go_roundw
            case rel => exact ⟨j, (j : Int) - 1, N + 2, some ⟨gg, 0, none⟩, gcap, by go_num, by omega, by omega, by omega, HN6, rfl, HO6, HB6⟩
            case measure => (simp [intOf] <;> omega)
        · obtain rfl : m = 0 := by omega
          have e1 : decide ((0 : Int) ≤ x) = false := decide_eq_false hx0
          rw [Nat.sub_zero] at HO
          obtain ⟨Q, eQ⟩ : ∃ Q, tw P P.length = Q := ⟨_, rfl⟩
          have HQ : Hid (∀ x, x ∈ Q ↔ x ∈ P) := Lib.hid (fun x => by rw [← eQ]; exact tw_all P x)
          have hQl : N = Q.length := by have := HN.out; rw [← eQ, tw_len]; omega
          rw [eQ] at HO
          clear eQ
          subst hQl
          have hQ : Q.length ≤ 600 := by have := HN.out; omega
          clear hx0 hx1 hx2 hm HN
          have KQ := keep_any A c L s d deg bm nm dn (a : Int) V vc (natI R) wr (HAR.out.below (HUP4.out _ HB.out)) HRM.out ((HRd.out.below HB.out).more HB.out.size) (by rw [natI_len]; omega)
          have hk2 : keepB (pns L) s d deg bm nm dn (a : Int) (natI R) = true := keepB_sub HKB.out (by rw [natI_len]; omega) (fun p hp => by
            obtain ⟨x, hx, rfl⟩ := List.mem_map.1 hp
            exact (HT.out.sub x hx).2.2)
          rw [natI_len] at KQ
          obtain ⟨⟨y0, y1⟩, ⟨q0, q1, q2, q3, q4⟩, q5⟩ := HC4.out _ HB.out
          go_wp2_with fail
          refine KQ.mono ?_
          intro e w5 hans
          obtain ⟨V2, c2, rfl, ho5, b5⟩ := keepYes hans hk2 (keepL_again HASK.out.pg HT.out)
          dsimp only
          clear hans hk2 KQ y0 y1 q0 q1 q2 q3 q4 q5
          have HB5 := Lib.hid (HB.out.trans (b5.mono HB.out.size))
          have HO5 := Lib.hid ho5
          have HTd : Hid (Rd .i64 w5 w5.heap.size T Q) := Lib.hid (((own_rdU HO.out).below b5).more b5.size)
          clear ho5 b5 HO
          have KT := keep_any A c L s d deg bm nm dn (a : Int) T tc Q w5 (HAR.out.below (HUP4.out _ HB5.out)) HRM.out HTd.out (by omega)
          have hk3 : keepB (pns L) s d deg bm nm dn (a : Int) Q = true := keepB_sub HKB.out (by omega) (fun p hp => (HQ.out p).1 hp)
          have hk4 : keepL (pns L) nm dn deg a Q = R := (keepL_same HASK.out.pg HASK.out.all (fun q hq => HASK.out.all q ((HQ.out q).1 hq)) (fun x h _ => (HQ.out _).1 h) (fun x h _ => (HQ.out _).2 h)).trans HER.out
          obtain ⟨⟨y0, y1⟩, ⟨q0, q1, q2, q3, q4⟩, q5⟩ := HC4.out _ HB5.out
          go_wp2_with fail
          refine KT.mono ?_
          intro e w6 hans
          obtain ⟨V3, c3, rfl, ho6, b6⟩ := keepYes hans hk3 hk4
          dsimp only
          clear hans hk3 hk4 KT HTd y0 y1 q0 q1 q2 q3 q4 q5
          have HB6 := Lib.hid (HB5.out.trans (b6.mono HB5.out.size))
          have HR6 := Lib.hid ((HRd.out.below HB6.out).more HB6.out.size)
          have S1 := sameZ_any V2 V c2 vc (natI R) (natI R) w6 w6.heap.size (((own_rdU (xs := natI R) (n := R.length) HO5.out).below b6).more b6.size) HR6.out (by rw [natI_len]; omega) (by rw [natI_len]; omega)
          rw [natI_len, zs_self] at S1
          have HO6 := Lib.hid ho6
          clear b6 ho6
          go_wp2_with fail
          refine S1.mono ?_
          rintro e w7 ⟨rfl, n1, rfl⟩
          dsimp only
          have d7 : Below w6.heap.size w6 (w6.drewN n1) := below_drewN (Below.refl _ _) n1
          have S2 := sameZ_any V3 V c3 vc (natI R) (natI R) (w6.drewN n1) w6.heap.size ((own_rdU (xs := natI R) (n := R.length) HO6.out).below d7) (HR6.out.below d7) (by rw [natI_len]; omega) (by rw [natI_len]; omega)
          rw [natI_len, zs_self] at S2
          go_wp2_with fail
          refine S2.mono ?_
          rintro e w8 ⟨rfl, n2, rfl⟩
          dsimp only
          have CB : Hid (Below w4.heap.size w4 (w6.drewN (n1 + n2))) := Lib.hid (below_drewN HB6.out (n1 + n2))
          clear S1 S2 d7 HR6 HO6 HO5 HB HB5 HB6 HQ hQ
          have CI : Hid (BestIs (pns L) a P 0 (-1)) := Lib.hid (.inl ⟨rfl, fun j hj => absurd hj (by omega)⟩)
          go_wp2
          go_loopw [13, 14] (fun bv i wr => ∃ (k : Nat) (b : Int), k ≤ P.length ∧ i = .int .i64 k ∧ bv = .int .i64 b ∧ Hid (BestIs (pns L) a P k b) ∧ Hid (Below w4.heap.size w4 wr)) (fun _ i _ => P.length - (intOf i).toNat)
          case atStart => exact ⟨0, -1, by omega, rfl, rfl, CI, CB⟩
          case round =>
            clear CB CI
            obtain ⟨k, b, hk, rfl, rfl, HI, HB⟩ := hrel
            by_cases hlt : k < P.length
            · have e2 : decide ((k : Int) < (P.length : Int)) = true := decide_eq_true (by omega)
              obtain ⟨pb, po, t, rfl, hpb, hpc, hpv⟩ := HPd.out.at_ hlt
              have hmem : P[k]? = some t := by
                have := hpv.out
                rw [List.getElem?_eq_getElem hlt] at this ⊢
                exact congrArg some this
              have htr := HASK.out.all t (List.mem_of_getElem? hmem)
              obtain ⟨p, rfl⟩ := Int.eq_ofNat_of_zero_le htr.1
              have hpl : p < L.length := by rw [HLN.out] at htr; omega
              have x1 : (0 : Int) ≤ (k : Int) := by omega
              have x2 : (k : Int) < (P.length : Int) := by omega
              have HPC : Hid (∀ W, Below w4.heap.size w4 W → W.cell? ⟨pb, po + k, none⟩ = some (.int .i64 (p : Int))) := Lib.hid (fun W h => (h.cell (p := ⟨pb, po + k, none⟩) hpb).trans hpc)
              by_cases hpa : p = a
              · subst hpa
                have x3 : ((p : Int) != (p : Int)) = false := by simp
                have HI1 := Lib.hid (best_own HI.out hmem)
                have j1 := (HC4.out _ HB.out).2.2
                have j2 := HPC.out _ HB.out
                clear hpb hpc hpv hmem htr
                go_wp2
                go_quiet (fail)
                go_wp2
                go_roundw
                case rel => exact ⟨k + 1, b, by omega, by go_num, rfl, HI1, Lib.hid (below_drewN HB.out _)⟩
                case measure => simp [intOf]; omega
              · have x3 : ((p : Int) != (a : Int)) = true := by simp; omega
                rcases best_cases HI.out with rfl | ⟨q, rfl, hql⟩
                · have HI1 := Lib.hid (best_new HASK.out.pg HI.out hmem (by rw [HLN.out]; exact hpl) hpa (.inl rfl))
                  have j1 := (HC4.out _ HB.out).2.2
                  have j2 := HPC.out _ HB.out
                  clear hpb hpc hpv hmem htr
                  go_wp2
                  go_quiet (fail)
                  have j3 := HPC.out _ (below_drewN HB.out nq)
                  go_wp2
                  go_roundw
                  case rel => exact ⟨k + 1, (p : Int), by omega, by go_num, rfl, HI1, Lib.hid (below_drewN HB.out _)⟩
                  case measure => simp [intOf]; omega
                · rw [HLN.out] at hql
                  have x4 : decide ((q : Int) < 0) = false := decide_eq_false (by omega)
                  have KS : ∀ W, Below w4.heap.size w4 W → W.cell? ⟨g, 0, none⟩ = some (.slice A L.length c) ∧ W.cell? ⟨g, 1, none⟩ = some (.int .i64 s) ∧ W.cell? ⟨g, 7, none⟩ = some (.int .i64 (a : Int)) ∧ W.cell? ⟨pb, po + k, none⟩ = some (.int .i64 (p : Int)) := fun W h => by
                    have z := HC4.out W h
                    exact ⟨z.1.1, z.1.2, z.2.2, HPC.out W h⟩
                  have KC : ∀ {f : Nat} {args : Array Value} {W : World} {e0 : Ending}, Below w4.heap.size w4 W → (Calls Try.prog f args W fun e w' => e = e0 ∧ Below W.heap.size W w') → Calls Try.prog f args W fun e w' => e = e0 ∧ Below w4.heap.size w4 w' ∧ w'.cell? ⟨g, 0, none⟩ = some (.slice A L.length c) ∧ w'.cell? ⟨g, 1, none⟩ = some (.int .i64 s) ∧ w'.cell? ⟨g, 7, none⟩ = some (.int .i64 (a : Int)) ∧ w'.cell? ⟨pb, po + k, none⟩ = some (.int .i64 (p : Int)) := fun h C => C.mono fun e w' q => (by
                    have hw := h.trans (q.2.mono h.size)
                    exact ⟨q.1, hw, KS w' hw⟩)
                  have A3 := Lib.hid (fun W (h : Below w4.heap.size w4 W) => KC h (HHT.out W h p hpl))
                  have A4 := Lib.hid (fun W (h : Below w4.heap.size w4 W) => KC h (HHT.out W h q hql))
                  have A5 := Lib.hid (fun W (h : Below w4.heap.size w4 W) => KC h (HLS.out W (kQ (pns L) a p) (kQ (pns L) a q)))
                  obtain ⟨m1, em1⟩ : ∃ x, (kQ (pns L) a p).1 = x := ⟨_, rfl⟩
                  obtain ⟨m2, em2⟩ : ∃ x, (kQ (pns L) a p).2 = x := ⟨_, rfl⟩
                  obtain ⟨m3, em3⟩ : ∃ x, (kQ (pns L) a q).1 = x := ⟨_, rfl⟩
                  obtain ⟨m4, em4⟩ : ∃ x, (kQ (pns L) a q).2 = x := ⟨_, rfl⟩
                  rw [em1, em2] at A3
                  rw [em3, em4] at A4
                  have hlq : ltQ (kQ (pns L) a p) (kQ (pns L) a q) = ltP (pns L) a p q := rfl
                  rw [hlq] at A5
                  have HI1 : Hid (BestIs (pns L) a P (k + 1) (if ltP (pns L) a p q then (p : Int) else (q : Int))) := Lib.hid (by
                    cases hc : ltP (pns L) a p q with
                    | true => exact best_new HASK.out.pg HI.out hmem (by rw [HLN.out]; exact hpl) hpa (.inr ⟨q, rfl, hc⟩)
                    | false => exact best_old HI.out hmem hc)
                  obtain ⟨lv, elv⟩ : ∃ x, ltP (pns L) a p q = x := ⟨_, rfl⟩
                  rw [elv] at A5 HI1
                  rw [em1, em2, em3, em4] at A5
                  have HDK := HB.out.drew
                  obtain ⟨j0, j1, j2, j3⟩ := KS _ HDK
                  clear em1 em2 em3 em4 KS KC hlq elv hpb hpc hpv hmem htr
                  go_wp2
                  first
                  | (go_region_held3 (fun w' => w'.cell? ⟨g, 0, none⟩ = some (.slice A L.length c) ∧ w'.cell? ⟨g, 1, none⟩ = some (.int .i64 s) ∧ w'.cell? ⟨g, 7, none⟩ = some (.int .i64 (a : Int)) ∧ w'.cell? ⟨pb, po + k, none⟩ = some (.int .i64 (p : Int)))
                    (first | exact ⟨by with_reducible assumption, by with_reducible assumption, by with_reducible assumption, by with_reducible assumption⟩)
                    (first
                      | (go_at_call 22; (with_reducible refine (A3.out _ (by with_reducible assumption)).mono ?_); rintro e wc ⟨rfl, bwc, zwc0, zwc1, zwc2, zwc3⟩)
                      | (go_at_call 22; (with_reducible refine (A4.out _ (by with_reducible assumption)).mono ?_); rintro e wd ⟨rfl, bwd, zwd0, zwd1, zwd2, zwd3⟩)
                      | (go_at_call 21; (with_reducible refine (A5.out _ (by with_reducible assumption)).mono ?_); rintro e we ⟨rfl, bwe, zwe0, zwe1, zwe2, zwe3⟩)
                      | fail))
                  | fail
                  all_goals
                    have HBe := Lib.hid bwe
                    clear zwc0 zwc1 zwc2 zwc3 zwd0 zwd1 zwd2 zwd3 zwe0 zwe1 zwe2 zwe3 bwc bwd bwe j0 j1 j2 j3 HDK
                    have j3 := HPC.out _ HBe.out
                    cases lv with
                    | false =>
                      go_wp2
                      go_roundw
                      case rel => exact ⟨k + 1, (q : Int), by omega, by go_num, rfl, HI1, HBe⟩
                      case measure => simp [intOf]; omega
                    | true =>
                      go_wp2
                      go_roundw
                      case rel => exact ⟨k + 1, (p : Int), by omega, by go_num, rfl, HI1, HBe⟩
                      case measure => simp [intOf]; omega
            · obtain rfl : k = P.length := by omega
              have e2 : decide ((P.length : Int) < (P.length : Int)) = false := decide_eq_false (by omega)
              rcases best_end HASK.out HI.out HER.out HT.out with ⟨rfl, h0⟩ | ⟨p, rfl, h0, h1⟩
              · have g1 : (((R.length : Nat) : Int) == 0) = true := by rw [h0]; rfl
                go_wp2
                go_ret
                exact ⟨rfl, HUP4.out _ HB.out⟩
              · have g0 : decide ((p : Int) < 0) = false := decide_eq_false (by omega)
                have g1 : decide ((0 : Int) < (R.length : Int)) = true := decide_eq_true (by omega)
                obtain ⟨lb, lo, t, rfl, hlb, hlc, hlv⟩ := HRd.out.at_ (i := 0) (by rw [natI_len]; exact h0)
                have et : t = (p : Int) := by
                  rw [← hlv.out, natI_at h0]
                  rw [List.getElem?_eq_getElem h0] at h1
                  injection h1 with h1
                  rw [h1]
                subst et
                have x2 : (0 : Int) < (R.length : Int) := by omega
                have j0 : wr.cell? ⟨lb, lo + 0, none⟩ = some (.int .i64 (p : Int)) := (HB.out.cell (p := ⟨lb, lo + 0, none⟩) hlb).trans hlc
                have j1 : wr.cell? ⟨lb, lo, none⟩ = some (.int .i64 (p : Int)) := j0
                have g2 : ((p : Int) == (p : Int)) = true := by simp
                have g3 : decide (0 < R.length) = true := decide_eq_true h0
                go_wp2
                go_ret
                exact ⟨rfl, HUP4.out _ HB.out⟩
end Go.Proofs.Ytjdidlbmgnfcdaa
