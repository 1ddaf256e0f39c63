/- The walk of trueHits. -/
import Derived.Test.YtkdepoaajhggiaaFn
import Derived.Deep.QuietTactic
import Derived.BigQuiet
namespace Go.Proofs.Ytkdepoaajhggiaa
open Go.Shelf Go.RowKit Go.Lib
open Go.Sort hiding Below
set_option linter.unusedVariables false
set_option linter.unusedSimpArgs false
theorem find_place {G : List Pn} (hN : (G.map (·.1)).Nodup) {p : Nat} (hp : p < G.length) : findI G (nAt G p).1 = p :=
  findI_at hp rfl (fun j hj e => by have := ids_inj hN (show j < G.length by omega) hp e; omega)
set_option maxRecDepth 100000 in
set_option maxHeartbeats 8000000 in
theorem trueHits_yes (A : Option Addr) (c : Nat) (L : List Gn) (s : Int) (B : Option Addr) (q : Nat) (v : List Int) (V : Option Addr) (d : Nat) (xs : HL) (w : World) (hx : GArg w A L) (hv : Rd .i8 w w.heap.size B v) (bv : ∀ n ∈ v, -128 ≤ n ∧ n ≤ 127) (hm : MaySearch (pns L) s v) (hxs : RdH w w.heap.size V xs)
    (hall : ∀ x ∈ xs, ∃ p, p < (pns L).length ∧ x = hitP (pns L) v p) (hlt : ∀ i x y, xs[i]? = some x → xs[i + 1]? = some y → ltH x y = true) (hl : xs.length ≤ 1000) :
    Calls Try.prog 10 #[.agg #[.slice A L.length c, .int .i64 s], .slice B v.length q, .slice V xs.length d] w fun e w' => e = .returned (.bool true) ∧ Below w.heap.size w w' := by
  have HX := Lib.hid hx
  have HV := Lib.hid hv
  have HBV := Lib.hid bv
  have HM := Lib.hid hm
  have HXS := Lib.hid hxs
  have HALL := Lib.hid hall
  have HLT := Lib.hid hlt
  have HPL := Lib.hid (pns_len L)
  have hL48 : L.length ≤ 2048 := by rw [← HPL.out]; exact hm.ho.1
  have B0 : Below w.heap.size w (w.alloc (.cells #[.slice A L.length c, .int .i64 s] 24)) := below_one (Below.refl _ _) _
  have HW0 := Lib.hid (Whole.new w 24 #[.slice A L.length c, .int .i64 s])
  have HB0 := Lib.hid B0
  clear hx hv bv hm hxs hall hlt B0
  go_enter Try.func10, Try.ntmps10
  go_upto_region 1 with fail
  obtain ⟨w0, ew0⟩ : ∃ w0, w.alloc (.cells #[.slice A L.length c, .int .i64 s] 24) = w0 := ⟨_, rfl⟩
  obtain ⟨g0, eg0⟩ : ∃ g0, w.heap.size = g0 := ⟨_, rfl⟩
  rw [ew0] at HW0 HB0 ⊢
  have HGG := Lib.hid eg0
  rw [eg0] at HW0
  rw [show (Value.pointer (some ⟨w.heap.size, 0, none⟩) : Value) = .pointer (some ⟨g0, 0, none⟩) by rw [eg0]]
  clear ew0 eg0
  go_wp2
  go_loopw [7] (fun i wr => ∃ k : Nat, k ≤ xs.length ∧ i = .int .i64 k ∧ Hid (Below w0.heap.size w0 wr)) (fun i _ => xs.length - (intOf i).toNat)
  case atStart => exact ⟨0, by omega, rfl, Lib.hid (Below.refl _ _)⟩
  case round =>
    obtain ⟨k, hk, rfl, HB⟩ := hrel
    by_cases hkl : k < xs.length
    · have e1 : decide ((k : Int) < (xs.length : Int)) = true := decide_eq_true (by omega)
      obtain ⟨hb, ho, x, y, rfl, hBb, h1, h2, hv1⟩ := HXS.out.at_ hkl
      obtain ⟨p, hp, hxy⟩ := HALL.out _ (List.mem_of_getElem? hv1.out)
      obtain ⟨bb, off, id, a1, c1, v', a2, c2, o, rfl, hBg, k1, k2, k3, hr1, hr2, hvv⟩ := HX.out.rd.at_ (i := p) (by have := HPL.out; omega)
      have hna : nAt (pns L) p = (id, v', o) := nAt_get (pns_at hvv.out)
      have hmem : (id, v', o) ∈ pns L := by rw [← hna]; exact nAt_mem hp
      have hx1 : x = id ∧ y = far v' v := by
        have : (x, y) = (id, far v' v) := by rw [hxy]; unfold hitP; rw [hna]
        exact Prod.mk.inj this
      obtain ⟨rfl, rfl⟩ := hx1
      have hfp : findI (pns L) x = p := by have := find_place HM.out.nd hp; rwa [hna] at this
      have hl1 : v.length = v'.length := (HM.out.same _ hmem).symm
      have hd1 : 1 ≤ v'.length ∧ v'.length ≤ 64 := by rw [← hl1]; exact HM.out.dim
      have hb8 := (HX.out.ok _ hmem).2.1
      have HW := Lib.hid (fun W (h : Below w0.heap.size w0 W) => HB0.out.trans (h.mono HB0.out.size))
      have KC : Hid (∀ W, Below w0.heap.size w0 W → (W.cell? ⟨g0, 0, none⟩ = some (.slice (some ⟨bb, off, none⟩) L.length c) ∧ W.cell? ⟨g0, 1, none⟩ = some (.int .i64 s)) ∧ (W.cell? ⟨hb, ho + k * 2, none⟩ = some (.int .u64 x) ∧ W.cell? ⟨hb, ho + k * 2 + 1, none⟩ = some (.int .i64 (far v' v))) ∧ W.cell? ⟨bb, off + p * 3 + 1, none⟩ = some (.slice a1 v'.length c1)) := Lib.hid (fun W h => by
        have z := HW0.out.below h HW0.out.lt
        have hW := HW.out W h
        exact ⟨⟨z.cell 0, z.cell 1⟩, ⟨(hW.cell (p := ⟨hb, ho + k * 2, none⟩) hBb).trans h1, (hW.cell (p := ⟨hb, ho + k * 2 + 1, none⟩) hBb).trans h2⟩, (hW.cell (p := ⟨bb, off + p * 3 + 1, none⟩) hBg).trans k2⟩)
      have CF : Hid (∀ W, Below w0.heap.size w0 W → Calls Try.prog 11 #[.agg #[.slice (some ⟨bb, off, none⟩) L.length c, .int .i64 s], .int .u64 x] W fun e w' => e = .returned (.int .i64 (p : Int)) ∧ Below w0.heap.size w0 w' ∧ (w'.cell? ⟨g0, 0, none⟩ = some (.slice (some ⟨bb, off, none⟩) L.length c) ∧ w'.cell? ⟨g0, 1, none⟩ = some (.int .i64 s)) ∧ w'.cell? ⟨hb, ho + k * 2, none⟩ = some (.int .u64 x)) := Lib.hid (fun W h => (find_any _ c L s x W W.heap.size (Nat.le_refl _) ((HX.out.rd.below (HW.out W h)).more (HW.out W h).size) (by omega)).mono fun e w' hh => by
        have hk := h.trans (hh.2.mono h.size)
        rw [hfp] at hh
        obtain ⟨z1, z2, _⟩ := KC.out w' hk
        exact ⟨hh.1, hk, z1, z2.1⟩)
      have CD : Hid (∀ W, Below w0.heap.size w0 W → Calls Try.prog 27 #[.slice a1 v'.length c1, .slice B v.length q] W fun e w' => e = .returned (.tuple #[.int .i64 (far v' v), .int .i64 0]) ∧ Below w0.heap.size w0 w') := Lib.hid (fun W h => (dist_yes a1 B c1 q v' v hd1.1 hd1.2 hl1 v.length hl1 W ((hr1.below (HW.out W h)).more (HW.out W h).size) ((HV.out.below (HW.out W h)).more (HW.out W h).size) hb8 HBV.out).mono fun e w' hh => ⟨hh.1, h.trans (hh.2.mono h.size)⟩)
      have HPR : Hid (∀ j, k = j + 1 → ∃ x0 y0, (∀ W, Below w0.heap.size w0 W → W.cell? ⟨hb, ho + j * 2, none⟩ = some (.int .u64 x0) ∧ W.cell? ⟨hb, ho + j * 2 + 1, none⟩ = some (.int .i64 y0)) ∧ ltH (x0, y0) (x, far v' v) = true) := Lib.hid (fun j hj => by
        obtain ⟨hb2, ho2, x0, y0, hA2, _, m1, m2, hv2⟩ := HXS.out.at_ (i := j) (by omega)
        injection hA2 with hA2
        injection hA2 with q1 q2 _
        subst q1 q2
        refine ⟨x0, y0, fun W h => ⟨((HW.out W h).cell (p := ⟨hb, ho + j * 2, none⟩) hBb).trans m1, ((HW.out W h).cell (p := ⟨hb, ho + j * 2 + 1, none⟩) hBb).trans m2⟩, HLT.out j _ _ hv2.out (by rw [← hj]; exact hv1.out)⟩)
      have x1 : (0 : Int) ≤ (k : Int) := by omega
      have x2 : (k : Int) < (xs.length : Int) := by omega
      have x3 : (0 : Int) ≤ (p : Int) := by omega
      have x4 : (p : Int) < (L.length : Int) := by have := HPL.out; omega
      have f1 : decide ((p : Int) < 0) = false := decide_eq_false (by omega)
      have HLL := Lib.hid hl1
      obtain ⟨y, ey⟩ : ∃ y, far v' v = y := ⟨_, rfl⟩
      rw [ey] at KC CD HPR
      have HDR := HB.out.drew
      obtain ⟨⟨j0, j1⟩, ⟨j2, j3⟩, j4⟩ := KC.out _ HDR
      clear hxy hna hmem hfp hl1 hd1 hb8 h1 h2 hv1 k1 k2 k3 hr1 hr2 hvv hBb hBg hp ey
      go_wp2
      go_region_held3 (fun w' => (w'.cell? ⟨g0, 0, none⟩ = some (.slice (some ⟨bb, off, none⟩) L.length c) ∧ w'.cell? ⟨g0, 1, none⟩ = some (.int .i64 s)) ∧ w'.cell? ⟨hb, ho + k * 2, none⟩ = some (.int .u64 x))
        (first | exact ⟨⟨by with_reducible assumption, by with_reducible assumption⟩, by with_reducible assumption⟩ | exact ⟨by with_reducible assumption, by with_reducible assumption⟩)
        (first
          | (go_at_call 11; (with_reducible refine (CF.out _ (by with_reducible assumption)).mono ?_); rintro e w2 ⟨rfl, b2, z1, z2⟩)
          | fail)
      all_goals
        have HB2 := Lib.hid b2
        clear z1 z2 b2 j0 j1 j2 j3 j4 HDR
        by_cases hk0 : k = 0
        · have g1 : decide ((0 : Int) < (k : Int)) = false := decide_eq_false (by omega)
          have g2 : decide (0 < k) = false := decide_eq_false (by omega)
          clear hk0
          go_wp2
          go_quiet (fail)
          have b3 := below_drewN HB2.out nq
          obtain ⟨w3, ew3⟩ : ∃ w3, w2.drewN nq = w3 := ⟨_, rfl⟩
          rw [ew3] at b3 ⊢
          clear ew3
          have HB3 := Lib.hid b3
          obtain ⟨⟨j0, j1⟩, ⟨j2, j3⟩, j4⟩ := KC.out _ HB3.out
          clear b3
          go_wp2_with fail
          refine (CD.out _ HB3.out).mono ?_
          rintro e w4 ⟨rfl, b4⟩
          dsimp only
          have HB4 := Lib.hid b4
          clear j0 j1 j2 j3 j4 b4
          obtain ⟨⟨j0, j1⟩, ⟨j2, j3⟩, j4⟩ := KC.out _ HB4.out
          have e5 : (y != y) = false := by simp
          go_wp2
          go_roundw
          case rel => exact ⟨k + 1, by omega, by go_num, HB4⟩
          case measure => simp [intOf]; omega
        · obtain ⟨j, hj⟩ : ∃ j, k = j + 1 := ⟨k - 1, by omega⟩
          obtain ⟨x0, y0, hpc, hls⟩ := HPR.out j hj
          have HPC := Lib.hid hpc
          have CL : Hid (∀ W, Below w0.heap.size w0 W → Calls Try.prog 26 #[.agg #[.int .u64 x0, .int .i64 y0], .agg #[.int .u64 x, .int .i64 y]] W fun e w' => e = .returned (.bool true) ∧ Below w0.heap.size w0 w' ∧ (w'.cell? ⟨hb, ho + j * 2, none⟩ = some (.int .u64 x0) ∧ w'.cell? ⟨hb, ho + j * 2 + 1, none⟩ = some (.int .i64 y0)) ∧ w'.cell? ⟨hb, ho + k * 2, none⟩ = some (.int .u64 x) ∧ w'.cell? ⟨hb, ho + k * 2 + 1, none⟩ = some (.int .i64 y)) := Lib.hid (fun W h => (less_any x0 y0 x y W).mono fun e w' hh => by
            obtain ⟨h1, rfl⟩ := hh
            have hk := h.trans ((below_one (below_one (Below.refl W.heap.size W) (.cells #[.int .u64 x0, .int .i64 y0] 42)) (.cells #[.int .u64 x, .int .i64 y] 42)).mono h.size)
            rw [hls] at h1
            exact ⟨h1, hk, HPC.out _ hk, (KC.out _ hk).2.1⟩)
          have g1 : decide ((0 : Int) < (k : Int)) = true := decide_eq_true (by omega)
          have g2 : decide (0 < k) = true := decide_eq_true (by omega)
          have i1 : (k : Int) - 1 = (j : Int) := by omega
          have i2 : IntKind.i64.wrap ((k : Int) - 1) = (j : Int) := by rw [i1]; exact IntWalk.i64_in _ (by omega)
          have i3 : IntKind.i64.wrap (j : Int) = (j : Int) := IntWalk.i64_in _ (by omega)
          have y1 : (0 : Int) ≤ (j : Int) := by omega
          have y2 : (j : Int) < (xs.length : Int) := by omega
          have HDR := HB2.out.drew
          obtain ⟨p1, p2⟩ := HPC.out _ HDR
          obtain ⟨_, ⟨p3, p4⟩, _⟩ := KC.out _ HDR
          clear hk0 hj hpc hls
          go_wp2
          first
          | (go_region_held3 (fun w' => (w'.cell? ⟨hb, ho + j * 2, none⟩ = some (.int .u64 x0) ∧ w'.cell? ⟨hb, ho + j * 2 + 1, none⟩ = some (.int .i64 y0)) ∧ w'.cell? ⟨hb, ho + k * 2, none⟩ = some (.int .u64 x) ∧ w'.cell? ⟨hb, ho + k * 2 + 1, none⟩ = some (.int .i64 y))
            (first | exact ⟨⟨by with_reducible assumption, by with_reducible assumption⟩, by with_reducible assumption, by with_reducible assumption⟩ | exact ⟨by with_reducible assumption, by with_reducible assumption⟩)
            (first
              | (go_at_call 26; (with_reducible refine (CL.out _ (by with_reducible assumption)).mono ?_); rintro e w3 ⟨rfl, b3, z1, z2⟩)
              | fail))
          | fail
          all_goals
            clear z1 z2 p1 p2 p3 p4 HDR
            have HB3 := Lib.hid b3
            obtain ⟨⟨j0, j1⟩, ⟨j2, j3⟩, j4⟩ := KC.out _ HB3.out
            clear b3
            go_wp2_with fail
            refine (CD.out _ HB3.out).mono ?_
            rintro e w4 ⟨rfl, b4⟩
            dsimp only
            have HB4 := Lib.hid b4
            clear j0 j1 j2 j3 j4 b4
            obtain ⟨⟨j0, j1⟩, ⟨j2, j3⟩, j4⟩ := KC.out _ HB4.out
            have e5 : (y != y) = false := by simp
            go_wp2
            go_roundw
            case rel => exact ⟨k + 1, by omega, by go_num, HB4⟩
            case measure => simp [intOf]; omega
    · obtain rfl : k = xs.length := by omega
      have e1 : decide ((xs.length : Int) < (xs.length : Int)) = false := decide_eq_false (by omega)
      go_wp2
      go_ret
      exact ⟨rfl, HB0.out.trans (HB.out.mono HB0.out.size)⟩
end Go.Proofs.Ytkdepoaajhggiaa
