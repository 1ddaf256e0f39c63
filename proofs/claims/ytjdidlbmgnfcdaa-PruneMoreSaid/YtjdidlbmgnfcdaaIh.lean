/- The walk of PruneMore. -/
import Derived.Test.YtjdidlbmgnfcdaaUl
import Derived.Test.YtjdidlbmgnfcdaaIg
import Derived.Test.YtjdidlbmgnfcdaaLr
import Derived.Test.YtjdidlbmgnfcdaaKc
import Derived.Deep.Cut
import Derived.Deep.CutRange
import Derived.Deep.RegionHeld3
namespace Go.Proofs.Ytjdidlbmgnfcdaa
open Go.RowKit Go.Lib
set_option linter.unusedVariables false
set_option linter.unusedSimpArgs false
theorem Try.info37m : (Try.prog.info? 37).map (fun i => (i.zero, i.size, i.bytes)) = some (some (.agg #[.int .u64 0, .slice none 0 0, .slice none 0 0]), 3, 56) := by kernel_rfl
theorem whole_grownM {w w' : World} {g hi : Nat} {e : TypeId} {cs : Array Value} {o : Option Nat} (h : Whole w g e cs) (hg : w.grownBy w' o) (ho : ∀ k, o = some k → hi ≤ k) (hh : g < hi) : Whole w' g e cs :=
  (hg.block g h.lt (fun e => by have := ho g e.symm; omega)).trans h
theorem rem_intM (x n : Nat) : Int.tmod (x : Int) (n : Int) = ((x % n : Nat) : Int) := rfl
theorem zs_selfM (xs : List Int) : eqZ xs xs = true := by simp [eqZ]
/-- The world while the graph without edges grows: what was set up, the graph's own block, its nodes. -/
structure Mo (w4 : World) (S : Array Value) (s : Int) (A' : Option Addr) (n c' : Nat) (T : List Gn) (W : World) : Prop where
  bel : Below w4.heap.size w4 W
  st : Whole W w4.heap.size 26 S
  ob : Whole W (w4.heap.size + 1) 24 #[.slice A' n c', .int .i64 s]
  row : W.ownsRow (w4.heap.size + 2) 37 3 (.slice A' n c') n (flatG T)
theorem Mo.below {w4 W W' : World} {S : Array Value} {s : Int} {A' : Option Addr} {n c' : Nat} {T : List Gn} (h : Mo w4 S s A' n c' T W) (hb : Below W.heap.size W W') : Mo w4 S s A' n c' T W' :=
  ⟨h.bel.trans (hb.mono (Nat.le_of_lt h.st.lt)), h.st.below hb h.st.lt, h.ob.below hb h.ob.lt, own_below h.row hb⟩
theorem Mo.next {w4 W Wb W2 : World} {S : Array Value} {s : Int} {A' A2 : Option Addr} {n c' c2 : Nat} {T T2 : List Gn} (h : Mo w4 S s A' n c' T W) (b : Below W.heap.size W Wb) (hown : W2.ownsRow (w4.heap.size + 2) 37 3 (.slice A2 (n + 1) c2) (n + 1) (flatG T2)) (hg : Wb.grownBy W2 (Value.slice A' n c').ownBlock) :
    Mo w4 S s A2 (n + 1) c2 T2 (W2.setCell ⟨w4.heap.size + 1, 0, none⟩ (.slice A2 (n + 1) c2)) := by
  have ho : ∀ k, (Value.slice A' n c').ownBlock = some k → w4.heap.size + 2 ≤ k := fun k hk => (h.row.lt k hk).1
  have hs := h.st.lt
  have b2 := b.size
  refine ⟨?_, ?_, ?_, ?_⟩
  · exact ((h.bel.trans (b.mono (Nat.le_of_lt hs))).grown hg (by omega) (fun r hr => by have := ho r hr; omega)).setCell (p := ⟨w4.heap.size + 1, 0, none⟩) (by show w4.heap.size ≤ w4.heap.size + 1; omega) _
  · exact (whole_grownM (h.st.below b hs) hg ho (by omega)).far (a := ⟨w4.heap.size + 1, 0, none⟩) (by show w4.heap.size ≠ w4.heap.size + 1; omega) _
  · exact (whole_grownM (h.ob.below b h.ob.lt) hg ho (by omega)).set 0 _
  · exact row_setK hown (fun e => by have := (hown.lt _ e).1; omega)
set_option maxRecDepth 100000 in
set_option maxHeartbeats 16000000 in
theorem pruneMore_main (A : Option Addr) (c : Nat) (L : List Gn) (s d deg bm nm dn at_ : Int) (B : Option Addr) (q : Nat) (P : List Int) (l0 l1 : Int) (w : World) (hx : GGiven w A L) (hp : Rd .i64 w w.heap.size B P) (hPq : P.length ≤ q) (h0 : 0 ≤ l0 ∧ l0 ≤ 255) (h1 : 0 ≤ l1 ∧ l1 ≤ 255) :
    Calls Try.prog 7 #[.agg #[.slice A L.length c, .int .i64 s, .int .i64 d, .int .i64 deg, .int .i64 bm, .int .i64 nm, .int .i64 dn, .int .i64 at_], .slice B P.length q, .agg #[.int .u8 l0, .int .u8 l1]] w fun e w' => e = .returned (.bool true) ∧ Below w.heap.size w w' := by
  have HW0 := Lib.hid ((Whole.new w 42 #[.slice A L.length c, .int .i64 s, .int .i64 d, .int .i64 deg, .int .i64 bm, .int .i64 nm, .int .i64 dn, .int .i64 at_]).alloc (.cells #[.int .u8 l0, .int .u8 l1] 57))
  have HW1 : Hid (Whole ((w.alloc (.cells #[.slice A L.length c, .int .i64 s, .int .i64 d, .int .i64 deg, .int .i64 bm, .int .i64 nm, .int .i64 dn, .int .i64 at_] 42)).alloc (.cells #[.int .u8 l0, .int .u8 l1] 57)) (w.heap.size + 1) 57 #[.int .u8 l0, .int .u8 l1]) := Lib.hid (by
    have := Whole.new (w.alloc (.cells #[.slice A L.length c, .int .i64 s, .int .i64 d, .int .i64 deg, .int .i64 bm, .int .i64 nm, .int .i64 dn, .int .i64 at_] 42)) 57 #[.int .u8 l0, .int .u8 l1]
    simpa using this)
  have HB0 := Lib.hid (below_one (below_one (Below.refl w.heap.size w) (.cells #[.slice A L.length c, .int .i64 s, .int .i64 d, .int .i64 deg, .int .i64 bm, .int .i64 nm, .int .i64 dn, .int .i64 at_] 42)) (.cells #[.int .u8 l0, .int .u8 l1] 57))
  have HX := Lib.hid hx
  have HP := Lib.hid hp
  clear hp
  clear hx
  go_enter Try.func7, Try.ntmps7
  go_upto_region 1 with fail
  obtain ⟨w1, ew1⟩ : ∃ w1, (w.alloc (.cells #[.slice A L.length c, .int .i64 s, .int .i64 d, .int .i64 deg, .int .i64 bm, .int .i64 nm, .int .i64 dn, .int .i64 at_] 42)).alloc (.cells #[.int .u8 l0, .int .u8 l1] 57) = w1 := ⟨_, rfl⟩
  rw [ew1] at HW0 HW1 HB0 ⊢
  obtain ⟨g, eg⟩ : ∃ g, w.heap.size = g := ⟨_, rfl⟩
  rw [eg] at HW0 HW1 ⊢
  have HG := Lib.hid eg
  clear ew1 eg
  go_wp2_with fail
  refine (aliveQ_any w1).mono ?_
  rintro e w2 ⟨rfl, b2⟩
  dsimp only
  have HB2 := Lib.hid (HB0.out.trans (b2.mono HB0.out.size))
  have Z2 := HW0.out.below b2 HW0.out.lt
  have HZ2 := Lib.hid Z2
  have HY2 := Lib.hid (HW1.out.below b2 HW1.out.lt)
  have y0 := Z2.cell 0
  have y1 := Z2.cell 1
  clear Z2 b2 HB0 HW0 HW1
  go_wp2_with fail
  refine (great9_any A c L s w2 (HX.out.below HB2.out)).mono ?_
  rintro e w3 ⟨⟨gb, rfl, hgb⟩, b3⟩
  dsimp only
  have HB3 := Lib.hid (HB2.out.trans (b3.mono HB2.out.size))
  clear y0 y1
  cases gb with
  | true =>
    clear hgb
    go_wp2_with fail
    refine (aliveQ_any w3).mono ?_
    rintro e w4 ⟨rfl, b4⟩
    dsimp only
    go_wp2
    go_ret
    exact ⟨rfl, HB3.out.trans (b4.mono HB3.out.size)⟩
  | false =>
    have HSM := Lib.hid (hgb rfl)
    have Z3 := HZ2.out.below b3 HZ2.out.lt
    have HZ3 := Lib.hid Z3
    have HY3 := Lib.hid (HY2.out.below b3 HY2.out.lt)
    clear hgb b3 HZ2 HY2 HB2 Z3
    have HAR : Hid (GArg w A L) := Lib.hid (HX.out.arg HSM.out)
    have HLN := Lib.hid (pns_len L)
    have HRM : Hid (∀ x ∈ L, x.2.2.2.2.length ≤ x.2.2.2.1) := Lib.hid (fun x hx => (HX.out.room x hx).2.1)
    have HCL : Hid (∀ W, Below w3.heap.size w3 W → ((W.cell? ⟨g, 0, none⟩ = some (.slice A L.length c) ∧ W.cell? ⟨g, 1, none⟩ = some (.int .i64 s)) ∧ (W.cell? ⟨g, 2, none⟩ = some (.int .i64 d) ∧ W.cell? ⟨g, 3, none⟩ = some (.int .i64 deg) ∧ W.cell? ⟨g, 4, none⟩ = some (.int .i64 bm) ∧ W.cell? ⟨g, 5, none⟩ = some (.int .i64 nm) ∧ W.cell? ⟨g, 6, none⟩ = some (.int .i64 dn)) ∧ W.cell? ⟨g, 7, none⟩ = some (.int .i64 at_))) := Lib.hid (fun W h => by
      have z0 := HZ3.out.below h HZ3.out.lt
      exact ⟨⟨z0.cell 0, z0.cell 1⟩, ⟨z0.cell 2, z0.cell 3, z0.cell 4, z0.cell 5, z0.cell 6⟩, z0.cell 7⟩)
    have HCA : Hid (∀ W, Below w3.heap.size w3 W → W.cell? ⟨g + 1, 0, none⟩ = some (.int .u8 l0) ∧ W.cell? ⟨g + 1, 1, none⟩ = some (.int .u8 l1)) := Lib.hid (fun W h => by
      have z0 := HY3.out.below h HY3.out.lt
      exact ⟨z0.cell 0, z0.cell 1⟩)
    have HUP : Hid (∀ W, Below w3.heap.size w3 W → Below w.heap.size w W) := Lib.hid (fun W h => HB3.out.trans (h.mono HB3.out.size))
    have hL : L.length ≤ 20000 := by have := HSM.out.len; rwa [pns_len] at this
    obtain ⟨⟨y0, y1⟩, ⟨q0, q1, q2, q3, q4⟩, q5⟩ := HCL.out _ (Below.refl _ _)
    by_cases hn : 300 < P.length
    case pos =>
      have ez : decide ((300 : Int) < (P.length : Int)) = true := decide_eq_true (by omega)
      go_wp2_with fail
      refine (aliveQ_any w3).mono ?_
      rintro e w4 ⟨rfl, b4⟩
      dsimp only
      go_wp2
      go_ret
      exact ⟨rfl, HB3.out.trans (b4.mono HB3.out.size)⟩
    have ez : decide ((300 : Int) < (P.length : Int)) = false := decide_eq_false (by omega)
    have KP := keep_any A c L s d deg bm nm dn at_ B q P w3 (HAR.out.below HB3.out) HRM.out ((HP.out.below HB3.out).more HB3.out.size) (by omega)
    clear ez
    go_wp2_with fail
    refine KP.mono ?_
    intro e w4 hans
    cases hkb : keepB (pns L) s d deg bm nm dn at_ P with
    | false =>
      obtain ⟨V, vc, rfl, b4⟩ := keepNo hans hkb
      dsimp only
      clear hans hkb KP y0 y1 q0 q1 q2 q3 q4 q5
      go_wp2
      go_ret
      exact ⟨rfl, HUP.out _ b4⟩
    | true =>
      have hask := keepB_yes HX.out.ok hkb
      obtain ⟨a, rfl⟩ := Int.eq_ofNat_of_zero_le hask.at0.1
      obtain ⟨R, eR⟩ : ∃ R, keepL (pns L) nm dn deg a P = R := ⟨_, rfl⟩
      have htold := keepL_told (n := nm) (m := dn) (deg := deg) (a := a) hask.pg hask.all
      rw [eR] at htold
      obtain ⟨V, vc, rfl, ho4, b4⟩ := keepYes hans hkb eR
      dsimp only
      have hln := pns_len L
      have haL : a < L.length := by have := hask.at0.2; omega
      have hL2 : L.length ≤ 2048 := by have := hask.pg.len; omega
      have hdg := hask.dg
      have HASK := Lib.hid hask
      have HT := Lib.hid htold
      have HKB := Lib.hid hkb
      have HB4 := Lib.hid b4
      have HO4 := Lib.hid ho4
      have HER := Lib.hid eR
      have HUP4 : Hid (∀ W, Below w4.heap.size w4 W → Below w.heap.size w W) := Lib.hid (fun W h => HUP.out W (b4.trans (h.mono b4.size)))
      have HC4 : Hid (∀ W, Below w4.heap.size w4 W → ((W.cell? ⟨g, 0, none⟩ = some (.slice A L.length c) ∧ W.cell? ⟨g, 1, none⟩ = some (.int .i64 s)) ∧ (W.cell? ⟨g, 2, none⟩ = some (.int .i64 d) ∧ W.cell? ⟨g, 3, none⟩ = some (.int .i64 deg) ∧ W.cell? ⟨g, 4, none⟩ = some (.int .i64 bm) ∧ W.cell? ⟨g, 5, none⟩ = some (.int .i64 nm) ∧ W.cell? ⟨g, 6, none⟩ = some (.int .i64 dn)) ∧ W.cell? ⟨g, 7, none⟩ = some (.int .i64 (a : Int)))) := Lib.hid (fun W h => HCL.out W (b4.trans (h.mono b4.size)))
      have HRd : Hid (Rd .i64 w4 w4.heap.size V (natI R)) := Lib.hid (own_rdU (xs := natI R) (n := R.length) ho4)
      have HPd : Hid (Rd .i64 w4 w4.heap.size B P) := Lib.hid (by
        have h1 := HB3.out.trans (b4.mono HB3.out.size)
        exact (HP.out.below h1).more h1.size)
      have hRl : R.length ≤ 32 := by have := htold.few; omega
      have hdeg : (R.length : Int) ≤ deg := by have := htold.few; omega
      have HDM := Lib.hid (fun W (h : Below w4.heap.size w4 W) (x y : Nat) (hx : x < L.length) (hy : y < L.length) => (by
        have h1 := dominQ_any A c L s d deg bm nm dn (a : Int) (x : Int) (y : Int) W (HAR.out.below (HUP4.out W h)) HRM.out
        obtain ⟨h2, h3⟩ := HASK.out.dom (x := x) (y := y) (by rw [hln]; exact hx) (by rw [hln]; exact hy)
        rw [h2, h3] at h1
        exact h1 : Calls Try.prog 15 #[.agg #[.slice A L.length c, .int .i64 s], .agg #[.int .i64 d, .int .i64 deg, .int .i64 bm, .int .i64 nm, .int .i64 dn], .int .i64 (a : Int), .int .i64 (x : Int), .int .i64 (y : Int)] W fun e w' => e = .returned (.tuple #[.bool (ndP (pns L) nm dn a x y), .int .i64 0]) ∧ Below W.heap.size W w'))
      have HHT := Lib.hid (fun W (h : Below w4.heap.size w4 W) (x : Nat) (hx : x < L.length) => hitQ_any A c L s d.toNat HASK.out.pg a x haL hx W (HAR.out.below (HUP4.out W h)).rd)
      have HLS := Lib.hid (fun W (x y : Int × Int) => (lessQ_any x.1 x.2 y.1 y.2 W).mono (fun e w' q => (by
        obtain ⟨q1, rfl⟩ := q
        exact ⟨q1, below_one (below_one (Below.refl _ _) _) _⟩ : e = .returned (.bool (ltQ x y)) ∧ Below W.heap.size W w')))
      have HSB : Hid (∀ i, (h : i < R.length) → R[i] < L.length ∧ R[i] ≠ a ∧ ((R[i] : Nat) : Int) ∈ P) := Lib.hid (fun i h => by
        obtain ⟨h1, h2, h3⟩ := htold.sub R[i] (List.getElem_mem h)
        exact ⟨by omega, h2, h3⟩)
      clear hans hkb hask htold eR ho4 b4 KP y0 y1 q0 q1 q2 q3 q4 q5 hln
      have HA4 : Hid (∀ W, Below w4.heap.size w4 W → W.cell? ⟨g + 1, 0, none⟩ = some (.int .u8 l0) ∧ W.cell? ⟨g + 1, 1, none⟩ = some (.int .u8 l1)) := Lib.hid (fun W h => HCA.out W (HB4.out.trans (h.mono HB4.out.size)))
      obtain ⟨dN, rfl⟩ := Int.eq_ofNat_of_zero_le (show 0 ≤ deg by omega)
      obtain ⟨lN, rfl⟩ := Int.eq_ofNat_of_zero_le h0.1
      obtain ⟨kN, rfl⟩ := Int.eq_ofNat_of_zero_le h1.1
      have hlN : lN ≤ 255 := by omega
      have hkN : kN ≤ 255 := by omega
      have hdN : 1 ≤ dN ∧ dN ≤ 32 := by omega
      clear h0 h1 hdg
      have e1 : IntKind.i64.wrap (lN : Int) = (lN : Int) := IntWalk.i64_in _ (by omega)
      have e2 : IntKind.i64.wrap (kN : Int) = (kN : Int) := IntWalk.i64_in _ (by omega)
      have e3 := rem_intM lN dN
      obtain ⟨mN, em⟩ : ∃ i, lN % dN = i := ⟨_, rfl⟩
      have hmN : mN < dN := by rw [← em]; exact Nat.mod_lt _ (by omega)
      rw [em] at e3
      clear em
      have e4 : IntKind.i64.wrap (mN : Int) = (mN : Int) := IntWalk.i64_in _ (by omega)
      obtain ⟨⟨y0, y1⟩, ⟨q0, q1, q2, q3, q4⟩, q5⟩ := HC4.out _ (Below.refl _ _)
      obtain ⟨a0, a1⟩ := HA4.out _ (Below.refl _ _)
      have hd0 : 0 < dN := by omega
      go_upto_region 7 with fail
      clear y0 y1 q0 q1 q2 q3 q4 q5 a0 a1
      have ZS := Whole.new w4 26 #[.int .i64 d, .int .i64 (dN : Int), .int .i64 bm, .int .i64 nm, .int .i64 dn]
      have B5 : Below w4.heap.size w4 (w4.alloc (.cells #[.int .i64 d, .int .i64 (dN : Int), .int .i64 bm, .int .i64 nm, .int .i64 dn] 26)) := below_one (Below.refl _ _) _
      have hs5 : (w4.alloc (.cells #[.int .i64 d, .int .i64 (dN : Int), .int .i64 bm, .int .i64 nm, .int .i64 dn] 26)).heap.size = w4.heap.size + 1 := World.size_alloc ..
      obtain ⟨w5, ew5⟩ : ∃ w5, w4.alloc (.cells #[.int .i64 d, .int .i64 (dN : Int), .int .i64 bm, .int .i64 nm, .int .i64 dn] 26) = w5 := ⟨_, rfl⟩
      rw [ew5] at ZS B5 hs5 ⊢
      have HZS := Lib.hid ZS
      have HB5 := Lib.hid B5
      have HS5 := Lib.hid hs5
      obtain ⟨⟨y0, y1⟩, ⟨q0, q1, q2, q3, q4⟩, q5⟩ := HC4.out _ B5
      obtain ⟨a0, a1⟩ := HA4.out _ B5
      have f0 := ZS.cell 1
      have f1 := ZS.frozen 1
      clear ew5 ZS B5 hs5
      go_upto_region 8 with fail
      clear y0 y1 q0 q1 q2 q3 q4 q5 a0 a1 f0 f1
      have ZS := HZS.out.set 1 (.int .i64 ((mN : Int) + 1))
      have B6 : Below w4.heap.size w4 (w5.setCell ⟨w4.heap.size, 1, none⟩ (.int .i64 ((mN : Int) + 1))) := HB5.out.setCell (p := ⟨w4.heap.size, 1, none⟩) (Nat.le_refl _) _
      have hs6 : (w5.setCell ⟨w4.heap.size, 1, none⟩ (.int .i64 ((mN : Int) + 1))).heap.size = w4.heap.size + 1 := by rw [World.size_setCell]; exact HS5.out
      obtain ⟨w6, ew6⟩ : ∃ w6, w5.setCell ⟨w4.heap.size, 1, none⟩ (.int .i64 ((mN : Int) + 1)) = w6 := ⟨_, rfl⟩
      rw [ew6] at ZS B6 hs6 ⊢
      have HZ6 : Hid (Whole w6 w4.heap.size 26 #[.int .i64 d, .int .i64 ((mN : Int) + 1), .int .i64 bm, .int .i64 nm, .int .i64 dn]) := Lib.hid ZS
      have HB6 := Lib.hid B6
      have HS6 := Lib.hid hs6
      obtain ⟨⟨y0, y1⟩, ⟨q0, q1, q2, q3, q4⟩, q5⟩ := HC4.out _ B6
      clear ew6 ZS B6 HZS HB5 HS5
      go_wp2
      have HM0 : Hid (Mo w4 #[.int .i64 d, .int .i64 ((mN : Int) + 1), .int .i64 bm, .int .i64 nm, .int .i64 dn] s none 0 0 ((L.take 0).map bare) (w6.alloc (.cells #[.slice none 0 0, .int .i64 s] 24))) := Lib.hid ⟨below_one HB6.out _, HZ6.out.below (below_one (Below.refl _ _) _) HZ6.out.lt, by have := Whole.new w6 24 #[.slice none 0 0, .int .i64 s]; rw [HS6.out] at this; exact this, ⟨rfl, .inl ⟨rfl, rfl⟩⟩⟩
      clear y0 y1 q0 q1 q2 q3 q4 q5 hs6 HZ6 HB6 HS6
      go_loopw [11] (fun i wr => ∃ (k : Nat) (A' : Option Addr) (c' : Nat), k ≤ L.length ∧ i = .int .i64 k ∧ Hid (Mo w4 #[.int .i64 d, .int .i64 ((mN : Int) + 1), .int .i64 bm, .int .i64 nm, .int .i64 dn] s A' k c' ((L.take k).map bare) wr)) (fun i _ => L.length - (intOf i).toNat)
      case atStart => exact ⟨0, none, 0, by omega, rfl, HM0⟩
      case round =>
        clear HM0
        obtain ⟨k, A', c', hk, rfl, HM⟩ := hrel
        by_cases hlt : k < L.length
        · have g1 : decide ((k : Int) < (L.length : Int)) = true := decide_eq_true (by omega)
          obtain ⟨bb, ob, id, va, vcc, v, oa, occ, o, rfl, hBB, n1, n2, n3, hr1, hr2, hv⟩ := HX.out.rd.at_ hlt
          have x1 : (0 : Int) ≤ (k : Int) := by omega
          have x2 : (k : Int) < (L.length : Int) := by omega
          have HCL4 : Hid (∀ W, Below w4.heap.size w4 W → W.cell? ⟨g, 0, none⟩ = some (.slice (some ⟨bb, ob, none⟩) L.length c) ∧ W.cell? ⟨bb, ob + k * 3, none⟩ = some (.int .u64 id) ∧ W.cell? ⟨bb, ob + k * 3 + 1, none⟩ = some (.slice va v.length vcc)) := Lib.hid (fun W h => ⟨(HC4.out W h).1.1, ((HUP4.out W h).cell (p := ⟨bb, ob + k * 3, none⟩) hBB).trans n1, ((HUP4.out W h).cell (p := ⟨bb, ob + k * 3 + 1, none⟩) hBB).trans n2⟩)
          have HTB := Lib.hid (take_bare hv.out)
          have HFB := Lib.hid (flat_bare ((L.take k).map bare) (id, (va, vcc, v), (oa, occ, o)))
          obtain ⟨i0, hi, hz0, hz1, hz2⟩ := info_parts Try.info37m
          have y0 := (HCL4.out _ HM.out.bel).1
          clear n1 n2 n3 hr1 hr2 hv
          go_upto_region 12 with fail
          clear y0
          have bd : Below w4.heap.size w4 wr.drew := HM.out.bel.drew
          have bdr : Below wr.heap.size wr wr.drew := (Below.refl _ _).drew
          have hsz := HM.out.bel.size
          have hst := HM.out.ob.lt
          obtain ⟨d0, d1, d2⟩ := HCL4.out _ bd
          have d3 : wr.drew.cell? ⟨w4.heap.size + 1, 0, none⟩ = some (.slice A' k c') := (HM.out.ob.below bdr HM.out.ob.lt).cell 0
          have d4 := (HM.out.ob.below bdr HM.out.ob.lt).frozen 0
          refine region_last2 (S := fun w' => w'.cell? ⟨g, 0, none⟩ = some (.slice (some ⟨bb, ob, none⟩) L.length c) ∧ w'.cell? ⟨bb, ob + k * 3, none⟩ = some (.int .u64 id) ∧ w'.cell? ⟨bb, ob + k * 3 + 1, none⟩ = some (.slice va v.length vcc) ∧ w'.cell? ⟨w4.heap.size + 1, 0, none⟩ = some (.slice A' k c')) 20 ⟨none, .store 22 (.tmp 88) (.tmp 87), _, _, _, _⟩ (by kernel_rfl) rfl rfl (by kernel_rfl) (by kernel_rfl) ⟨d0, d1, d2, d3⟩ (fun hHeld => ?_)
          simp only [List.setIfInBounds_toArray, List.set_cons_zero, List.set_cons_succ]
          refine wpAnyH_take (i := 0) (v := .pointer (some ⟨w4.heap.size + 1, 0, none⟩)) rfl (by kernel_rfl) (by kernel_rfl) (by kernel_rfl) (fun _ _ _ h => h) (Or.inl ⟨by rfl, ?_⟩) (by assumption) ?_
          · intro w' hSw
            obtain ⟨t0, t1, t2, t3⟩ := hSw
            go_simp
          simp only [Act.put, List.setIfInBounds_toArray]
          refine wpAnyH_take (i := 1) (v := .slice A' k c') rfl (by kernel_rfl) (by kernel_rfl) (by kernel_rfl) (fun _ _ _ h => h) (Or.inl ⟨by rfl, ?_⟩) (by assumption) ?_
          · intro w' hSw
            obtain ⟨t0, t1, t2, t3⟩ := hSw
            go_simp
          simp only [Act.put, List.setIfInBounds_toArray]
          refine wpAnyH_take (i := 2) (v := .pointer (some ⟨g, 0, none⟩)) rfl (by kernel_rfl) (by kernel_rfl) (by kernel_rfl) (fun _ _ _ h => h) (Or.inl ⟨by rfl, ?_⟩) (by assumption) ?_
          · intro w' hSw
            obtain ⟨t0, t1, t2, t3⟩ := hSw
            go_simp
          simp only [Act.put, List.setIfInBounds_toArray]
          refine wpAnyH_take (i := 3) (v := .pointer (some ⟨g, 0, none⟩)) rfl (by kernel_rfl) (by kernel_rfl) (by kernel_rfl) (fun _ _ _ h => h) (Or.inl ⟨by rfl, ?_⟩) (by assumption) ?_
          · intro w' hSw
            obtain ⟨t0, t1, t2, t3⟩ := hSw
            go_simp
          simp only [Act.put, List.setIfInBounds_toArray]
          refine wpAnyH_take (i := 4) (v := .slice (some ⟨bb, ob, none⟩) L.length c) rfl (by kernel_rfl) (by kernel_rfl) (by kernel_rfl) (fun _ _ _ h => h) (Or.inl ⟨by rfl, ?_⟩) (by assumption) ?_
          · intro w' hSw
            obtain ⟨t0, t1, t2, t3⟩ := hSw
            go_simp
          simp only [Act.put, List.setIfInBounds_toArray]
          refine wpAnyH_take (i := 5) (v := .int .i64 (k : Int)) rfl (by kernel_rfl) (by kernel_rfl) (by kernel_rfl) (fun _ _ _ h => h) (Or.inl ⟨by rfl, ?_⟩) (by assumption) ?_
          · intro w' hSw
            obtain ⟨t0, t1, t2, t3⟩ := hSw
            go_simp
          simp only [Act.put, List.setIfInBounds_toArray]
          refine wpAnyH_take (i := 6) (v := .pointer (some ⟨bb, ob + k * 3, none⟩)) rfl (by kernel_rfl) (by kernel_rfl) (by kernel_rfl) (fun _ _ _ h => h) (Or.inl ⟨by rfl, ?_⟩) (by assumption) ?_
          · intro w' hSw
            obtain ⟨t0, t1, t2, t3⟩ := hSw
            go_simp
          simp only [Act.put, List.setIfInBounds_toArray]
          refine wpAnyH_take (i := 7) (v := .pointer (some ⟨bb, ob + k * 3, none⟩)) rfl (by kernel_rfl) (by kernel_rfl) (by kernel_rfl) (fun _ _ _ h => h) (Or.inl ⟨by rfl, ?_⟩) (by assumption) ?_
          · intro w' hSw
            obtain ⟨t0, t1, t2, t3⟩ := hSw
            go_simp
          simp only [Act.put, List.setIfInBounds_toArray]
          refine wpAnyH_take (i := 8) (v := .int .u64 id) rfl (by kernel_rfl) (by kernel_rfl) (by kernel_rfl) (fun _ _ _ h => h) (Or.inl ⟨by rfl, ?_⟩) (by assumption) ?_
          · intro w' hSw
            obtain ⟨t0, t1, t2, t3⟩ := hSw
            go_simp
          simp only [Act.put, List.setIfInBounds_toArray]
          refine wpAnyH_take (i := 9) (v := .pointer (some ⟨g, 0, none⟩)) rfl (by kernel_rfl) (by kernel_rfl) (by kernel_rfl) (fun _ _ _ h => h) (Or.inl ⟨by rfl, ?_⟩) (by assumption) ?_
          · intro w' hSw
            obtain ⟨t0, t1, t2, t3⟩ := hSw
            go_simp
          simp only [Act.put, List.setIfInBounds_toArray]
          refine wpAnyH_take (i := 10) (v := .pointer (some ⟨g, 0, none⟩)) rfl (by kernel_rfl) (by kernel_rfl) (by kernel_rfl) (fun _ _ _ h => h) (Or.inl ⟨by rfl, ?_⟩) (by assumption) ?_
          · intro w' hSw
            obtain ⟨t0, t1, t2, t3⟩ := hSw
            go_simp
          simp only [Act.put, List.setIfInBounds_toArray]
          refine wpAnyH_take (i := 11) (v := .slice (some ⟨bb, ob, none⟩) L.length c) rfl (by kernel_rfl) (by kernel_rfl) (by kernel_rfl) (fun _ _ _ h => h) (Or.inl ⟨by rfl, ?_⟩) (by assumption) ?_
          · intro w' hSw
            obtain ⟨t0, t1, t2, t3⟩ := hSw
            go_simp
          simp only [Act.put, List.setIfInBounds_toArray]
          refine wpAnyH_take (i := 12) (v := .int .i64 (k : Int)) rfl (by kernel_rfl) (by kernel_rfl) (by kernel_rfl) (fun _ _ _ h => h) (Or.inl ⟨by rfl, ?_⟩) (by assumption) ?_
          · intro w' hSw
            obtain ⟨t0, t1, t2, t3⟩ := hSw
            go_simp
          simp only [Act.put, List.setIfInBounds_toArray]
          refine wpAnyH_take (i := 13) (v := .pointer (some ⟨bb, ob + k * 3, none⟩)) rfl (by kernel_rfl) (by kernel_rfl) (by kernel_rfl) (fun _ _ _ h => h) (Or.inl ⟨by rfl, ?_⟩) (by assumption) ?_
          · intro w' hSw
            obtain ⟨t0, t1, t2, t3⟩ := hSw
            go_simp
          simp only [Act.put, List.setIfInBounds_toArray]
          refine wpAnyH_take (i := 14) (v := .pointer (some ⟨bb, ob + k * 3 + 1, none⟩)) rfl (by kernel_rfl) (by kernel_rfl) (by kernel_rfl) (fun _ _ _ h => h) (Or.inl ⟨by rfl, ?_⟩) (by assumption) ?_
          · intro w' hSw
            obtain ⟨t0, t1, t2, t3⟩ := hSw
            go_simp
          simp only [Act.put, List.setIfInBounds_toArray]
          refine wpAnyH_take (i := 15) (v := .slice va v.length vcc) rfl (by kernel_rfl) (by kernel_rfl) (by kernel_rfl) (fun _ _ _ h => h) (Or.inl ⟨by rfl, ?_⟩) (by assumption) ?_
          · intro w' hSw
            obtain ⟨t0, t1, t2, t3⟩ := hSw
            go_simp
          simp only [Act.put, List.setIfInBounds_toArray]
          refine wpAnyH_take (i := 16) (v := .agg #[.int .u64 id, .slice va v.length vcc, .slice none 0 0]) rfl (by kernel_rfl) (by kernel_rfl) (by kernel_rfl) (fun _ _ _ h => h) (Or.inl ⟨by rfl, ?_⟩) (by assumption) ?_
          · intro w' hSw
            obtain ⟨t0, t1, t2, t3⟩ := hSw
            go_simp
          simp only [Act.put, List.setIfInBounds_toArray]
          refine wpAnyH_ready (rs := [17]) (by kernel_rfl) (by simp) ?_
          refine AllReadyH.cons rfl (fun K hK => ?_) AllReadyH.nil
          go_simp
          have b7 : Below wr.heap.size wr (wr.drew.alloc (.cells #[.int .u64 id, .slice va v.length vcc, .slice none 0 0] 37)) := below_one bdr _
          obtain ⟨k0, k1, k2⟩ := HCL4.out _ (HM.out.bel.trans (b7.mono hsz))
          have k3 := (HM.out.ob.below b7 HM.out.ob.lt).cell 0
          refine hK.out _ _ ?_ (fun hHeld => ?_)
          · exact ⟨k0, k1, k2, k3⟩
          clear hK K
          try simp only [Act.put, List.setIfInBounds_toArray, List.set_cons_zero, List.set_cons_succ]
          refine wpAnyH_ready (rs := [18]) (by kernel_rfl) (by simp) ?_
          refine AllReadyH.cons rfl (fun K hK => ?_) AllReadyH.nil
          refine step_append_lies _ (by rfl) (.tmp 70) (.tmp 86) _ (by rfl) (w4.heap.size + 2) 37 i0 (.agg #[.int .u64 0, .slice none 0 0, .slice none 0 0]) 3 56 Try.underlying22 hi hz0 hz1 hz2 rfl (by omega) (.slice A' k c') k (flatG ((L.take k).map bare)) (by rfl) (own_below HM.out.row b7) ⟨wr.heap.size, 0, none⟩ 1 1 [.int .u64 id, .slice va v.length vcc, .slice none 0 0] (by rfl) (by rfl) (World.news_of_block (cs := #[.int .u64 id, .slice va v.length vcc, .slice none 0 0]) (t := 37) (fr := (0, 0)) (heap_alloc_new wr.drew _)) (by simp [Value.oneCell']) (by omega) (by unfold maxLen; omega) (by omega) (Nat.le_trans hst b7.size) (wr.heap.size + 1) (by simp) ?_
          intro gg gcap w8 hown8 hgrow8 hat8 hlt8
          have HN8 := Lib.hid (HM.out.next (T2 := (L.take (k + 1)).map bare) b7 (by rw [HTB.out]; rw [show bare (id, (va, vcc, v), (oa, occ, o)) = (id, (va, vcc, v), vNil) from rfl]; rw [show flatG ((L.take k).map bare ++ [(id, (va, vcc, v), vNil)]) = flatG ((L.take k).map bare) ++ [.int .u64 id, .slice va v.length vcc, .slice none 0 0] from HFB.out]; exact hown8) hgrow8)
          have hbk : ∀ x, (Value.slice A' k c').ownBlock = some x → w4.heap.size + 2 ≤ x := fun x hx => (HM.out.row.lt x hx).1
          have cb8 := whole_grownM (HM.out.ob.below b7 HM.out.ob.lt) hgrow8 hbk (by omega)
          have b8 : Below w4.heap.size w4 w8 := (HM.out.bel.trans (b7.mono hsz)).grown hgrow8 (by have := b7.size; omega) (fun r hr => by have := hbk r hr; omega)
          have cb8c : w8.cell? ⟨w4.heap.size + 1, 0, none⟩ = some (.slice A' k c') := cb8.cell 0
          have cb8f := cb8.frozen 0
          obtain ⟨m0, m1, m2⟩ := HCL4.out _ b8
          refine hK.out _ _ ?_ (fun hHeld => ?_)
          · exact ⟨m0, m1, m2, cb8c⟩
          clear hK K
          try simp only [Act.put, List.setIfInBounds_toArray]
          refine wpAnyH_take (i := 19) (v := .pointer (some ⟨w4.heap.size + 1, 0, none⟩)) rfl (by kernel_rfl) (by kernel_rfl) (by kernel_rfl) (fun _ _ _ h => h) (Or.inl ⟨by rfl, ?_⟩) (by assumption) ?_
          · intro w' hSw
            obtain ⟨t0, t1, t2, t3⟩ := hSw
            go_simp
          simp only [Act.put, List.setIfInBounds_toArray]
          refine wpAnyH_take (i := 20) (v := undef) rfl (by kernel_rfl) (by kernel_rfl) (by kernel_rfl) (fun _ _ _ h => h) (Or.inr ⟨by rfl, rfl⟩) (by assumption) ?_
          try simp only [Act.put]
          refine wpAnyH_done (by kernel_rfl) ?_ _
          simp only [Exit.then]
          refine wpOp_step (o := ⟨none, .store 22 (.tmp 88) (.tmp 87), _, _, _, _⟩) rfl (fun K hK => ?_)
          go_simp
          refine hK _ _ ?_
          clear hK K
          try simp only [Act.put, List.setIfInBounds_toArray, List.set_cons_zero, List.set_cons_succ]
          clear hown8 hgrow8 hat8 hlt8 cb8 cb8c cb8f b8 b7 m0 m1 m2 k0 k1 k2 k3 d0 d1 d2 d3 d4 hbk bd bdr
          go_wp2
          go_roundw
          case rel => exact ⟨k + 1, some ⟨gg, 0, none⟩, gcap, by omega, by go_num, HN8⟩
          case measure => simp [intOf]; omega
        · obtain rfl : k = L.length := by omega
          have g1 : decide ((L.length : Int) < (L.length : Int)) = false := decide_eq_false (by omega)
          have y0 := (HC4.out _ HM.out.bel).1.1
          have HE := HM.out.bel
          rw [List.take_length] at HM
          have KB := keep_any A' c' (L.map bare) s d ((mN : Int) + 1) bm nm dn (a : Int) B q P wr (bare_arg HM.out.row (fun x hx => ((given_vec HX.out x hx).below (HUP4.out _ HE)).more (HUP4.out _ HE).size) HSM.out HX.out.ok) (fun x hx => by obtain ⟨y, _, rfl⟩ := List.mem_map.1 hx; exact Nat.le_refl _) ((HPd.out.below HE).more HE.size) (by omega)
          have hk2 : keepB (pns (L.map bare)) s d ((mN : Int) + 1) bm nm dn (a : Int) P = true := by rw [pns_bare]; exact keepB_bare HKB.out (by omega)
          have hk3 : keepL (pns (L.map bare)) nm dn ((mN : Int) + 1) a P = R.take (mN + 1) := by
            rw [pns_bare, keepL_bare, keepL_few (pns L) nm dn (deg := (dN : Int)) (by omega) (by omega), HER.out, show ((mN : Int) + 1).toNat = mN + 1 by omega]
          rw [List.length_map] at KB
          have z0 := HM.out.ob.cell 0
          have z1 := HM.out.ob.cell 1
          have u0 := HM.out.st.cell 0
          have u1 := HM.out.st.cell 1
          have u2 := HM.out.st.cell 2
          have u3 := HM.out.st.cell 3
          have u4 := HM.out.st.cell 4
          have q5 := (HC4.out _ HE).2.2
          go_wp2_with fail
          refine KB.mono ?_
          intro e w7 hans
          obtain ⟨V2, c2, rfl, ho7, b7⟩ := keepYes hans hk2 hk3
          dsimp only
          clear hans hk2 hk3 KB y0 z0 z1 u0 u1 u2 u3 u4 q5
          have HM7 := Lib.hid (HM.out.below b7)
          obtain ⟨R2, eR2⟩ : ∃ x, R.take (mN + 1) = x := ⟨_, rfl⟩
          have HR2 : Hid (natI R2 = (natI R).take (mN + 1)) := Lib.hid (by rw [← eR2]; unfold natI; rw [List.map_take])
          have hz : R2.length = min (mN + 1) R.length := by rw [← eR2, List.length_take]
          rw [eR2] at ho7 ⊢
          clear eR2
          have HO7 := Lib.hid ho7
          have u1 := HM7.out.st.cell 1
          clear ho7 b7 HM HE
          have z1 : R2.length ≤ R.length := by omega
          have z2 : R2.length ≤ mN + 1 := by omega
          have z3 : R.length ≤ R2.length ∨ mN + 1 ≤ R2.length := by omega
          have emin : min (R.length : Int) ((mN : Int) + 1) = (R2.length : Int) := by omega
          have ewr : IntKind.i64.wrap (R2.length : Int) = (R2.length : Int) := IntWalk.i64_in _ (by omega)
          have hvc : R.length ≤ vc := own_roomU HO4.out
          clear hz
          go_upto_region 14 with fail
          go_cut [111] from 98 to 111 (fun v wx => v = .bool false ∧ Hid (Below w7.heap.size w7 wx))
          case first =>
            have SZ := sameZ_any V2 V c2 vc (natI R2) (natI R2) w7 w7.heap.size (own_rdU HO7.out) (by rw [HR2.out]; exact (((HRd.out.below HM7.out.bel).more HM7.out.bel.size).take _)) (by rw [natI_len]; omega) (by rw [natI_len]; omega)
            rw [natI_len, zs_selfM] at SZ
            go_wp2_with fail
            refine SZ.mono ?_
            rintro e w8 ⟨rfl, n1, rfl⟩
            dsimp only
            go_wp2_with fail
            go_meet
            exact ⟨rfl, Lib.hid (below_drewN (Below.refl _ _) n1)⟩
          case rest =>
            obtain ⟨rfl, HC⟩ := hcut
            have HBC := Lib.hid (HM7.out.bel.trans (HC.out.mono HM7.out.bel.size))
            clear HM7 HO7 HR2 HC z1 z2 z3 emin ewr hvc
            obtain ⟨⟨y0, y1⟩, ⟨q0, q1, q2, q3, q4⟩, q5⟩ := HC4.out _ HBC.out
            obtain ⟨a0, a1⟩ := HA4.out _ HBC.out
            go_upto_region 17 with fail
            clear y0 y1 q0 q1 q2 q3 q4 q5 a0 a1
            have hnum := HASK.out.num
            have hden := HASK.out.den
            have ZS := Whole.new wc 26 #[.int .i64 d, .int .i64 (dN : Int), .int .i64 bm, .int .i64 nm, .int .i64 dn]
            have B8 : Below w4.heap.size w4 (wc.alloc (.cells #[.int .i64 d, .int .i64 (dN : Int), .int .i64 bm, .int .i64 nm, .int .i64 dn] 26)) := below_one HBC.out _
            obtain ⟨hb, ehb⟩ : ∃ hb, wc.heap.size = hb := ⟨_, rfl⟩
            have hhb : w4.heap.size ≤ hb := by rw [← ehb]; exact HBC.out.size
            rw [ehb] at ZS ⊢
            obtain ⟨w8, ew8⟩ : ∃ w8, wc.alloc (.cells #[.int .i64 d, .int .i64 (dN : Int), .int .i64 bm, .int .i64 nm, .int .i64 dn] 26) = w8 := ⟨_, rfl⟩
            rw [ew8] at ZS B8 ⊢
            have HZS := Lib.hid ZS
            have HB8 := Lib.hid B8
            obtain ⟨a0, a1⟩ := HA4.out _ B8
            have f0 := ZS.cell 3
            have f1 := ZS.cell 4
            have f2 := ZS.frozen 3
            have e5 : IntKind.i64.wrap (nm - (kN : Int)) = nm - (kN : Int) := IntWalk.i64_in _ (by omega)
            obtain ⟨lw, elw⟩ : ∃ lw, max dn (nm - (kN : Int)) = lw := ⟨_, rfl⟩
            have hlw : dn ≤ lw ∧ lw ≤ nm := by omega
            have HLW := Lib.hid hlw
            clear ew8 ZS B8 ehb HBC hlw
            go_upto_region 18 with fail
            clear a0 a1 f0 f1 f2 e5 elw
            have ZS := HZS.out.set 3 (.int .i64 lw)
            have B9 : Below w4.heap.size w4 (w8.setCell ⟨hb, 3, none⟩ (.int .i64 lw)) := HB8.out.setCell (p := ⟨hb, 3, none⟩) hhb _
            obtain ⟨w9, ew9⟩ : ∃ w9, w8.setCell ⟨hb, 3, none⟩ (.int .i64 lw) = w9 := ⟨_, rfl⟩
            rw [ew9] at ZS B9 ⊢
            have HZ9 : Hid (Whole w9 hb 26 #[.int .i64 d, .int .i64 (dN : Int), .int .i64 bm, .int .i64 lw, .int .i64 dn]) := Lib.hid ZS
            have HB9 := Lib.hid B9
            clear ew9 ZS B9 HZS HB8 hnum hden
            have HL9 : Hid (∀ W, Below w9.heap.size w9 W → Below w4.heap.size w4 W ∧ (W.cell? ⟨hb, 0, none⟩ = some (.int .i64 d) ∧ W.cell? ⟨hb, 1, none⟩ = some (.int .i64 (dN : Int)) ∧ W.cell? ⟨hb, 2, none⟩ = some (.int .i64 bm) ∧ W.cell? ⟨hb, 3, none⟩ = some (.int .i64 lw) ∧ W.cell? ⟨hb, 4, none⟩ = some (.int .i64 dn))) := Lib.hid (fun W h => by
              have z0 := HZ9.out.below h HZ9.out.lt
              exact ⟨HB9.out.trans (h.mono HB9.out.size), z0.cell 0, z0.cell 1, z0.cell 2, z0.cell 3, z0.cell 4⟩)
            have HDL := Lib.hid (fun W (h : Below w4.heap.size w4 W) (x y : Nat) (hx : x < L.length) (hy : y < L.length) => (by
              have h1 := dominQ_any A c L s d (dN : Int) bm lw dn (a : Int) (x : Int) (y : Int) W (HAR.out.below (HUP4.out W h)) HRM.out
              obtain ⟨h2, h3⟩ := (HASK.out.low HLW.out).dom (x := x) (y := y) (by rw [HLN.out]; exact hx) (by rw [HLN.out]; exact hy)
              rw [h2, h3] at h1
              exact h1 : Calls Try.prog 15 #[.agg #[.slice A L.length c, .int .i64 s], .agg #[.int .i64 d, .int .i64 (dN : Int), .int .i64 bm, .int .i64 lw, .int .i64 dn], .int .i64 (a : Int), .int .i64 (x : Int), .int .i64 (y : Int)] W fun e w' => e = .returned (.tuple #[.bool (ndP (pns L) lw dn a x y), .int .i64 0]) ∧ Below W.heap.size W w'))
            clear HZ9 HB9 hhb
            have CB : Hid (Below w9.heap.size w9 w9) := Lib.hid (Below.refl _ _)
            have hPl : P.length ≤ 300 := by omega
            go_wp2
            go_loopw [15] (fun i wr => ∃ k : Nat, k ≤ P.length ∧ i = .int .i64 k ∧ Hid (Below w9.heap.size w9 wr)) (fun i _ => P.length - (intOf i).toNat)
            case atStart => exact ⟨0, by omega, rfl, CB⟩
            case round =>
              clear CB
              obtain ⟨k, hk, rfl, HB⟩ := hrel
              obtain ⟨j, ej⟩ : ∃ j, k + 1 = j := ⟨_, rfl⟩
              have h1 : (k : Int) + 1 = (j : Int) := by omega
              have h2 : IntKind.i64.wrap ((k : Int) + 1) = (j : Int) := by rw [IntWalk.i64_in _ (by omega)]; omega
              have h3 : IntKind.i64.wrap (j : Int) = (j : Int) := IntWalk.i64_in _ (by omega)
              by_cases hlt : j < P.length
              · have e2 : decide ((j : Int) < (P.length : Int)) = true := decide_eq_true (by omega)
                have hkl : k < P.length := by omega
                obtain ⟨pb, po, t, rfl, hpb, hpc, hpv⟩ := HPd.out.at_ hkl
                obtain ⟨pb2, po2, t2, eB, hpb2, hpc2, hpv2⟩ := HPd.out.at_ hlt
                cases eB
                have htr := HASK.out.all t (List.mem_of_getElem? (i := k) (by have := hpv.out; rw [List.getElem?_eq_getElem hkl] at this ⊢; exact congrArg some this))
                have htr2 := HASK.out.all t2 (List.mem_of_getElem? (i := j) (by have := hpv2.out; rw [List.getElem?_eq_getElem hlt] at this ⊢; exact congrArg some this))
                obtain ⟨p, rfl⟩ := Int.eq_ofNat_of_zero_le htr.1
                obtain ⟨p2, rfl⟩ := Int.eq_ofNat_of_zero_le htr2.1
                have hpl : p < L.length := by rw [HLN.out] at htr; omega
                have hpl2 : p2 < L.length := by rw [HLN.out] at htr2; omega
                have HLOW : Hid (ndP (pns L) nm dn a p p2 = true → ndP (pns L) lw dn a p p2 = true) := Lib.hid (ndP_low HASK.out.pg HLW.out.2 (by rw [HLN.out]; exact hpl) (by rw [HLN.out]; exact hpl2))
                have x1 : (0 : Int) ≤ (k : Int) := by omega
                have x2 : (k : Int) < (P.length : Int) := by omega
                have x3 : (0 : Int) ≤ (j : Int) := by omega
                have x4 : (j : Int) < (P.length : Int) := by omega
                have KS : ∀ W, Below w9.heap.size w9 W → W.cell? ⟨g, 0, none⟩ = some (.slice A L.length c) ∧ W.cell? ⟨g, 1, none⟩ = some (.int .i64 s) ∧ W.cell? ⟨g, 7, none⟩ = some (.int .i64 (a : Int)) ∧ W.cell? ⟨g, 2, none⟩ = some (.int .i64 d) ∧ W.cell? ⟨g, 3, none⟩ = some (.int .i64 (dN : Int)) ∧ W.cell? ⟨g, 4, none⟩ = some (.int .i64 bm) ∧ W.cell? ⟨g, 5, none⟩ = some (.int .i64 nm) ∧ W.cell? ⟨g, 6, none⟩ = some (.int .i64 dn) ∧ W.cell? ⟨hb, 0, none⟩ = some (.int .i64 d) ∧ W.cell? ⟨hb, 1, none⟩ = some (.int .i64 (dN : Int)) ∧ W.cell? ⟨hb, 2, none⟩ = some (.int .i64 bm) ∧ W.cell? ⟨hb, 3, none⟩ = some (.int .i64 lw) ∧ W.cell? ⟨hb, 4, none⟩ = some (.int .i64 dn) ∧ W.cell? ⟨pb, po + k, none⟩ = some (.int .i64 (p : Int)) ∧ W.cell? ⟨pb, po + j, none⟩ = some (.int .i64 (p2 : Int)) := fun W h => by
                  have h4 := (HL9.out W h).1
                  have z := HC4.out W h4
                  obtain ⟨l0, l1, l2, l3, l4⟩ := (HL9.out W h).2
                  exact ⟨z.1.1, z.1.2, z.2.2, z.2.1.1, z.2.1.2.1, z.2.1.2.2.1, z.2.1.2.2.2.1, z.2.1.2.2.2.2, l0, l1, l2, l3, l4, (h4.cell (p := ⟨pb, po + k, none⟩) hpb).trans hpc, (h4.cell (p := ⟨pb, po + j, none⟩) hpb2).trans hpc2⟩
                have KC : ∀ {f : Nat} {args : Array Value} {W : World} {e0 : Ending}, Below w9.heap.size w9 W → (Calls Try.prog f args W fun e w' => e = e0 ∧ Below W.heap.size W w') → Calls Try.prog f args W fun e w' => e = e0 ∧ Below w9.heap.size w9 w' ∧ w'.cell? ⟨g, 0, none⟩ = some (.slice A L.length c) ∧ w'.cell? ⟨g, 1, none⟩ = some (.int .i64 s) ∧ w'.cell? ⟨g, 7, none⟩ = some (.int .i64 (a : Int)) ∧ w'.cell? ⟨g, 2, none⟩ = some (.int .i64 d) ∧ w'.cell? ⟨g, 3, none⟩ = some (.int .i64 (dN : Int)) ∧ w'.cell? ⟨g, 4, none⟩ = some (.int .i64 bm) ∧ w'.cell? ⟨g, 5, none⟩ = some (.int .i64 nm) ∧ w'.cell? ⟨g, 6, none⟩ = some (.int .i64 dn) ∧ w'.cell? ⟨hb, 0, none⟩ = some (.int .i64 d) ∧ w'.cell? ⟨hb, 1, none⟩ = some (.int .i64 (dN : Int)) ∧ w'.cell? ⟨hb, 2, none⟩ = some (.int .i64 bm) ∧ w'.cell? ⟨hb, 3, none⟩ = some (.int .i64 lw) ∧ w'.cell? ⟨hb, 4, none⟩ = some (.int .i64 dn) ∧ w'.cell? ⟨pb, po + k, none⟩ = some (.int .i64 (p : Int)) ∧ w'.cell? ⟨pb, po + j, none⟩ = some (.int .i64 (p2 : Int)) := fun h C => C.mono fun e w' q => (by
                  have hw := h.trans (q.2.mono h.size)
                  exact ⟨q.1, hw, KS w' hw⟩)
                have A6 := Lib.hid (fun W (h : Below w9.heap.size w9 W) => KC h (HDM.out W (HL9.out W h).1 p p2 hpl hpl2))
                have A7 := Lib.hid (fun W (h : Below w9.heap.size w9 W) => KC h (HDL.out W (HL9.out W h).1 p p2 hpl hpl2))
                have HKS := Lib.hid KS
                obtain ⟨c1v, ec1⟩ : ∃ x, ndP (pns L) nm dn a p p2 = x := ⟨_, rfl⟩
                obtain ⟨c2v, ec2⟩ : ∃ x, ndP (pns L) lw dn a p p2 = x := ⟨_, rfl⟩
                rw [ec1] at A6 HLOW
                rw [ec2] at A7 HLOW
                have HDK := HB.out.drew
                obtain ⟨j0, j1, j2, j3, j4, j5, j6, j7, j8, j9, j10, j11, j12, j13, j14⟩ := KS _ HDK
                clear ec1 ec2 KS KC hpb hpc hpv hpb2 hpc2 hpv2 htr htr2 ej
                go_wp2
                first
                | (go_region_held3 (fun w' => w'.cell? ⟨g, 0, none⟩ = some (.slice A L.length c) ∧ w'.cell? ⟨g, 1, none⟩ = some (.int .i64 s) ∧ w'.cell? ⟨g, 7, none⟩ = some (.int .i64 (a : Int)) ∧ w'.cell? ⟨g, 2, none⟩ = some (.int .i64 d) ∧ w'.cell? ⟨g, 3, none⟩ = some (.int .i64 (dN : Int)) ∧ w'.cell? ⟨g, 4, none⟩ = some (.int .i64 bm) ∧ w'.cell? ⟨g, 5, none⟩ = some (.int .i64 nm) ∧ w'.cell? ⟨g, 6, none⟩ = some (.int .i64 dn) ∧ w'.cell? ⟨hb, 0, none⟩ = some (.int .i64 d) ∧ w'.cell? ⟨hb, 1, none⟩ = some (.int .i64 (dN : Int)) ∧ w'.cell? ⟨hb, 2, none⟩ = some (.int .i64 bm) ∧ w'.cell? ⟨hb, 3, none⟩ = some (.int .i64 lw) ∧ w'.cell? ⟨hb, 4, none⟩ = some (.int .i64 dn) ∧ w'.cell? ⟨pb, po + k, none⟩ = some (.int .i64 (p : Int)) ∧ w'.cell? ⟨pb, po + j, none⟩ = some (.int .i64 (p2 : Int)))
                  (first | exact ⟨by with_reducible assumption, by with_reducible assumption, by with_reducible assumption, by with_reducible assumption, by with_reducible assumption, by with_reducible assumption, by with_reducible assumption, by with_reducible assumption, by with_reducible assumption, by with_reducible assumption, by with_reducible assumption, by with_reducible assumption, by with_reducible assumption, by with_reducible assumption, by with_reducible assumption⟩)
                  (first
                    | (go_at_call 15; (with_reducible refine (A6.out _ (by with_reducible assumption)).mono ?_); rintro e wf ⟨rfl, bwf, zwf0, zwf1, zwf2, zwf3, zwf4, zwf5, zwf6, zwf7, zwf8, zwf9, zwf10, zwf11, zwf12, zwf13, zwf14⟩)
                    | fail))
                | fail
                all_goals
                  have HBf := Lib.hid bwf
                  clear zwf0 zwf1 zwf2 zwf3 zwf4 zwf5 zwf6 zwf7 zwf8 zwf9 zwf10 zwf11 zwf12 zwf13 zwf14 bwf j0 j1 j2 j3 j4 j5 j6 j7 j8 j9 j10 j11 j12 j13 j14 HDK
                  have HDK := HBf.out.drew
                  obtain ⟨j0, j1, j2, j3, j4, j5, j6, j7, j8, j9, j10, j11, j12, j13, j14⟩ := HKS.out _ HDK
                  go_wp2
                  first
                  | (go_region_held3 (fun w' => w'.cell? ⟨g, 0, none⟩ = some (.slice A L.length c) ∧ w'.cell? ⟨g, 1, none⟩ = some (.int .i64 s) ∧ w'.cell? ⟨g, 7, none⟩ = some (.int .i64 (a : Int)) ∧ w'.cell? ⟨g, 2, none⟩ = some (.int .i64 d) ∧ w'.cell? ⟨g, 3, none⟩ = some (.int .i64 (dN : Int)) ∧ w'.cell? ⟨g, 4, none⟩ = some (.int .i64 bm) ∧ w'.cell? ⟨g, 5, none⟩ = some (.int .i64 nm) ∧ w'.cell? ⟨g, 6, none⟩ = some (.int .i64 dn) ∧ w'.cell? ⟨hb, 0, none⟩ = some (.int .i64 d) ∧ w'.cell? ⟨hb, 1, none⟩ = some (.int .i64 (dN : Int)) ∧ w'.cell? ⟨hb, 2, none⟩ = some (.int .i64 bm) ∧ w'.cell? ⟨hb, 3, none⟩ = some (.int .i64 lw) ∧ w'.cell? ⟨hb, 4, none⟩ = some (.int .i64 dn) ∧ w'.cell? ⟨pb, po + k, none⟩ = some (.int .i64 (p : Int)) ∧ w'.cell? ⟨pb, po + j, none⟩ = some (.int .i64 (p2 : Int)))
                    (first | exact ⟨by with_reducible assumption, by with_reducible assumption, by with_reducible assumption, by with_reducible assumption, by with_reducible assumption, by with_reducible assumption, by with_reducible assumption, by with_reducible assumption, by with_reducible assumption, by with_reducible assumption, by with_reducible assumption, by with_reducible assumption, by with_reducible assumption, by with_reducible assumption, by with_reducible assumption⟩)
                    (first
                      | (go_at_call 15; (with_reducible refine (A7.out _ (by with_reducible assumption)).mono ?_); rintro e wg ⟨rfl, bwg, zwg0, zwg1, zwg2, zwg3, zwg4, zwg5, zwg6, zwg7, zwg8, zwg9, zwg10, zwg11, zwg12, zwg13, zwg14⟩)
                      | fail))
                  | fail
                  all_goals
                    have HBg := Lib.hid bwg
                    clear zwg0 zwg1 zwg2 zwg3 zwg4 zwg5 zwg6 zwg7 zwg8 zwg9 zwg10 zwg11 zwg12 zwg13 zwg14 bwg j0 j1 j2 j3 j4 j5 j6 j7 j8 j9 j10 j11 j12 j13 j14 HDK
                    cases c1v with
                    | false =>
                      go_wp2
                      go_roundw
                      case rel => exact ⟨j, by omega, by go_num, HBg⟩
                      case measure => simp [intOf]; omega
                    | true =>
                      have hc2 := HLOW.out rfl
                      subst hc2
                      go_wp2
                      go_roundw
                      case rel => exact ⟨j, by omega, by go_num, HBg⟩
                      case measure => simp [intOf]; omega
              · have e2 : decide ((j : Int) < (P.length : Int)) = false := decide_eq_false (by omega)
                go_wp2
                go_ret
                exact ⟨rfl, HUP4.out _ (HL9.out _ HB.out).1⟩
end Go.Proofs.Ytjdidlbmgnfcdaa
