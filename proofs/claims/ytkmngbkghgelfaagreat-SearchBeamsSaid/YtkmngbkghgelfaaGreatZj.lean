/- The document's Beam; the walk of SearchBeams. -/
import Derived.Test.YtkmngbkghgelfaaGreatZi
import Derived.Test.YtkmngbkghgelfaaGreatZh
import Derived.Test.YtkmngbkghgelfaaGreatKq
import Derived.Test.YtkmngbkghgelfaaGreatKf
import Derived.Test.YtkmngbkghgelfaaGreatLb
import Derived.Test.YtkmngbkghgelfaaGreatBy
import Derived.Test.YtkmngbkghgelfaaGreatBs
import Derived.Deep.Cut
namespace Go.Proofs.YtkmngbkghgelfaaGreat
open Go.Shelf Go.RowKit Go.Lib
open Go.Sort hiding Below
set_option linter.unusedVariables false
set_option linter.unusedSimpArgs false
set_option maxRecDepth 100000 in
set_option maxHeartbeats 4000000 in
theorem refBeam_any (A : Option Addr) (c : Nat) (L : List Gn) (s : Int) (B : Option Addr) (q : Nat) (v : List Int) (k m : Int) (w : World) (hx : GArg w A L) (hv : Rd .i8 w w.heap.size B v) (bv : ∀ n ∈ v, -128 ≤ n ∧ n ≤ 127) :
    Calls Tryz.prog 19 #[.agg #[.slice A L.length c, .int .i64 s], .slice B v.length q, .int .i64 k, .int .i64 m] w fun e w' => ∃ A1 c1 A2 c2, e = .returned (.tuple #[.slice A1 (beamH (pns L) s v k m).length c1, .slice A2 (beamO (pns L) s v k m).length c2, .int .i64 (errG (beamB (pns L) s v k m))]) ∧ RdH w' w'.heap.size A1 (beamH (pns L) s v k m) ∧ Rd .i64 w' w'.heap.size A2 (beamO (pns L) s v k m) ∧ Below w.heap.size w w' := by
  have HX := Lib.hid hx
  have HVV := Lib.hid hv
  have HBV := Lib.hid bv
  have HPL := Lib.hid (pns_len L)
  have HW0 := Lib.hid (Whole.new w 24 #[.slice A L.length c, .int .i64 s])
  have HB0 := Lib.hid (below_one (Below.refl w.heap.size w) (.cells #[.slice A L.length c, .int .i64 s] 24))
  obtain ⟨w1, ew1⟩ : ∃ w1, w.alloc (.cells #[.slice A L.length c, .int .i64 s] 24) = w1 := ⟨_, rfl⟩
  obtain ⟨g, eg⟩ : ∃ g, w.heap.size = g := ⟨_, rfl⟩
  rw [ew1] at HW0 HB0
  rw [eg] at HW0
  have HCL : Hid (∀ W, Below w1.heap.size w1 W → W.cell? ⟨g, 0, none⟩ = some (.slice A L.length c) ∧ W.cell? ⟨g, 1, none⟩ = some (.int .i64 s)) := Lib.hid (fun W h => by
    have z0 := HW0.out.below h HW0.out.lt
    exact ⟨z0.cell 0, z0.cell 1⟩)
  have HUP : Hid (∀ W, Below w1.heap.size w1 W → Below w.heap.size w W) := Lib.hid (fun W h => HB0.out.trans (h.mono HB0.out.size))
  have HM := Lib.hid (refMay_any A c L s B q v w1 (hx.below HB0.out))
  have HNO : Hid (beamB (pns L) s v k m = false → ∀ W, Below w1.heap.size w1 W → ∃ A1 c1 A2 c2, Ending.returned (.tuple #[.slice none 0 0, .slice none 0 0, .int .i64 1]) = .returned (.tuple #[.slice A1 (beamH (pns L) s v k m).length c1, .slice A2 (beamO (pns L) s v k m).length c2, .int .i64 (errG (beamB (pns L) s v k m))]) ∧ RdH W W.heap.size A1 (beamH (pns L) s v k m) ∧ Rd .i64 W W.heap.size A2 (beamO (pns L) s v k m) ∧ Below w.heap.size w W) := Lib.hid (fun hB W hW => by
    have e1 : beamH (pns L) s v k m = [] := by unfold beamH; rw [hB]; rfl
    have e2 : beamO (pns L) s v k m = [] := by unfold beamO; rw [hB]; rfl
    rw [e1, e2, hB]
    exact ⟨none, 0, none, 0, rfl, fun h => absurd h (Nat.lt_irrefl _), fun h => absurd h (Nat.lt_irrefl _), HUP.out _ hW⟩)
  obtain ⟨y0, y1⟩ := HCL.out _ (Below.refl _ _)
  clear hx hv bv
  go_enter Tryz.func19, Tryz.ntmps19
  go_upto_region 1 with fail
  try rw [ew1]
  try rw [eg]
  have HEG := Lib.hid eg
  clear ew1 eg
  go_wp2_with fail
  refine HM.out.mono ?_
  rintro e w2 ⟨rfl, b2⟩
  dsimp only
  have HB2 := Lib.hid b2
  clear y0 y1 b2 HM
  cases hM : mayS (pns L) s v with
  | false =>
    have HNB := Lib.hid (HNO.out (by unfold beamB; rw [hM]; rfl) _ HB2.out)
    clear hM HNO
    go_wp2
    go_ret3
    exact HNB.out
  | true =>
  by_cases h1 : m < 1
  · have HNB := Lib.hid (HNO.out (by unfold beamB; rw [hM]; exact decide_eq_false (by omega)) _ HB2.out)
    have f1 : decide (m < 1) = true := decide_eq_true h1
    clear hM HNO h1 
    go_wp2
    go_ret3
    exact HNB.out
  have f1 : decide (m < 1) = false := decide_eq_false h1
  by_cases h2 : 256 < m
  · have HNB := Lib.hid (HNO.out (by unfold beamB; rw [hM]; exact decide_eq_false (by omega)) _ HB2.out)
    have f2 : decide (256 < m) = true := decide_eq_true h2
    clear hM HNO h2 h1
    go_wp2
    go_ret3
    exact HNB.out
  have f2 : decide (256 < m) = false := decide_eq_false h2
  by_cases h3 : k < 1
  · have HNB := Lib.hid (HNO.out (by unfold beamB; rw [hM]; exact decide_eq_false (by omega)) _ HB2.out)
    have f3 : decide (k < 1) = true := decide_eq_true h3
    clear hM HNO h3 h1 h2
    go_wp2
    go_ret3
    exact HNB.out
  have f3 : decide (k < 1) = false := decide_eq_false h3
  by_cases h4 : m < k
  · have HNB := Lib.hid (HNO.out (by unfold beamB; rw [hM]; exact decide_eq_false (by omega)) _ HB2.out)
    have f4 : decide (m < k) = true := decide_eq_true h4
    clear hM HNO h4 h1 h2 h3
    go_wp2
    go_ret3
    exact HNB.out
  have f4 : decide (m < k) = false := decide_eq_false h4
  have hB : beamB (pns L) s v k m = true := by unfold beamB; rw [hM]; exact decide_eq_true (by omega)
  obtain ⟨kn, rfl⟩ : ∃ kn : Nat, k = kn := ⟨k.toNat, by omega⟩
  obtain ⟨mn, rfl⟩ : ∃ mn : Nat, m = mn := ⟨m.toNat, by omega⟩
  have f4n : decide (mn < kn) = false := decide_eq_false (by omega)
  have hm1 : 1 ≤ mn := by omega
  have hm2 : mn ≤ 256 := by omega
  have HMS := Lib.hid (mayS_yes hM)
  obtain ⟨y0, y1⟩ := HCL.out _ HB2.out
  have hub := HUP.out _ HB2.out
  have CS := refSearch_any A c L s B q v mn w2 (HX.out.below hub) ((HVV.out.below hub).more hub.size) HBV.out HMS.out hm1 hm2
  obtain ⟨FP, eFP⟩ : ∃ FP, finP (pns L) v mn s.toNat = FP := ⟨_, rfl⟩
  have hX : beamH (pns L) s v (kn : Int) (mn : Int) = (hlP (pns L) v FP.ps).take kn := by
    unfold beamH beamF
    rw [hB, if_pos rfl]
    simp only [Int.toNat_natCast]
    rw [eFP]
  have hO : beamO (pns L) s v (kn : Int) (mn : Int) = natS FP.od := by
    unfold beamO beamF
    rw [hB, if_pos rfl]
    simp only [Int.toNat_natCast]
    rw [eFP]; rfl
  have HFL : Hid (FP.ps.length ≤ 256) := Lib.hid (by rw [← eFP]; have := (finP_ok HMS.out (m := mn) (by omega)).le; omega)
  rw [eFP] at CS
  have HYES : Hid (∀ (A1 : Option Addr) (c1 n1 : Nat) (A2 : Option Addr) (c2 : Nat) W, n1 = ((hlP (pns L) v FP.ps).take kn).length → RdH W W.heap.size A1 ((hlP (pns L) v FP.ps).take kn) → Rd .i64 W W.heap.size A2 (natS FP.od) → Below w1.heap.size w1 W → ∃ A1' c1' A2' c2', Ending.returned (.tuple #[.slice A1 n1 c1, .slice A2 FP.od.length c2, .int .i64 0]) = .returned (.tuple #[.slice A1' (beamH (pns L) s v (kn : Int) (mn : Int)).length c1', .slice A2' (beamO (pns L) s v (kn : Int) (mn : Int)).length c2', .int .i64 (errG (beamB (pns L) s v (kn : Int) (mn : Int)))]) ∧ RdH W W.heap.size A1' (beamH (pns L) s v (kn : Int) (mn : Int)) ∧ Rd .i64 W W.heap.size A2' (beamO (pns L) s v (kn : Int) (mn : Int)) ∧ Below w.heap.size w W) := Lib.hid (fun A1 c1 n1 A2 c2 W hn hr ho hW => by
    rw [hX, hO, hB, ← hn, natS_len]
    exact ⟨A1, c1, A2, c2, rfl, hr, ho, HUP.out _ hW⟩)
  have HCS := Lib.hid CS
  clear hM hB hX hO HNO h1 h2 h3 h4 CS eFP hub
  go_wp2_with fail
  refine HCS.out.mono ?_
  rintro e w3 ⟨A1, c1, A2, c2, rfl, hr, ho, hb, hcap⟩
  dsimp only
  have HB3 : Hid (Below w1.heap.size w1 w3) := Lib.hid (HB2.out.trans (hb.mono HB2.out.size))
  have HR := Lib.hid hr
  have HO := Lib.hid ho
  have hfl := HFL.out
  obtain ⟨PL, ePL⟩ : ∃ PL, FP.ps.length = PL := ⟨_, rfl⟩
  have HPE : Hid ((hlP (pns L) v FP.ps).length = PL) := Lib.hid (by rw [hlP_len, ePL])
  rw [ePL] at hcap hfl ⊢
  clear hr ho hb HCS y0 y1 ePL
  rcases Nat.lt_or_ge kn PL with hmn | hmn
  · have e4 : min (kn : Int) (PL : Int) = (kn : Int) := by omega
    have e6 : Hid (kn = ((hlP (pns L) v FP.ps).take kn).length) := Lib.hid (by rw [List.length_take, HPE.out]; omega)
    have e7 : decide ((PL : Int) < (kn : Int)) = false := decide_eq_false (by omega)
    have e8 : decide ((kn : Int) < (PL : Int)) = true := decide_eq_true (by omega)
    have x3 : (0 : Int) ≤ (kn : Int) := by omega
    have x4 : (kn : Int) ≤ (c1 : Int) := by omega
    go_wp2
    go_ret3
    exact HYES.out A1 c1 kn A2 c2 _ e6.out (HR.out.take kn) HO.out HB3.out
  · have e4 : min (kn : Int) (PL : Int) = (PL : Int) := by omega
    have e6 : Hid ((hlP (pns L) v FP.ps).take kn = hlP (pns L) v FP.ps) := Lib.hid (List.take_of_length_le (by rw [HPE.out]; omega))
    have e8 : decide ((kn : Int) < (PL : Int)) = false := decide_eq_false (by omega)
    have x3 : (0 : Int) ≤ (PL : Int) := by omega
    have x4 : (PL : Int) ≤ (c1 : Int) := by omega
    go_wp2
    go_ret3
    exact HYES.out A1 c1 PL A2 c2 _ (by rw [e6.out, HPE.out]) (by rw [e6.out]; exact HR.out) HO.out HB3.out
theorem beam_no2 {G : List Pn} {s : Int} {v : List Int} {k m : Int} (hB : beamB G s v k m = false) : beamH G s v k m = [] ∧ beamO G s v k m = [] := ⟨by unfold beamH; rw [hB]; rfl, by unfold beamO; rw [hB]; rfl⟩
theorem beam_lens (G : List Pn) (s : Int) (v : List Int) (k m : Int) (hl : G.length ≤ 20000) : (beamH G s v k m).length ≤ 256 ∧ (beamO G s v k m).length ≤ 20000 := by
  cases hB : beamB G s v k m with
  | false =>
    obtain ⟨e1, e2⟩   := beam_no2 hB
    rw [e1, e2]
    exact ⟨Nat.zero_le _, Nat.zero_le _⟩
  | true =>
    rw [beamB_eq, Bool.and_eq_true, Bool.and_eq_true] at hB
    obtain ⟨⟨h1, h2⟩, h3⟩ := hB
    have h2' : 1 ≤ m ∧ m ≤ 256 := of_decide_eq_true h2
    have h3' : 1 ≤ k ∧ k ≤ m := of_decide_eq_true h3
    have hM := mayS_yes h1
    have ok := finP_ok hM (m := m.toNat) (by omega)
    have hBB : beamB G s v k m = true := by rw [beamB_eq, h1, h2, decide_eq_true h3']; rfl
    have hle := ok.le
    constructor
    · unfold beamH beamF
      rw [if_pos hBB, List.length_take, hlP_len]; omega
    · unfold beamO beamF
      rw [if_pos hBB, List.length_map]
      have := nodup_lt_len ok.odn (fun p hp => ok.lt p (ok.ods p hp))
      omega
/-- A book of which the hits' entries lie below hi, all others below lo. -/
def BTh (w : World) (bk base n lo hi : Nat) : Prop := ∃ es, BG w bk base n es ∧ (∀ j, (es j).length ≤ n) ∧ (∀ j, j ≠ 10 → ∀ e ∈ es j, ∀ g, e.blk = some g → g < lo) ∧ ∀ e ∈ es 10, ∀ g, e.blk = some g → g < hi
theorem bth_hits {bk base n lo hi : Nat} {A : Option Addr} {len cap : Nat} {xs : List Value} {w : World} (hB : BTg w bk base n lo) (hx : w.ownsRow base 78 2 (.slice A len cap) len xs) (hr : ∀ g, (Value.slice A len cap).ownBlock = some g → lo ≤ g ∧ g < hi) (hlo : lo ≤ hi) (hb : base ≤ w.heap.size) (hbb : base ≤ bk) (hlen : len ≤ 10000000) (hn : n ≤ 700000) :
    Calls Tryz.prog 16 #[.pointer (some ⟨bk, 0, none⟩), .slice A len cap] w fun e w' => e = .returned (.tuple #[]) ∧ BTh w' bk base (n + 1) lo hi ∧ KG base w w' := by
  obtain ⟨es, h1, h2, h3⟩ := hB
  refine (bgHits_any bk base n A len cap es xs w (by omega) hb hbb h1 hx (fun e he => neG_range _ _ (h3 10 e he) hr) hlen (by have := h2 10; omega)).mono ?_
  rintro e w' ⟨rfl, k1, k2⟩
  exact ⟨rfl, ⟨_, k1, updG_len h2, fun j hj => by rw [updG_other _ _ _ hj]; exact h3 j, updG_lt (x := ⟨A, len, cap, n + 1⟩) hlo h3 hr 10⟩, k2⟩
theorem bth_ints {bk base n lo hi : Nat} {A : Option Addr} {len cap : Nat} {xs : List Value} {w : World} (hB : BTh w bk base n lo hi) (hx : w.ownsRow base 3 1 (.slice A len cap) len xs) (hr : ∀ g, (Value.slice A len cap).ownBlock = some g → lo ≤ g ∧ g < hi) (hlo : lo ≤ hi) (hb : base ≤ w.heap.size) (hbb : base ≤ bk) (hlen : len ≤ 10000000) (hn : n ≤ 700000) :
    Calls Tryz.prog 21 #[.pointer (some ⟨bk, 0, none⟩), .slice A len cap] w fun e w' => e = .returned (.tuple #[]) ∧ BTg w' bk base (n + 1) hi ∧ KG base w w' := by
  obtain ⟨es, h1, h2, h3, h4⟩ := hB
  refine (bgInts_any bk base n A len cap es xs w (by omega) hb hbb h1 hx (fun e he => neG_range _ _ (h3 2 (by decide) e he) hr) hlen (by have := h2 2; omega)).mono ?_
  rintro e w' ⟨rfl, k1, k2⟩
  refine ⟨rfl, ⟨_, k1, updG_len h2, fun j e he g hg => ?_⟩, k2⟩
  by_cases hj : j = 2
  · subst hj
    rw [updG_same] at he
    rcases List.mem_append.1 he with q | q
    · have := h3 2 (by decide) e q g hg; omega
    · rw [List.mem_singleton] at q
      subst q
      exact (hr g hg).2
  · rw [updG_other _ _ _ hj] at he
    by_cases hj2 : j = 10
    · subst hj2; exact h4 e he g hg
    · have := h3 j hj2 e he g hg; omega
theorem own_rdHI {w : World} {base n c : Nat} {e : TypeId} {A : Option Addr} {k : IntKind} {xs : List Int} (h : w.ownsRow base e 1 (.slice A n c) n (xs.map (Value.int k))) : Rd k w w.heap.size A xs := own_rdK h
set_option maxRecDepth 100000 in
set_option maxHeartbeats 3000000 in
theorem searchBeams_main (A : Option Addr) (c : Nat) (L : List Gn) (s : Int) (B : Option Addr) (q : Nat) (v : List Int) (p0 p1 : Int) (w : World) (hx : GGiven w A L) (hv : Rd .i8 w w.heap.size B v) (bv : ∀ n ∈ v, -128 ≤ n ∧ n ≤ 127) (hl : v.length ≤ q) (hm : q ≤ 140737488351232) :
    Calls Tryz.prog 4 #[.agg #[.slice A L.length c, .int .i64 s], .slice B v.length q, .agg #[.int .i64 p0, .int .i64 p1]] w fun e w' => e = .returned (.bool true) ∧ Below w.heap.size w w' := by
  have HW0 := Lib.hid ((Whole.new w 24 #[.slice A L.length c, .int .i64 s]).alloc (.cells #[.int .i64 p0, .int .i64 p1] 56))
  have HW1 : Hid (Whole ((w.alloc (.cells #[.slice A L.length c, .int .i64 s] 24)).alloc (.cells #[.int .i64 p0, .int .i64 p1] 56)) (w.heap.size + 1) 56 #[.int .i64 p0, .int .i64 p1]) := Lib.hid (by
    have := Whole.new (w.alloc (.cells #[.slice A L.length c, .int .i64 s] 24)) 56 #[.int .i64 p0, .int .i64 p1]
    simpa using this)
  have HB0 := Lib.hid (below_one (below_one (Below.refl w.heap.size w) (.cells #[.slice A L.length c, .int .i64 s] 24)) (.cells #[.int .i64 p0, .int .i64 p1] 56))
  have HX := Lib.hid hx
  have HV := Lib.hid hv
  have HBV := Lib.hid bv
  have zc0 := HW0.out.cell 0
  have zc1 := HW0.out.cell 1
  clear hx hv bv
  go_enter Tryz.func4, Tryz.ntmps4
  go_wp2_with fail
  obtain ⟨w1, ew1⟩ : ∃ w1, (w.alloc (.cells #[.slice A L.length c, .int .i64 s] 24)).alloc (.cells #[.int .i64 p0, .int .i64 p1] 56) = w1 := ⟨_, rfl⟩
  rw [ew1] at HW0 HW1 HB0 ⊢
  obtain ⟨g, eg⟩ : ∃ g, w.heap.size = g := ⟨_, rfl⟩
  rw [eg] at HW0 HW1 ⊢
  have HG := Lib.hid eg
  clear ew1 eg zc0 zc1
  refine (greatS_any A c L s w1 (HX.out.below HB0.out)).mono ?_
  rintro e wq ⟨⟨gb, rfl, hgb⟩, bq⟩
  dsimp only
  have HBQ := Lib.hid (HB0.out.trans (bq.mono HB0.out.size))
  cases gb with
  | true =>
    clear hgb
    go_wp2
    go_ret
    exact ⟨rfl, HBQ.out⟩
  | false =>
  have HSG := Lib.hid (hgb rfl)
  have HSM : Hid (GSmall (pns L)) := Lib.hid HSG.out.1
  clear hgb
  go_wp2_with fail
  refine (beyond_oneZ v.length (by omega) wq).mono ?_
  rintro e w2' ⟨⟨bb, rfl, hbb⟩, rfl⟩
  dsimp only
  have bq2 : Below wq.heap.size wq (wq.alloc (.cells #[.int .i64 (v.length : Int)] 3)) := below_one (Below.refl _ _) _
  obtain ⟨w2, ew2⟩ : ∃ w2, wq.alloc (.cells #[.int .i64 (v.length : Int)] 3) = w2 := ⟨_, rfl⟩
  rw [ew2] at bq2 ⊢
  have HB2 := Lib.hid (HBQ.out.trans (bq2.mono HBQ.out.size))
  cases bb with
  | true =>
    clear hbb
    go_wp2
    go_ret
    exact ⟨rfl, HB2.out⟩
  | false =>
    have hPl := hbb rfl
    have Z0 := (HW0.out.below bq HW0.out.lt).below bq2 (Nat.lt_of_lt_of_le HW0.out.lt bq.size)
    have zc0 := Z0.cell 0
    have zc1 := Z0.cell 1
    have HZ0 := Lib.hid Z0
    have HZ1 := Lib.hid ((HW1.out.below bq HW1.out.lt).below bq2 (Nat.lt_of_lt_of_le HW1.out.lt bq.size))
    clear hbb bq bq2 ew2 Z0 HW0 HW1 HB0
    go_upto_region 4 with (go_at_call 7; refine (twinGraph_any A c L s w2 (HX.out.below HB2.out) HSM.out).mono ?_; rintro e w3 ⟨gt, T, rfl, hgt, hT, hTv, hTl, b3⟩)
    obtain ⟨w4, ew4⟩ : ∃ w4, w3.alloc (.cells #[.slice (some ⟨gt, 0, none⟩) L.length (L.length + 1), .int .i64 s] 24) = w4 := ⟨_, rfl⟩
    obtain ⟨tb, etb⟩ : ∃ tb, w3.heap.size = tb := ⟨_, rfl⟩
    have b4 : Below w2.heap.size w2 w4 := by rw [← ew4]; exact below_one b3 _
    have ZT : Whole w4 tb 24 #[.slice (some ⟨gt, 0, none⟩) L.length (L.length + 1), .int .i64 s] := by rw [← ew4, ← etb]; exact Whole.new w3 _ _
    have hT4 : TwinG w4 w2.heap.size gt T := by rw [← ew4]; exact hT.below (below_one (Below.refl _ _) _)
    have hIG : InG w4 w2.heap.size w2.heap.size w4.heap.size (some ⟨gt, 0, none⟩) (T.length + 1) T := hT4.inG (Nat.le_refl _) (by rw [hTv]; exact fun x h => HSM.out.at_ h)
    have HB4 : Hid (Below w.heap.size w w4) := Lib.hid (HB2.out.trans (b4.mono HB2.out.size))
    have HZT := Lib.hid ZT
    have HT4 := Lib.hid hT4
    have HIG := Lib.hid hIG
    have HTV := Lib.hid hTv
    have HTL := Lib.hid hTl
    have HB24 := Lib.hid b4
    have HCL : Hid (∀ W, Below w4.heap.size w4 W → W.cell? ⟨g, 0, none⟩ = some (.slice A L.length c) ∧ W.cell? ⟨g, 1, none⟩ = some (.int .i64 s) ∧ W.cell? ⟨tb, 0, none⟩ = some (.slice (some ⟨gt, 0, none⟩) L.length (L.length + 1)) ∧ W.cell? ⟨tb, 1, none⟩ = some (.int .i64 s) ∧ W.cell? ⟨g + 1, 0, none⟩ = some (.int .i64 p0) ∧ W.cell? ⟨g + 1, 1, none⟩ = some (.int .i64 p1)) := Lib.hid (fun W h => by
      have hW : Below w2.heap.size w2 W := HB24.out.trans (h.mono HB24.out.size)
      have z0 := HZ0.out.below hW HZ0.out.lt
      have z2 := HZT.out.below h HZT.out.lt
      have z3 := HZ1.out.below hW HZ1.out.lt
      exact ⟨z0.cell 0, z0.cell 1, z2.cell 0, z2.cell 1, z3.cell 0, z3.cell 1⟩)
    have HUP : Hid (∀ W, Below w4.heap.size w4 W → Below w.heap.size w W) := Lib.hid (fun W h => HB4.out.trans (h.mono HB4.out.size))
    have HAR : Hid (GArg w A L) := Lib.hid (HX.out.arg HSM.out)
    have HVR : Hid (∀ W, Below w.heap.size w W → Rd .i8 W W.heap.size B v) := Lib.hid (fun W h => (HV.out.below h).more h.size)
    rw [ew4, etb]
    have hT0 : L.length ≤ 20000 := by have := HSM.out.len; rwa [pns_len] at this
    clear ew4 etb b4 ZT hT4 hTv hTl hT b3 hgt zc0 zc1 hIG
    have c4 : Below w4.heap.size w4 w4 := Below.refl _ _
    obtain ⟨y0, y1, y2, y3, y4, y5⟩ := HCL.out _ c4
    go_wp2_with fail
    refine (twinInt8s_any B q v v.length rfl w4 (HVR.out _ HB4.out) (by omega)).mono ?_
    rintro e w5 ⟨rfl, b5, o5⟩
    dsimp only
    have c5 : Below w4.heap.size w4 w5 := b5
    have KP : KTw .i8 64 w5 w4.heap.size (some ⟨w4.heap.size, 0, none⟩, v.length + 1, v) := ⟨rfl, ⟨_, rfl⟩, o5⟩
    have HKP := Lib.hid KP
    have C30 : Hid (∀ W, Below w5.heap.size w5 W → Calls Tryz.prog 18 #[.agg #[.slice (some ⟨gt, 0, none⟩) L.length (L.length + 1), .int .i64 s], .slice (some ⟨w4.heap.size, 0, none⟩) v.length (v.length + 1), .int .i64 p0, .int .i64 p1] W (BAns W (beamH (pns L) s v p0 p1) (beamO (pns L) s v p0 p1) (errG (beamB (pns L) s v p0 p1)))) := Lib.hid (fun W h => by
      have hW := HT4.out.below (b5.trans (h.mono b5.size))
      have := beam_any (some ⟨gt, 0, none⟩) (L.length + 1) T s (some ⟨w4.heap.size, 0, none⟩) (v.length + 1) v p0 p1 W (twin_argZ hW HTV.out HSM.out HX.out.ok) (HKP.out.below h).rd0 HBV.out
      rwa [HTL.out, HTV.out] at this)
    have C31 : Hid (∀ W, Below w4.heap.size w4 W → Calls Tryz.prog 19 #[.agg #[.slice A L.length c, .int .i64 s], .slice B v.length q, .int .i64 p0, .int .i64 p1] W fun e w' => ∃ A1 c1 A2 c2, e = .returned (.tuple #[.slice A1 (beamH (pns L) s v p0 p1).length c1, .slice A2 (beamO (pns L) s v p0 p1).length c2, .int .i64 (errG (beamB (pns L) s v p0 p1))]) ∧ RdH w' w'.heap.size A1 (beamH (pns L) s v p0 p1) ∧ Rd .i64 w' w'.heap.size A2 (beamO (pns L) s v p0 p1) ∧ Below W.heap.size W w') := Lib.hid (fun W h => refBeam_any A c L s B q v p0 p1 W (HAR.out.below (HUP.out W h)) (HVR.out _ (HUP.out W h)) HBV.out)
    obtain ⟨hxl, hol⟩ := beam_lens (pns L) s v p0 p1 HSM.out.len
    obtain ⟨XS, eG⟩ : ∃ XS, beamH (pns L) s v p0 p1 = XS := ⟨_, rfl⟩
    obtain ⟨OS, eO⟩ : ∃ OS, beamO (pns L) s v p0 p1 = OS := ⟨_, rfl⟩
    obtain ⟨E, eE⟩ : ∃ E, errG (beamB (pns L) s v p0 p1) = E := ⟨_, rfl⟩
    rw [eG, eO, eE] at C30 C31
    rw [eG] at hxl
    rw [eO] at hol
    clear eG eO eE KP o5 y0 y1 y2 y3 y4 y5
    obtain ⟨y0, y1, y2, y3, y4, y5⟩ := HCL.out _ c5
    go_wp2_with fail
    refine (C30.out _ (Below.refl _ _)).mono ?_
    rintro e w6 ⟨A6, q6, N6, r6, rfl, o6, u6, b6⟩
    dsimp only
    have c6 : Below w4.heap.size w4 w6 := c5.trans (b6.mono c5.size)
    clear y0 y1 y2 y3 y4 y5
    obtain ⟨y0, y1, y2, y3, y4, y5⟩ := HCL.out _ c6
    go_wp2_with fail
    refine (C30.out _ b6).mono ?_
    rintro e w7 ⟨A7, q7, N7, r7, rfl, o7, u7, b7⟩
    dsimp only
    have c7 : Below w4.heap.size w4 w7 := c6.trans (b7.mono c6.size)
    clear y0 y1 y2 y3 y4 y5
    obtain ⟨y0, y1, y2, y3, y4, y5⟩ := HCL.out _ c7
    go_wp2_with fail
    refine (C31.out _ c7).mono ?_
    rintro e w8 ⟨A8, q8, N8, s8, rfl, r8, t8, b8⟩
    dsimp only
    have c8 : Below w4.heap.size w4 w8 := c7.trans (b8.mono c7.size)
    clear y0 y1 y2 y3 y4 y5
    obtain ⟨y0, y1, y2, y3, y4, y5⟩ := HCL.out _ c8
    have b68 : Below w6.heap.size w6 w8 := b7.trans (b8.mono b7.size)
    have O6 := Lib.hid (own_below o6 b68)
    have O7 := Lib.hid (own_below o7 b8)
    have U6 := Lib.hid (own_below u6 b68)
    have U7 := Lib.hid (own_below u7 b8)
    have z24 := HB24.out.size
    have z45 := b5.size
    have z56 := b6.size
    have z67 := b7.size
    have z78 := b8.size
    have RG6 : Hid (∀ gg, (Value.slice A6 XS.length q6).ownBlock = some gg → w5.heap.size ≤ gg ∧ gg < w6.heap.size) := Lib.hid (own_rngZ o6 (Nat.le_refl _))
    have RG7 : Hid (∀ gg, (Value.slice A7 XS.length q7).ownBlock = some gg → w6.heap.size ≤ gg ∧ gg < w7.heap.size) := Lib.hid (own_rngZ o7 (Nat.le_refl _))
    have UG6 : Hid (∀ gg, (Value.slice N6 OS.length r6).ownBlock = some gg → w5.heap.size ≤ gg ∧ gg < w6.heap.size) := Lib.hid (own_rngZ u6 (Nat.le_refl _))
    have UG7 : Hid (∀ gg, (Value.slice N7 OS.length r7).ownBlock = some gg → w6.heap.size ≤ gg ∧ gg < w7.heap.size) := Lib.hid (own_rngZ u7 (Nat.le_refl _))
    have HT8 := Lib.hid t8
    have CSH := Lib.hid (sameHits_any A6 A8 q6 q8 XS XS w8 w8.heap.size (own_rdHZ O6.out) r8 (by omega) (by omega))
    rw [show eqHB XS XS = true from decide_eq_true rfl] at CSH
    have e7 : (E != E) = false := by simp
    have HKB := Lib.hid (HKP.out.below (b6.trans (b68.mono b6.size)))
    clear o6 o7 u6 u7 t8 b5 b6 b7 b8 b68 c5 c6 c7 C30 C31 r8 c4
    go_wp2_with fail
    refine CSH.out.mono ?_
    rintro e w9 ⟨rfl, nq, rfl⟩
    dsimp only
    have d9 : Below w8.heap.size w8 (w8.drewN nq) := below_drewN (Below.refl _ _) nq
    obtain ⟨w9, ew9⟩ : ∃ w9, w8.drewN nq = w9 := ⟨_, rfl⟩
    rw [ew9] at d9 ⊢
    have c9 : Below w4.heap.size w4 w9 := c8.trans (d9.mono c8.size)
    have CSI := Lib.hid (sameZ_any N6 N8 r6 s8 OS OS w9 w9.heap.size (own_rdHI (own_below U6.out d9)) ((HT8.out.below d9).more d9.size) (by omega) (by omega))
    rw [show eqZ OS OS = true by simp [eqZ]] at CSI
    clear y0 y1 y2 y3 y4 y5 ew9 CSH
    obtain ⟨y0, y1, y2, y3, y4, y5⟩ := HCL.out _ c9
    go_wp2_with fail
    refine CSI.out.mono ?_
    rintro e wX ⟨rfl, nx, rfl⟩
    dsimp only
    have dX : Below w9.heap.size w9 (w9.drewN nx) := below_drewN (Below.refl _ _) nx
    obtain ⟨wX, ewX⟩ : ∃ wX, w9.drewN nx = wX := ⟨_, rfl⟩
    rw [ewX] at dX ⊢
    have c9 : Below w4.heap.size w4 wX := c9.trans (dX.mono c9.size)
    have d9 : Below w8.heap.size w8 wX := d9.trans (dX.mono d9.size)
    clear y0 y1 y2 y3 y4 y5 ewX CSI dX
    obtain ⟨y0, y1, y2, y3, y4, y5⟩ := HCL.out _ c9
    go_wp2_with fail
    refine (leftGraph_any gt w2.heap.size T A c L s _ rfl wX (HT4.out.below c9) HTV.out HTL.out (HX.out.below (HUP.out _ c9)) HSM.out).mono ?_
    rintro e wE ⟨rfl, bE⟩
    dsimp only
    have cE8 : Below w8.heap.size w8 wE := d9.trans (bE.mono d9.size)
    have cE : Below w4.heap.size w4 wE := c9.trans (bE.mono c9.size)
    clear y0 y1 y2 y3 y4 y5
    obtain ⟨y0, y1, y2, y3, y4, y5⟩ := HCL.out _ cE
    go_wp2_with fail
    refine (leftInt8s_any (some ⟨w4.heap.size, 0, none⟩) B (v.length + 1) q v v.length rfl wE wE.heap.size (HVR.out _ (HUP.out _ cE)) (HKB.out.below cE8).rd hl (Nat.lt_succ_self _) (by omega) (by omega)).mono ?_
    rintro e wF ⟨rfl, nq, rfl⟩
    dsimp only
    have dF : Below wE.heap.size wE (wE.drewN nq) := below_drewN (Below.refl _ _) nq
    obtain ⟨wF, ewF⟩ : ∃ wF, wE.drewN nq = wF := ⟨_, rfl⟩
    rw [ewF] at dF ⊢
    have cF8 : Below w8.heap.size w8 wF := cE8.trans (dF.mono cE8.size)
    have cF : Below w4.heap.size w4 wF := cE.trans (dF.mono cE.size)
    clear y0 y1 y2 y3 y4 y5 ewF
    obtain ⟨y0, y1, y2, y3, y4, y5⟩ := HCL.out _ cF
    have HBN := Lib.hid (btg_new wF w2.heap.size w2.heap.size)
    have bN : Below wF.heap.size wF (wF.alloc newBkG) := below_one (Below.refl _ _) _
    have eN : wF.alloc newBkG = wF.alloc (.cells #[.int .i64 0, .slice none 0 0, .slice none 0 0, .slice none 0 0, .slice none 0 0, .slice none 0 0, .slice none 0 0, .slice none 0 0, .slice none 0 0, .slice none 0 0, .slice none 0 0, .slice none 0 0, .slice none 0 0] 50) := rfl
    have HEN := Lib.hid eN
    have cN8 : Below w8.heap.size w8 (wF.alloc newBkG) := cF8.trans (bN.mono cF8.size)
    have cN : Below w4.heap.size w4 (wF.alloc newBkG) := cF.trans (bN.mono cF.size)
    have yN := HCL.out _ cN
    rw [eN] at yN
    clear y0 y1 y2 y3 y4 y5
    obtain ⟨y0, y1, y2, y3, y4, y5⟩ := yN
    clear eN
    go_upto_region 11 with fail
    rw [← HEN.out]
    obtain ⟨wN, ewN⟩ : ∃ wN, wF.alloc newBkG = wN := ⟨_, rfl⟩
    obtain ⟨bk, ebk⟩ : ∃ bk, wF.heap.size = bk := ⟨_, rfl⟩
    rw [ewN, ebk] at HBN
    rw [ewN] at cN cN8
    rw [← HEN.out, ewN] at y0 y1 y2 y3 y4 y5
    rw [ewN, ebk]
    have hbk : w2.heap.size ≤ bk := by rw [← ebk]; have := cF.size; omega
    have hzN : w8.heap.size ≤ wN.heap.size := cN8.size
    have I1 := Lib.hid (HIG.out.below cN)
    have O5 := Lib.hid (own_base (HKB.out.below cN8).own (Nat.le_trans z24 (Nat.le_refl _)))
    have R5 : Hid (∀ gg, (Value.slice (some ⟨w4.heap.size, 0, none⟩) v.length (v.length + 1)).ownBlock = some gg → w4.heap.size ≤ gg ∧ gg < w5.heap.size) := Lib.hid (own_rngZ HKP.out.own (Nat.le_refl _))
    have P6 := Lib.hid (own_base (own_below O6.out cN8) (show w2.heap.size ≤ w5.heap.size by omega))
    have P7 := Lib.hid (own_base (own_below O7.out cN8) (show w2.heap.size ≤ w6.heap.size by omega))
    have V6 := Lib.hid (own_base (own_below U6.out cN8) (show w2.heap.size ≤ w5.heap.size by omega))
    have V7 := Lib.hid (own_base (own_below U7.out cN8) (show w2.heap.size ≤ w6.heap.size by omega))
    have HUD := Lib.hid (HUP.out _ cN)
    have hw2 := HB2.out.size
    clear ewN ebk bN dF cF cF8 cE cE8 c9 d9 bE HEN HCL HZ0 HZT cN cN8 c8
    go_wp2_with fail
    have C25 := btg_graph (S := s) HBN.out I1.out (hi := w4.heap.size) z24 (by omega) hbk (by rw [HTL.out]; exact hT0) (by omega)
    rw [HTL.out] at C25
    refine C25.mono ?_
    rintro e wG ⟨rfl, HB1, K1⟩
    clear C25
    have P5 := Lib.hid (K1.r8 O5.out)
    have P6 := Lib.hid (K1.rh P6.out)
    have P7 := Lib.hid (K1.rh P7.out)
    have V6 := Lib.hid (K1.ri V6.out)
    have V7 := Lib.hid (K1.ri V7.out)
    have zG := K1.below.size
    dsimp only
    clear y0 y1 y2 y3 y4 y5
    go_wp2_with fail
    refine (btg_int8s (hi := w5.heap.size) HB1 P5.out R5.out z45 (by omega) hbk (by omega) (by omega)).mono ?_
    rintro e wH ⟨rfl, HB2', K2⟩
    have P6 := Lib.hid (K2.rh P6.out)
    have P7 := Lib.hid (K2.rh P7.out)
    have V6 := Lib.hid (K2.ri V6.out)
    have V7 := Lib.hid (K2.ri V7.out)
    have zH := K2.below.size
    dsimp only
    go_wp2_with fail
    refine (bth_hits (hi := w6.heap.size) HB2' P6.out RG6.out z56 (by omega) hbk (by omega) (by omega)).mono ?_
    rintro e wI ⟨rfl, HB3', K3⟩
    have P7 := Lib.hid (K3.rh P7.out)
    have V6 := Lib.hid (K3.ri V6.out)
    have V7 := Lib.hid (K3.ri V7.out)
    have zI := K3.below.size
    dsimp only
    go_wp2_with fail
    refine (bth_ints HB3' V6.out UG6.out z56 (by omega) hbk (by omega) (by omega)).mono ?_
    rintro e wJ ⟨rfl, HB4', K4⟩
    have P7 := Lib.hid (K4.rh P7.out)
    have V7 := Lib.hid (K4.ri V7.out)
    have zJ := K4.below.size
    dsimp only
    go_wp2_with fail
    refine (bth_hits (hi := w7.heap.size) HB4' P7.out RG7.out z67 (by omega) hbk (by omega) (by omega)).mono ?_
    rintro e wL ⟨rfl, HB5', K5⟩
    have V7 := Lib.hid (K5.ri V7.out)
    have zL := K5.below.size
    dsimp only
    go_wp2_with fail
    refine (bth_ints HB5' V7.out UG7.out z67 (by omega) hbk (by omega) (by omega)).mono ?_
    rintro e wM ⟨rfl, HB6', K6⟩
    have zM := K6.below.size
    dsimp only
    go_wp2_with fail
    refine (btg_apart HB6' (by omega)).mono ?_
    rintro e wK ⟨rfl, bK⟩
    dsimp only
    go_wp2
    go_ret
    exact ⟨rfl, HUD.out.trans ((K1.below.trans (K2.below.trans (K3.below.trans (K4.below.trans (K5.below.trans (K6.below.trans bK)))))).mono hw2)⟩
end Go.Proofs.YtkmngbkghgelfaaGreat
