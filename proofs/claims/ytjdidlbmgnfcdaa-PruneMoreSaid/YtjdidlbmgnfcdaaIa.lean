/- Pruning, for the laws: has, hit; what is told of what is kept. -/
import Derived.Test.YtjdidlbmgnfcdaaUh
import Derived.Test.YtjdidlbmgnfcdaaKd
import Derived.Deep.Cut
import Derived.Deep.RegionHeld3
namespace Go.Proofs.Ytjdidlbmgnfcdaa
open Go.RowKit Go.Lib
set_option linter.unusedVariables false
set_option linter.unusedSimpArgs false
theorem hasQ_any (A : Option Addr) (c : Nat) (xs : List Int) (n : Nat) (hn : n = xs.length) (a : Int) (w : World) (D : Nat) (hx : Rd .i64 w D A xs) (hl : xs.length ≤ 1000000) :
    Calls Try.prog 20 #[.slice A n c, .int .i64 a] w fun e w' => e = .returned (.bool (decide (a ∈ xs))) ∧ w' = w := by
  subst hn
  have HX := Lib.hid hx
  have HF0 : Hid (∀ j, j < 0 → xs[j]?.getD 0 ≠ a) := Lib.hid (fun j hj => absurd hj (Nat.not_lt_zero _))
  clear hx
  go_enter Try.func20, Try.ntmps20
  go_wp2
  go_loopw [5] (fun i wr => ∃ k : Nat, k ≤ xs.length ∧ i = .int .i64 k ∧ Hid (wr = w) ∧ Hid (∀ j, j < k → xs[j]?.getD 0 ≠ a)) (fun i _ => xs.length - (intOf i).toNat)
  case atStart => exact ⟨0, by omega, rfl, Lib.hid rfl, HF0⟩
  case round =>
    clear HF0
    obtain ⟨k, hk, rfl, HW, HF⟩ := hrel
    by_cases hlt : k < xs.length
    · have e1 : decide ((k : Int) < (xs.length : Int)) = true := decide_eq_true (by omega)
      have hx2 := HX.out
      rw [← HW.out] at hx2
      obtain ⟨b5, o5, t, rfl, hB5, hc5, hv5⟩ := hx2.at_ hlt
      have x1 : (0 : Int) ≤ (k : Int) := by omega
      have x2 : (k : Int) < (xs.length : Int) := by omega
      by_cases hta : t = a
      · subst hta
        have e2 : (t == t) = true := by simp
        have HM := Lib.hid (show decide (t ∈ xs) = true from decide_eq_true (by
          have := hv5.out
          rw [List.getElem?_eq_getElem hlt] at this
          have h2 : xs[k] = t := this
          rw [← h2]; exact List.getElem_mem hlt))
        clear hv5
        go_wp2
        go_ret
        exact ⟨retq HM.out.symm, HW.out⟩
      · have e2 : (t == a) = false := by simpa using hta
        have HF2 : Hid (∀ j, j < k + 1 → xs[j]?.getD 0 ≠ a) := Lib.hid (fun j hj => by
          rcases Nat.lt_or_ge j k with h | h
          · exact HF.out j h
          · obtain rfl : j = k := by omega
            rw [hv5.out]; exact hta)
        clear hv5 hta
        go_wp2
        go_roundw
        case rel => exact ⟨k + 1, by omega, by go_num, HW, HF2⟩
        case measure => simp [intOf]; omega
    · obtain rfl : k = xs.length := by omega
      have e1 : decide ((xs.length : Int) < (xs.length : Int)) = false := decide_eq_false (by omega)
      have HM := Lib.hid (show decide (a ∈ xs) = false from decide_eq_false (fun h => by
        obtain ⟨i, hi, he⟩ := List.getElem_of_mem h
        have := HF.out i hi
        rw [List.getElem?_eq_getElem hi] at this
        exact this he))
      go_wp2
      go_ret
      exact ⟨retq HM.out.symm, HW.out⟩
set_option maxRecDepth 100000 in
set_option maxHeartbeats 4000000 in
theorem hitQ_any (A : Option Addr) (c : Nat) (L : List Gn) (s : Int) (dm : Nat) (hP : PG (pns L) dm) (a t : Nat) (ha : a < L.length) (ht : t < L.length) (w : World) (hx : RdG w w.heap.size A L) :
    Calls Try.prog 22 #[.agg #[.slice A L.length c, .int .i64 s], .int .i64 (a : Int), .int .i64 (t : Int)] w fun e w' => e = .returned (.agg #[.int .u64 (kQ (pns L) a t).1, .int .i64 (kQ (pns L) a t).2]) ∧ Below w.heap.size w w' := by
  have hlp := pns_len L
  obtain ⟨bb, off, id1, a1, c1, v, a2, c2, o, rfl, hB, h1, h2, h3, hr1, hr2, hv⟩ := hx.at_ ha
  obtain ⟨bb', off', id2, a3, c3, v', a4, c4, o', e', hB', h1', h2', h3', hr1', hr2', hv'⟩ := hx.at_ ht
  cases e'
  have E1 := nAt_get (pns_at hv.out)
  have E2 := nAt_get (pns_at hv'.out)
  have l1 := hP.each a (by omega)
  have l2 := hP.each t (by omega)
  have n1 := hP.num a (by omega)
  have n2 := hP.num t (by omega)
  have hd := hP.dim
  have hl2 := hP.len
  have K1 : (kQ (pns L) a t).1 = id2 := by unfold kQ; rw [clQ_id (by omega), E2]
  have K2 : (kQ (pns L) a t).2 = far v v' := by unfold kQ; rw [clQ_id (by omega), fI_comm]; unfold fI; rw [E1, E2]
  rw [E1] at l1 n1
  rw [E2] at l2 n2
  simp only at l1 l2 n1 n2
  obtain ⟨F, eF⟩ : ∃ F, far v v' = F := ⟨_, rfl⟩
  rw [K1, K2, eF]
  have B0 : Below w.heap.size w ((w.alloc (.cells #[.slice (some ⟨bb, off, none⟩) L.length c, .int .i64 s] 24)).alloc (.cells #[.int .u64 0, .int .i64 0] 53)) := below_one (below_one (Below.refl _ _) _) _
  have Z0 := (Whole.new w 24 #[.slice (some ⟨bb, off, none⟩) L.length c, .int .i64 s]).alloc (.cells #[.int .u64 0, .int .i64 0] 53)
  have Z1 : Whole ((w.alloc (.cells #[.slice (some ⟨bb, off, none⟩) L.length c, .int .i64 s] 24)).alloc (.cells #[.int .u64 0, .int .i64 0] 53)) (w.heap.size + 1) 53 #[.int .u64 0, .int .i64 0] := by
    have := Whole.new (w.alloc (.cells #[.slice (some ⟨bb, off, none⟩) L.length c, .int .i64 s] 24)) 53 #[.int .u64 0, .int .i64 0]
    simpa using this
  obtain ⟨w1, ew1⟩ : ∃ w1, (w.alloc (.cells #[.slice (some ⟨bb, off, none⟩) L.length c, .int .i64 s] 24)).alloc (.cells #[.int .u64 0, .int .i64 0] 53) = w1 := ⟨_, rfl⟩
  rw [ew1] at B0 Z0 Z1
  have hsz := B0.size
  have KS : ∀ W, Below w1.heap.size w1 W → W.cell? ⟨w.heap.size, 0, none⟩ = some (.slice (some ⟨bb, off, none⟩) L.length c) ∧ W.cell? ⟨bb, off + a * 3 + 1, none⟩ = some (.slice a1 v.length c1) ∧ W.cell? ⟨bb, off + t * 3 + 1, none⟩ = some (.slice a3 v'.length c3) := fun W h => by
    have hw := B0.trans (h.mono hsz)
    exact ⟨(Z0.below h Z0.lt).cell 0, (hw.cell (p := ⟨bb, off + a * 3 + 1, none⟩) hB).trans h2, (hw.cell (p := ⟨bb, off + t * 3 + 1, none⟩) hB').trans h2'⟩
  have HC := Lib.hid (fun W (h : Below w1.heap.size w1 W) => (dist_yes a1 a3 c1 c3 v v' (by omega) (by omega) (by omega) v'.length (by omega) W ((hr1.below (B0.trans (h.mono hsz))).more (Nat.le_trans hsz h.size)) ((hr1'.below (B0.trans (h.mono hsz))).more (Nat.le_trans hsz h.size)) n1 n2).mono fun e w' q => (by
    have hw := h.trans (q.2.mono h.size)
    rw [eF] at q
    exact ⟨q.1, hw, KS _ hw⟩ : e = .returned (.tuple #[.int .i64 F, .int .i64 0]) ∧ Below w1.heap.size w1 w' ∧ w'.cell? ⟨w.heap.size, 0, none⟩ = some (.slice (some ⟨bb, off, none⟩) L.length c) ∧ w'.cell? ⟨bb, off + a * 3 + 1, none⟩ = some (.slice a1 v.length c1) ∧ w'.cell? ⟨bb, off + t * 3 + 1, none⟩ = some (.slice a3 v'.length c3)))
  have HKE : Hid (∀ W, Below w1.heap.size w1 W → (W.cell? ⟨w.heap.size, 0, none⟩ = some (.slice (some ⟨bb, off, none⟩) L.length c) ∧ W.cell? ⟨bb, off + t * 3, none⟩ = some (.int .u64 id2)) ∧ Whole W (w.heap.size + 1) 53 #[.int .u64 0, .int .i64 0]) := Lib.hid (fun W h => by
    have hw := B0.trans (h.mono hsz)
    exact ⟨⟨(Z0.below h Z0.lt).cell 0, (hw.cell (p := ⟨bb, off + t * 3, none⟩) hB').trans h1'⟩, Z1.below h Z1.lt⟩)
  have hd1 : Below w1.heap.size w1 w1.drew := (Below.refl _ _).drew
  obtain ⟨j1, j2, j3⟩ := KS _ hd1
  have HB0 := Lib.hid B0
  have x1 : (0 : Int) ≤ (a : Int) := by omega
  have x2 : (a : Int) < (L.length : Int) := by omega
  have x3 : (0 : Int) ≤ (t : Int) := by omega
  have x4 : (t : Int) < (L.length : Int) := by omega
  have hL : L.length ≤ 2048 := by omega
  obtain ⟨h0, eh0⟩ : ∃ h, w.heap.size = h := ⟨_, rfl⟩
  have HH := Lib.hid eh0
  clear h1 h2 h3 hr1 hr2 hv h1' h2' h3' hr1' hr2' hv' E1 E2 l1 l2 n1 n2 hd hl2 K1 K2 eF KS hP hx hlp Z0 Z1 B0 hsz ha ht
  go_enter Try.func22, Try.ntmps22
  go_upto_region 1 with fail
  rw [eh0] at j1 HC HKE
  clear ew1 eh0
  go_wp2
  go_region_held3 (fun w' => w'.cell? ⟨h0, 0, none⟩ = some (.slice (some ⟨bb, off, none⟩) L.length c) ∧ w'.cell? ⟨bb, off + a * 3 + 1, none⟩ = some (.slice a1 v.length c1) ∧ w'.cell? ⟨bb, off + t * 3 + 1, none⟩ = some (.slice a3 v'.length c3))
    (first | exact ⟨by with_reducible assumption, by with_reducible assumption, by with_reducible assumption⟩)
    (first
      | (go_at_call 44; (with_reducible refine (HC.out _ (by with_reducible assumption)).mono ?_); rintro e w2 ⟨rfl, b2, y1, y2, y3⟩)
      | fail)
  all_goals
    clear y1 y2 y3 j1 j2 j3 hd1
    obtain ⟨⟨z1, z2⟩, z3⟩ := HKE.out _ b2
    have z4 := z3.cell 0
    have z5 := z3.cell 1
    have f4 := z3.frozen 0
    have f5 := z3.frozen 1
    have HB2 := Lib.hid b2
    clear z3 b2
    go_wp2
    refine bodyPost_ret (v := .agg #[.int .u64 id2, .int .i64 F]) (by rw [resCellG rfl]; go_simp) rfl ?_
    exact ⟨rfl, ((HB0.out.trans (HB2.out.mono HB0.out.size)).setCell (by show w.heap.size ≤ h0 + 1; rw [HH.out]; omega) _).setCell (by show w.heap.size ≤ h0 + 1; rw [HH.out]; omega) _⟩
end Go.Proofs.Ytjdidlbmgnfcdaa
