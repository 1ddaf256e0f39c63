/- Pruning: the document's Domination. -/
import Derived.Test.YtfokejlancmahaaGreatUc
import Derived.Test.YtfokejlancmahaaGreatUh
import Derived.Test.YtfokejlancmahaaGreatKk
import Derived.Deep.Cut
import Derived.Deep.RegionHeld3
namespace Go.Proofs.YtfokejlancmahaaGreat
open Go.RowKit Go.Lib
set_option linter.unusedVariables false
set_option linter.unusedSimpArgs false
theorem refFarQ_any (A B : Option Addr) (c d : Nat) (xs ys : List Int) (h2 : xs.length ≤ 64) (hl : ys.length = xs.length) (w : World) (D : Nat) (hx : Rd .i8 w D A xs) (hy : Rd .i8 w D B ys) (bx : ∀ x ∈ xs, -128 ≤ x ∧ x ≤ 127) (bY : ∀ x ∈ ys, -128 ≤ x ∧ x ≤ 127) :
    Calls Tryz.prog 34 #[.slice A xs.length c, .slice B ys.length d] w fun e w' => e = .returned (.int .i64 (far xs ys)) ∧ ∃ nq, w' = w.drewN nq := by
  have := refFar_any A B c d xs ys h2 hl w D hx hy bx bY
  rw [← hl] at this
  rw [← hl]; exact this
set_option maxRecDepth 100000 in
set_option maxHeartbeats 4000000 in
theorem rNeedless_any (A : Option Addr) (c : Nat) (L : List Gn) (dm a k o : Nat) (hP : PG (pns L) dm) (ha : a < L.length) (hk : k < L.length) (ho : o < L.length) (s d g b n m : Int) (hn : 1 ≤ n ∧ n ≤ 1000) (hm : 1 ≤ m ∧ m ≤ 1000) (w : World) (hx : RdG w w.heap.size A L) :
    Calls Tryz.prog 37 #[.agg #[.slice A L.length c, .int .i64 s], .agg #[.int .i64 d, .int .i64 g, .int .i64 b, .int .i64 n, .int .i64 m], .int .i64 (a : Int), .int .i64 (k : Int), .int .i64 (o : Int)] w fun e w' => e = .returned (.bool (ndP (pns L) n m a k o)) ∧ Below w.heap.size w w' := by
  have hln := pns_len L
  obtain ⟨bb, off, id1, a1, c1, v, a2, c2, o1, rfl, hB, h1, h2, h3, hr1, hr2, hv⟩ := hx.at_ ha
  obtain ⟨bk, ok, id2, a3, c3, vk, a4, c4, o2, ek, hBk, h1k, h2k, h3k, hr1k, hr2k, hvk⟩ := hx.at_ hk
  cases ek
  obtain ⟨bo, oo, id3, a5, c5, vo, a6, c6, o3, eo, hBo, h1o, h2o, h3o, hr1o, hr2o, hvo⟩ := hx.at_ ho
  cases eo
  have E1 := nAt_get (pns_at hv.out)
  have E2 := nAt_get (pns_at hvk.out)
  have E3 := nAt_get (pns_at hvo.out)
  have l1 := hP.each a (by omega)
  have l2 := hP.each k (by omega)
  have l3 := hP.each o (by omega)
  have n1 := hP.num a (by omega)
  have n2 := hP.num k (by omega)
  have n3 := hP.num o (by omega)
  have hd := hP.dim
  have hbd1 := fI_bd hP (a := k) (b := o) (by omega) (by omega)
  have hbd2 := fI_bd hP (a := a) (b := o) (by omega) (by omega)
  have hl2 := hP.len
  have F1e : fI (pns L) k o = far vk vo := by unfold fI; rw [E2, E3]
  have F2e : fI (pns L) a o = far v vo := by unfold fI; rw [E1, E3]
  have EN : ndP (pns L) n m a k o = decide (n * far vk vo ≤ m * far v vo) := by unfold ndP ndB; rw [fI_comm _ o a, F1e, F2e]
  rw [F1e] at hbd1
  rw [F2e] at hbd2
  rw [E1] at l1 n1
  rw [E2] at l2 n2
  rw [E3] at l3 n3
  simp only at l1 l2 l3 n1 n2 n3
  have m1 := mul_bd hn.1 hn.2 hbd1.1 hbd1.2
  have m2 := mul_bd hm.1 hm.2 hbd2.1 hbd2.2
  obtain ⟨F1, eF1⟩ : ∃ F, far vk vo = F := ⟨_, rfl⟩
  obtain ⟨F2, eF2⟩ : ∃ F, far v vo = F := ⟨_, rfl⟩
  have B0 : Below w.heap.size w ((w.alloc (.cells #[.slice (some ⟨bb, off, none⟩) L.length c, .int .i64 s] 24)).alloc (.cells #[.int .i64 d, .int .i64 g, .int .i64 b, .int .i64 n, .int .i64 m] 26)) := below_one (below_one (Below.refl _ _) _) _
  have Z0 := (Whole.new w 24 #[.slice (some ⟨bb, off, none⟩) L.length c, .int .i64 s]).alloc (.cells #[.int .i64 d, .int .i64 g, .int .i64 b, .int .i64 n, .int .i64 m] 26)
  have Z1 : Whole ((w.alloc (.cells #[.slice (some ⟨bb, off, none⟩) L.length c, .int .i64 s] 24)).alloc (.cells #[.int .i64 d, .int .i64 g, .int .i64 b, .int .i64 n, .int .i64 m] 26)) (w.heap.size + 1) 26 #[.int .i64 d, .int .i64 g, .int .i64 b, .int .i64 n, .int .i64 m] := by
    have := Whole.new (w.alloc (.cells #[.slice (some ⟨bb, off, none⟩) L.length c, .int .i64 s] 24)) 26 #[.int .i64 d, .int .i64 g, .int .i64 b, .int .i64 n, .int .i64 m]
    simpa using this
  obtain ⟨w1, ew1⟩ : ∃ w1, (w.alloc (.cells #[.slice (some ⟨bb, off, none⟩) L.length c, .int .i64 s] 24)).alloc (.cells #[.int .i64 d, .int .i64 g, .int .i64 b, .int .i64 n, .int .i64 m] 26) = w1 := ⟨_, rfl⟩
  rw [ew1] at B0 Z0 Z1
  have hsz := B0.size
  have KS : ∀ W, Below w1.heap.size w1 W → (W.cell? ⟨w.heap.size + 1, 3, none⟩ = some (.int .i64 n) ∧ W.cell? ⟨w.heap.size + 1, 4, none⟩ = some (.int .i64 m)) ∧ W.cell? ⟨bb, off + a * 3 + 1, none⟩ = some (.slice a1 v.length c1) ∧ W.cell? ⟨bb, off + k * 3 + 1, none⟩ = some (.slice a3 vk.length c3) ∧ W.cell? ⟨bb, off + o * 3 + 1, none⟩ = some (.slice a5 vo.length c5) := fun W h => by
    have z := Z1.below h Z1.lt
    have hw := B0.trans (h.mono hsz)
    exact ⟨⟨z.cell 3, z.cell 4⟩, (hw.cell (p := ⟨bb, off + a * 3 + 1, none⟩) hB).trans h2, (hw.cell (p := ⟨bb, off + k * 3 + 1, none⟩) hB).trans h2k, (hw.cell (p := ⟨bb, off + o * 3 + 1, none⟩) hB).trans h2o⟩
  have KC : ∀ {f : Nat} {args : Array Value} {W : World} {e0 : Ending}, Below w1.heap.size w1 W → (Calls Tryz.prog f args W fun e w' => e = e0 ∧ ∃ nq, w' = W.drewN nq) → Calls Tryz.prog f args W fun e w' => e = e0 ∧ Below w1.heap.size w1 w' ∧ (w'.cell? ⟨w.heap.size + 1, 3, none⟩ = some (.int .i64 n) ∧ w'.cell? ⟨w.heap.size + 1, 4, none⟩ = some (.int .i64 m)) ∧ w'.cell? ⟨bb, off + a * 3 + 1, none⟩ = some (.slice a1 v.length c1) ∧ w'.cell? ⟨bb, off + k * 3 + 1, none⟩ = some (.slice a3 vk.length c3) ∧ w'.cell? ⟨bb, off + o * 3 + 1, none⟩ = some (.slice a5 vo.length c5) := fun h C => C.mono fun e w' q => (by
    obtain ⟨q1, nq, rfl⟩ := q
    have hw := below_drewN h nq
    exact ⟨q1, hw, KS _ hw⟩)
  have A1 := Lib.hid (fun W (h : Below w1.heap.size w1 W) => KC h (refFarQ_any a3 a5 c3 c5 vk vo (by omega) (by omega) W w.heap.size (hr1k.below (B0.trans (h.mono hsz))) (hr1o.below (B0.trans (h.mono hsz))) n2 n3))
  have A2 := Lib.hid (fun W (h : Below w1.heap.size w1 W) => KC h (refFarQ_any a1 a5 c1 c5 v vo (by omega) (by omega) W w.heap.size (hr1.below (B0.trans (h.mono hsz))) (hr1o.below (B0.trans (h.mono hsz))) n1 n3))
  rw [eF1] at A1 EN m1
  rw [eF2] at A2 EN m2
  obtain ⟨z1, ez1⟩ : ∃ z, n * F1 = z := ⟨_, rfl⟩
  obtain ⟨z2, ez2⟩ : ∃ z, m * F2 = z := ⟨_, rfl⟩
  have mm1 : IntKind.i64.wrap (n * F1) = z1 := by rw [ez1]; exact IntWalk.i64_in _ (by omega)
  have mm2 : IntKind.i64.wrap (m * F2) = z2 := by rw [ez2]; exact IntWalk.i64_in _ (by omega)
  rw [ez1, ez2] at EN
  have HEN := Lib.hid EN
  have HB0 := Lib.hid B0
  have hd1 : Below w1.heap.size w1 w1.drew := (Below.refl _ _).drew
  obtain ⟨⟨j1, j2⟩, j3, j4, j5⟩ := KS _ hd1
  have y0 := Z0.cell 0
  have x1 : (0 : Int) ≤ (a : Int) := by omega
  have x2 : (a : Int) < (L.length : Int) := by omega
  have x3 : (0 : Int) ≤ (k : Int) := by omega
  have x4 : (k : Int) < (L.length : Int) := by omega
  have x5 : (0 : Int) ≤ (o : Int) := by omega
  have x6 : (o : Int) < (L.length : Int) := by omega
  have hL : L.length ≤ 2048 := by omega
  clear h1 h2 h3 hr1 hr2 hv h1k h2k h3k hr1k hr2k hvk h1o h2o h3o hr1o hr2o hvo E1 E2 E3 l1 l2 l3 n1 n2 n3 hd hbd1 hbd2 F1e F2e EN m1 m2 eF1 eF2 ez1 ez2 KS KC hP hx hln hl2 Z1 Z0 B0 hsz hn hm ha hk ho
  go_enter Tryz.func37, Tryz.ntmps37
  go_upto_region 2 with fail
  clear y0 ew1
  obtain ⟨s1, es1⟩ : ∃ s1, w.heap.size + 1 = s1 := ⟨_, rfl⟩
  rw [es1] at j1 j2 A1 A2 ⊢
  clear es1
  go_wp2
  go_region_held3 (fun w' => w'.cell? ⟨s1, 3, none⟩ = some (.int .i64 n) ∧ w'.cell? ⟨s1, 4, none⟩ = some (.int .i64 m) ∧ w'.cell? ⟨bb, off + a * 3 + 1, none⟩ = some (.slice a1 v.length c1) ∧ w'.cell? ⟨bb, off + k * 3 + 1, none⟩ = some (.slice a3 vk.length c3) ∧ w'.cell? ⟨bb, off + o * 3 + 1, none⟩ = some (.slice a5 vo.length c5))
    (first | exact ⟨by with_reducible assumption, by with_reducible assumption, by with_reducible assumption, by with_reducible assumption, by with_reducible assumption⟩)
    (first
      | (go_at_call 34; (with_reducible refine (A1.out _ (by with_reducible assumption)).mono ?_); rintro e w3 ⟨rfl, b3, ⟨y1, y2⟩, y3, y4, y5⟩)
      | (go_at_call 34; (with_reducible refine (A2.out _ (by with_reducible assumption)).mono ?_); rintro e w5 ⟨rfl, b5, ⟨v1, v2⟩, v3, v4, v5⟩)
      | fail)
  all_goals
    clear y1 y2 y3 y4 y5 v1 v2 v3 v4 v5 j1 j2 j3 j4 j5
    go_wp2
    go_ret
    exact ⟨retq HEN.out.symm, HB0.out.trans (b5.mono HB0.out.size)⟩
theorem all2 (n : Nat) (x y : Int) : [x, y].all (inG n) = (inG n x && inG n y) := by simp
end Go.Proofs.YtfokejlancmahaaGreat
