/- What may be searched, as the document has it. -/
import Derived.Test.YtkmngbkghgelfaaGreatZf
import Derived.Deep.QuietTactic
import Derived.Deep.AppendLies
import Derived.BigQuiet
import Derived.Deep.Cut
import Derived.Deep.RegionHeld3
namespace Go.Proofs.YtkmngbkghgelfaaGreat
open Go.Shelf Go.RowKit Go.Lib
open Go.Sort hiding Below
set_option linter.unusedVariables false
set_option linter.unusedSimpArgs false
set_option maxRecDepth 100000 in
set_option maxHeartbeats 8000000 in
theorem refMay_any (A : Option Addr) (c : Nat) (L : List Gn) (s : Int) (B : Option Addr) (q : Nat) (v : List Int) (w : World) (hx : GArg w A L) :
    Calls Tryz.prog 27 #[.agg #[.slice A L.length c, .int .i64 s], .slice B v.length q] w fun e w' => e = .returned (.bool (mayS (pns L) s v)) ∧ Below w.heap.size w w' := by
  have hs : ∀ x ∈ pns L, x.2.2.length ≤ 20000 := fun x h => (hx.sm.at_ h).2
  have hl : L.length ≤ 20000 := by have := hx.sm.len; rwa [pns_len] at this
  have HX := Lib.hid hx
  have HSM := Lib.hid hs
  have HPL := Lib.hid (pns_len L)
  have HW0 := Lib.hid (Whole.new w 24 #[.slice A L.length c, .int .i64 s])
  have HB0 := Lib.hid (below_one (Below.refl w.heap.size w) (.cells #[.slice A L.length c, .int .i64 s] 24))
  obtain ⟨w1, ew1⟩ : ∃ w1, w.alloc (.cells #[.slice A L.length c, .int .i64 s] 24) = w1 := ⟨_, rfl⟩
  obtain ⟨g, eg⟩ : ∃ g, w.heap.size = g := ⟨_, rfl⟩
  rw [ew1] at HW0 HB0
  rw [eg] at HW0
  have HCL : Hid (∀ W, Below w1.heap.size w1 W → W.cell? ⟨g, 0, none⟩ = some (.slice A L.length c) ∧ W.cell? ⟨g, 1, none⟩ = some (.int .i64 s)) := Lib.hid (fun W h => by
    have z0 := HW0.out.below h HW0.out.lt
    exact ⟨z0.cell 0, z0.cell 1⟩)
  have HUP : Hid (∀ W, Below w1.heap.size w1 W → Below w.heap.size w W) := Lib.hid (fun W h => HB0.out.trans (h.mono HB0.out.size))
  have HH := Lib.hid (rHolds_any A c L s w1 w1.heap.size (Nat.le_refl _) (hx.below HB0.out).rd hl hs)
  obtain ⟨y0, y1⟩ := HCL.out _ (Below.refl _ _)
  clear hx hs
  go_enter Tryz.func27, Tryz.ntmps27
  go_upto_region 1 with fail
  try rw [ew1]
  try rw [eg]
  have HEG := Lib.hid eg
  clear ew1 eg
  go_wp2_with fail
  refine HH.out.mono ?_
  rintro e w2 ⟨rfl, b2⟩
  dsimp only
  have HB2 := Lib.hid b2
  clear y0 y1 b2 HH
  have f1 : decide ((v.length : Int) < 1) = decide (v.length < 1) := decide_eq_decide.2 (by omega)
  have f2 : decide ((64 : Int) < (v.length : Int)) = decide (64 < v.length) := decide_eq_decide.2 (by omega)
  cases hhb : holdsB (pns L) s with
  | false =>
    have HF : Hid (mayS (pns L) s v = false) := Lib.hid (by unfold mayS; rw [hhb]; rfl)
    clear hhb
    go_wp2
    go_ret
    exact ⟨retb HF.out.symm, HUP.out _ HB2.out⟩
  | true =>
  by_cases h1 : v.length < 1
  · have HF : Hid (mayS (pns L) s v = false) := Lib.hid (by unfold mayS; rw [hhb, decide_eq_false (by omega)]; rfl)
    rw [decide_eq_true h1] at f1
    clear hhb h1 f2
    go_wp2
    go_ret
    exact ⟨retb HF.out.symm, HUP.out _ HB2.out⟩
  by_cases h2 : 64 < v.length
  · have HF : Hid (mayS (pns L) s v = false) := Lib.hid (by unfold mayS; rw [hhb, decide_eq_false (by omega)]; rfl)
    rw [decide_eq_false h1] at f1
    rw [decide_eq_true h2] at f2
    clear hhb h1 h2
    go_wp2
    go_ret
    exact ⟨retb HF.out.symm, HUP.out _ HB2.out⟩
  have HMD := Lib.hid (mayS_doc hhb (v := v) (by omega))
  rw [decide_eq_false h1] at f1
  rw [decide_eq_false h2] at f2
  have hv64 : v.length ≤ 64 := by omega
  have C0 : Hid (∀ i, i < 0 → (nAt (pns L) i).2.1.length = v.length ∧ findI (pns L) (nAt (pns L) i).1 = (i : Int)) := Lib.hid (fun i hi => absurd hi (Nat.not_lt_zero _))
  clear hhb h1 h2
  go_wp2
  go_loopw [5] (fun i wr => ∃ k : Nat, k ≤ L.length ∧ i = .int .i64 k ∧ Hid (Below w1.heap.size w1 wr) ∧ Hid (∀ i, i < k → (nAt (pns L) i).2.1.length = v.length ∧ findI (pns L) (nAt (pns L) i).1 = (i : Int))) (fun i _ => L.length - (intOf i).toNat)
  case atStart => exact ⟨0, by omega, rfl, HB2, C0⟩
  case round =>
    clear HB2 C0
    obtain ⟨k, hk, rfl, HB, HK⟩ := hrel
    obtain ⟨y0, y1⟩ := HCL.out _ HB.out
    by_cases hlt : k < L.length
    · have e1 : decide ((k : Int) < (L.length : Int)) = true := decide_eq_true (by omega)
      obtain ⟨bn, off, id, a1, c1, u, a2, c2, o, rfl, hBb, m1, m2, m3, hr1, hr2, hv⟩ := (HX.out.below (HUP.out _ HB.out)).rd.at_ hlt
      have hul : u.length ≤ 20000 := by
        have := (HX.out.sm.at_ (List.mem_of_getElem? (pns_at hv.out))).1
        exact this
      have EN := Lib.hid (show nAt (pns L) k = (id, u, o) from nAt_get (pns_at hv.out))
      have x1 : (0 : Int) ≤ (k : Int) := by omega
      have x2 : (k : Int) < (L.length : Int) := by omega
      have KX : Hid (∀ W, Below wr.heap.size wr W → (W.cell? ⟨g, 0, none⟩ = some (.slice (some ⟨bn, off, none⟩) L.length c) ∧ W.cell? ⟨g, 1, none⟩ = some (.int .i64 s)) ∧ W.cell? ⟨bn, off + k * 3, none⟩ = some (.int .u64 id) ∧ W.cell? ⟨bn, off + k * 3 + 1, none⟩ = some (.slice a1 u.length c1)) := Lib.hid (fun W h => ⟨HCL.out _ (HB.out.trans (h.mono HB.out.size)), (h.cell (p := ⟨bn, off + k * 3, none⟩) hBb).trans m1, (h.cell (p := ⟨bn, off + k * 3 + 1, none⟩) hBb).trans m2⟩)
      have CFX : Hid (∀ W, Below wr.heap.size wr W → Calls Tryz.prog 85 #[.agg #[.slice (some ⟨bn, off, none⟩) L.length c, .int .i64 s], .int .u64 id] W fun e w' => e = .returned (.int .i64 (findI (pns L) id)) ∧ Below wr.heap.size wr w' ∧ (w'.cell? ⟨g, 0, none⟩ = some (.slice (some ⟨bn, off, none⟩) L.length c) ∧ w'.cell? ⟨g, 1, none⟩ = some (.int .i64 s)) ∧ w'.cell? ⟨bn, off + k * 3, none⟩ = some (.int .u64 id) ∧ w'.cell? ⟨bn, off + k * 3 + 1, none⟩ = some (.slice a1 u.length c1)) := Lib.hid (fun W h => (rFind_any (some ⟨bn, off, none⟩) c L s id W W.heap.size (Nat.le_refl _) ((HX.out.below (HUP.out _ (HB.out.trans (h.mono HB.out.size)))).rd) hl).mono fun e w' hh => ⟨hh.1, h.trans (hh.2.mono h.size), KX.out _ (h.trans (hh.2.mono h.size))⟩)
      obtain ⟨fi, efi⟩ : ∃ fi, findI (pns L) id = fi := ⟨_, rfl⟩
      have HFI := Lib.hid efi
      rw [efi] at CFX
      have HDR := (Below.refl wr.heap.size wr).drew
      clear hv hr1 hr2 m1 m2 m3 efi hBb
      by_cases n1 : u.length = v.length
      · have g1 : ((u.length : Int) != (v.length : Int)) = false := by rw [bne_eq_false_iff_eq]; omega
        have g1n : (u.length != v.length) = false := by rw [bne_eq_false_iff_eq]; omega
        by_cases n2 : fi = (k : Int)
        · have g2 : (fi != (k : Int)) = false := by rw [bne_eq_false_iff_eq]; exact n2
          have HN : Hid (∀ i, i < k + 1 → (nAt (pns L) i).2.1.length = v.length ∧ findI (pns L) (nAt (pns L) i).1 = (i : Int)) := Lib.hid (fun i hi => by
            rcases Nat.lt_or_ge i k with h | h
            · exact HK.out i h
            · obtain rfl : i = k := by omega
              rw [EN.out]
              exact ⟨n1, HFI.out.trans n2⟩)
          clear n1 n2
          go_upto_region 6 with fail
          obtain ⟨⟨s0, s1⟩, s2, s3⟩ := KX.out _ HDR
          go_region_held3 (fun w' => (w'.cell? ⟨g, 0, none⟩ = some (.slice (some ⟨bn, off, none⟩) L.length c) ∧ w'.cell? ⟨g, 1, none⟩ = some (.int .i64 s)) ∧ w'.cell? ⟨bn, off + k * 3, none⟩ = some (.int .u64 id) ∧ w'.cell? ⟨bn, off + k * 3 + 1, none⟩ = some (.slice a1 u.length c1))
            (exact ⟨⟨by with_reducible assumption, by with_reducible assumption⟩, by with_reducible assumption, by with_reducible assumption⟩)
            (first
              | (go_at_call 85; (with_reducible refine (CFX.out _ (by with_reducible assumption)).mono ?_); rintro e w8 ⟨rfl, b8, ⟨z0, z1⟩, z2, z3⟩)
              | fail)
          have HB8 : Hid (Below w1.heap.size w1 w8) := Lib.hid (HB.out.trans (b8.mono HB.out.size))
          clear b8 HDR HB KX CFX s0 s1 s2 s3 z0 z1 z2 z3 y0 y1
          go_wp2
          go_roundw
          case rel => exact ⟨k + 1, by omega, by go_num, HB8, HN⟩
          case measure => simp [intOf]; omega
        · have g2 : (fi != (k : Int)) = true := by rw [bne_iff_ne]; exact n2
          have HN : Hid (mayS (pns L) s v = false) := Lib.hid (by
            rw [HMD.out]
            refine decide_eq_false fun h => n2 ?_
            have := (h k (by rw [HPL.out]; exact hlt)).2
            rw [EN.out] at this
            exact HFI.out.symm.trans this)
          clear n1 n2
          go_upto_region 6 with fail
          obtain ⟨⟨s0, s1⟩, s2, s3⟩ := KX.out _ HDR
          go_region_held3 (fun w' => (w'.cell? ⟨g, 0, none⟩ = some (.slice (some ⟨bn, off, none⟩) L.length c) ∧ w'.cell? ⟨g, 1, none⟩ = some (.int .i64 s)) ∧ w'.cell? ⟨bn, off + k * 3, none⟩ = some (.int .u64 id) ∧ w'.cell? ⟨bn, off + k * 3 + 1, none⟩ = some (.slice a1 u.length c1))
            (exact ⟨⟨by with_reducible assumption, by with_reducible assumption⟩, by with_reducible assumption, by with_reducible assumption⟩)
            (first
              | (go_at_call 85; (with_reducible refine (CFX.out _ (by with_reducible assumption)).mono ?_); rintro e w8 ⟨rfl, b8, ⟨z0, z1⟩, z2, z3⟩)
              | fail)
          have HB8 : Hid (Below w1.heap.size w1 w8) := Lib.hid (HB.out.trans (b8.mono HB.out.size))
          clear b8 HDR HB KX CFX s0 s1 s2 s3 z0 z1 z2 z3 y0 y1
          go_wp2
          go_ret
          exact ⟨retb HN.out.symm, HUP.out _ HB8.out⟩
      · have g1 : ((u.length : Int) != (v.length : Int)) = true := by rw [bne_iff_ne]; omega
        have g1n : (u.length != v.length) = true := by rw [bne_iff_ne]; omega
        have HN : Hid (mayS (pns L) s v = false) := Lib.hid (by
          rw [HMD.out]
          refine decide_eq_false fun h => n1 ?_
          have := (h k (by rw [HPL.out]; exact hlt)).1
          rw [EN.out] at this
          exact this)
        clear n1
        go_upto_region 6 with fail
        obtain ⟨⟨s0, s1⟩, s2, s3⟩ := KX.out _ (Below.refl _ _)
        go_quiet (fail)
        have b8 : Below wr.heap.size wr (wr.drewN nq) := below_drewN (Below.refl _ _) nq
        have HB8 : Hid (∀ W, Below wr.heap.size wr W → Below w.heap.size w W) := Lib.hid (fun W h => HUP.out _ (HB.out.trans (h.mono HB.out.size)))
        have HB9 := Lib.hid b8
        clear HB KX CFX y0 y1 b8 s0 s1 s2 s3
        go_wp2
        go_ret
        exact ⟨retb HN.out.symm, HB8.out _ HB9.out⟩
    · obtain rfl : k = L.length := by omega
      have e1 : decide ((L.length : Int) < (L.length : Int)) = false := decide_eq_false (by omega)
      have HN : Hid (mayS (pns L) s v = true) := Lib.hid (by
        rw [HMD.out]
        exact decide_eq_true (fun i hi => HK.out i (by rw [HPL.out] at hi; exact hi)))
      go_wp2
      go_ret
      exact ⟨retb HN.out.symm, HUP.out _ HB.out⟩
end Go.Proofs.YtkmngbkghgelfaaGreat
