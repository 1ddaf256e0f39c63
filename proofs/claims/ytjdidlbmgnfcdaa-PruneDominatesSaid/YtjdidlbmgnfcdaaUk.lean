/- The walk of PruneDominates. -/
import Derived.Test.YtjdidlbmgnfcdaaUj
import Derived.Test.YtjdidlbmgnfcdaaKf
import Derived.Test.YtjdidlbmgnfcdaaKc
import Derived.Deep.Cut
namespace Go.Proofs.Ytjdidlbmgnfcdaa
open Go.RowKit
set_option linter.unusedVariables false
set_option linter.unusedSimpArgs false
/-- A twin as an argument. -/
theorem twin_argQ {w : World} {base g : Nat} {T L : List Gn} (h : TwinG w base g T) (hv : pns T = pns L) (hs : GSmall (pns L)) (hok : ∀ x ∈ pns L, PnOk x) : GArg w (some ⟨g, 0, none⟩) T := ⟨h.rd, by rw [hv]; exact hs, by rw [hv]; exact hok⟩
theorem twin_roomQ {w : World} {base g : Nat} {T : List Gn} (h : TwinG w base g T) : ∀ x ∈ T, x.2.2.2.2.length ≤ x.2.2.2.1 := fun x hx => by have := (h.to x hx).1; omega
set_option maxRecDepth 100000 in
set_option maxHeartbeats 8000000 in
theorem pruneDominates_main (A : Option Addr) (c : Nat) (L : List Gn) (s d deg bm nm dn at_ kept other : Int) (w : World) (hx : GGiven w A L) :
    Calls Try.prog 4 #[.agg #[.slice A L.length c, .int .i64 s, .int .i64 d, .int .i64 deg, .int .i64 bm, .int .i64 nm, .int .i64 dn, .int .i64 at_], .int .i64 kept, .int .i64 other] w fun e w' => e = .returned (.bool true) ∧ Below w.heap.size w w' := by
  have HW0 := Lib.hid (Whole.new w 42 #[.slice A L.length c, .int .i64 s, .int .i64 d, .int .i64 deg, .int .i64 bm, .int .i64 nm, .int .i64 dn, .int .i64 at_])
  have HB0 := Lib.hid (below_one (Below.refl w.heap.size w) (.cells #[.slice A L.length c, .int .i64 s, .int .i64 d, .int .i64 deg, .int .i64 bm, .int .i64 nm, .int .i64 dn, .int .i64 at_] 42))
  have HX := Lib.hid hx
  clear hx
  go_enter Try.func4, Try.ntmps4
  go_upto_region 1 with fail
  obtain ⟨w1, ew1⟩ : ∃ w1, w.alloc (.cells #[.slice A L.length c, .int .i64 s, .int .i64 d, .int .i64 deg, .int .i64 bm, .int .i64 nm, .int .i64 dn, .int .i64 at_] 42) = w1 := ⟨_, rfl⟩
  rw [ew1] at HW0 HB0 ⊢
  obtain ⟨g, eg⟩ : ∃ g, w.heap.size = g := ⟨_, rfl⟩
  rw [eg] at HW0 ⊢
  have HG := Lib.hid eg
  have y0 := HW0.out.cell 0
  have y1 := HW0.out.cell 1
  clear ew1 eg
  go_wp2_with fail
  refine (great9_any A c L s w1 (HX.out.below HB0.out)).mono ?_
  rintro e w2 ⟨⟨gb, rfl, hgb⟩, b2⟩
  dsimp only
  have HB2 := Lib.hid (HB0.out.trans (b2.mono HB0.out.size))
  clear y0 y1
  cases gb with
  | true =>
    clear hgb
    go_wp2
    go_ret
    exact ⟨rfl, HB2.out⟩
  | false =>
    have HSM := Lib.hid (hgb rfl)
    have Z0 := HW0.out.below b2 HW0.out.lt
    have y0 := Z0.cell 0
    have y1 := Z0.cell 1
    have HZ0 := Lib.hid Z0
    clear hgb b2 Z0 HW0 HB0
    go_upto_region 4 with (go_at_call 14; refine (twinGraph_any A c L s w2 (HX.out.below HB2.out) HSM.out).mono ?_; rintro e w3 ⟨gt, T, rfl, hgt, hT, hTv, hTl, b3⟩)
    obtain ⟨w4, ew4⟩ : ∃ w4, w3.alloc (.cells #[.slice (some ⟨gt, 0, none⟩) L.length (L.length + 1), .int .i64 s] 24) = w4 := ⟨_, rfl⟩
    obtain ⟨tb, etb⟩ : ∃ tb, w3.heap.size = tb := ⟨_, rfl⟩
    have b4 : Below w2.heap.size w2 w4 := by rw [← ew4]; exact below_one b3 _
    have ZT : Whole w4 tb 24 #[.slice (some ⟨gt, 0, none⟩) L.length (L.length + 1), .int .i64 s] := by rw [← ew4, ← etb]; exact Whole.new w3 _ _
    have hT4 : TwinG w4 w2.heap.size gt T := by rw [← ew4]; exact hT.below (below_one (Below.refl _ _) _)
    have HB4 : Hid (Below w.heap.size w w4) := Lib.hid (HB2.out.trans (b4.mono HB2.out.size))
    have HZT := Lib.hid ZT
    have HT4 := Lib.hid hT4
    have HTV := Lib.hid hTv
    have HTL := Lib.hid hTl
    have HCL : Hid (∀ W, Below w4.heap.size w4 W → (W.cell? ⟨g, 0, none⟩ = some (.slice A L.length c) ∧ W.cell? ⟨g, 1, none⟩ = some (.int .i64 s)) ∧ (W.cell? ⟨g, 2, none⟩ = some (.int .i64 d) ∧ W.cell? ⟨g, 3, none⟩ = some (.int .i64 deg) ∧ W.cell? ⟨g, 4, none⟩ = some (.int .i64 bm) ∧ W.cell? ⟨g, 5, none⟩ = some (.int .i64 nm) ∧ W.cell? ⟨g, 6, none⟩ = some (.int .i64 dn)) ∧ W.cell? ⟨g, 7, none⟩ = some (.int .i64 at_) ∧ W.cell? ⟨tb, 0, none⟩ = some (.slice (some ⟨gt, 0, none⟩) L.length (L.length + 1)) ∧ W.cell? ⟨tb, 1, none⟩ = some (.int .i64 s)) := Lib.hid (fun W h => by
      have hW : Below w2.heap.size w2 W := b4.trans (h.mono b4.size)
      have z0 := HZ0.out.below hW HZ0.out.lt
      have z2 := HZT.out.below h HZT.out.lt
      exact ⟨⟨z0.cell 0, z0.cell 1⟩, ⟨z0.cell 2, z0.cell 3, z0.cell 4, z0.cell 5, z0.cell 6⟩, z0.cell 7, z2.cell 0, z2.cell 1⟩)
    have HUP : Hid (∀ W, Below w4.heap.size w4 W → Below w.heap.size w W) := Lib.hid (fun W h => HB4.out.trans (h.mono HB4.out.size))
    have HAR : Hid (GArg w A L) := Lib.hid (HX.out.arg HSM.out)
    have C15 : Hid (∀ W, Below w4.heap.size w4 W → Calls Try.prog 15 #[.agg #[.slice (some ⟨gt, 0, none⟩) L.length (L.length + 1), .int .i64 s], .agg #[.int .i64 d, .int .i64 deg, .int .i64 bm, .int .i64 nm, .int .i64 dn], .int .i64 at_, .int .i64 kept, .int .i64 other] W fun e w' => e = .returned (.tuple #[.bool (domB (pns L) s d deg bm nm dn at_ kept other), .int .i64 (errG (askB (pns L) s d deg bm nm dn at_ [kept, other]))]) ∧ Below W.heap.size W w') := Lib.hid (fun W h => by
      have hW := HT4.out.below h
      have := dominQ_any (some ⟨gt, 0, none⟩) (L.length + 1) T s d deg bm nm dn at_ kept other W (twin_argQ hW HTV.out HSM.out HX.out.ok) (twin_roomQ hW)
      rwa [HTL.out, HTV.out] at this)
    have C16 := Lib.hid (fun W (h : Below w4.heap.size w4 W) => rDomin_any A c L s d deg bm nm dn at_ kept other W (HAR.out.below (HUP.out W h)))
    have C17 : Hid (∀ W, Below w4.heap.size w4 W → Calls Try.prog 17 #[.agg #[.slice (some ⟨gt, 0, none⟩) L.length (L.length + 1), .int .i64 s], .agg #[.slice A L.length c, .int .i64 s]] W fun e w' => e = .returned (.bool true) ∧ Below W.heap.size W w') := Lib.hid (fun W h => leftGraph_any gt w2.heap.size T A c L s L.length rfl W (HT4.out.below h) HTV.out HTL.out (HX.out.below (HUP.out W h)) HSM.out)
    obtain ⟨V, eV⟩ : ∃ V, domB (pns L) s d deg bm nm dn at_ kept other = V := ⟨_, rfl⟩
    obtain ⟨E, eE⟩ : ∃ E, errG (askB (pns L) s d deg bm nm dn at_ [kept, other]) = E := ⟨_, rfl⟩
    rw [eV, eE] at C15 C16
    rw [ew4, etb]
    clear ew4 etb b4 ZT hT4 hT hTv hTl b3 hgt y0 y1 eV eE
    obtain ⟨⟨y0, y1⟩, ⟨q0, q1, q2, q3, q4⟩, q5, t0, t1⟩ := HCL.out _ (Below.refl _ _)
    go_wp2_with fail
    refine (C15.out _ (Below.refl _ _)).mono ?_
    rintro e w5 ⟨rfl, b5⟩
    dsimp only
    have HB5 := Lib.hid b5
    clear y0 y1 q0 q1 q2 q3 q4 q5 t0 t1 b5
    obtain ⟨⟨y0, y1⟩, ⟨q0, q1, q2, q3, q4⟩, q5, t0, t1⟩ := HCL.out _ HB5.out
    go_wp2_with fail
    refine (C16.out _ HB5.out).mono ?_
    rintro e w6 ⟨rfl, b6⟩
    dsimp only
    have HB6 := Lib.hid (HB5.out.trans (b6.mono HB5.out.size))
    clear y0 y1 q0 q1 q2 q3 q4 q5 t0 t1 b6
    obtain ⟨⟨y0, y1⟩, ⟨q0, q1, q2, q3, q4⟩, q5, t0, t1⟩ := HCL.out _ HB6.out
    have e1 : (V == V) = true := by simp
    have e2 : (E == E) = true := by simp
    go_wp2_with fail
    refine (C17.out _ HB6.out).mono ?_
    rintro e w7 ⟨rfl, b7⟩
    dsimp only
    clear y0 y1 q0 q1 q2 q3 q4 q5 t0 t1
    go_wp2
    go_ret
    exact ⟨rfl, HUP.out _ (HB6.out.trans (b7.mono HB6.out.size))⟩
end Go.Proofs.Ytjdidlbmgnfcdaa
