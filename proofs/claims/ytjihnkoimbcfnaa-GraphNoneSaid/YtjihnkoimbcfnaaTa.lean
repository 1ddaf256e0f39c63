/- The walk of GraphChecks. -/
import Derived.Test.YtjihnkoimbcfnaaLg
import Derived.Test.YtjihnkoimbcfnaaKk
import Derived.Test.YtjihnkoimbcfnaaKf
import Derived.Deep.RegionHeld3
import Derived.Deep.Cut
namespace Go.Proofs.Ytjihnkoimbcfnaa
open Go.RowKit
set_option linter.unusedVariables false
/-- A twin as an argument. -/
theorem twin_arg9 {w : World} {base g : Nat} {T L : List Gn} (h : TwinG w base g T) (hv : pns T = pns L) (hs : GSmall (pns L)) (hok : ∀ x ∈ pns L, PnOk x) : GArg w (some ⟨g, 0, none⟩) T := ⟨h.rd, by rw [hv]; exact hs, by rw [hv]; exact hok⟩
theorem twin_room9 {w : World} {base g : Nat} {T : List Gn} (h : TwinG w base g T) : ∀ x ∈ T, x.2.2.2.2.length ≤ x.2.2.2.1 := fun x hx => by have := (h.to x hx).1; omega
set_option maxRecDepth 100000 in
set_option maxHeartbeats 8000000 in
theorem graphChecks_main (A : Option Addr) (c : Nat) (L : List Gn) (s d deg bm nm dn id : Int) (w : World) (hx : GGiven w A L) :
    Calls Try.prog 3 #[.agg #[.slice A L.length c, .int .i64 s], .agg #[.int .i64 d, .int .i64 deg, .int .i64 bm, .int .i64 nm, .int .i64 dn], .int .u64 id] w fun e w' => e = .returned (.bool true) ∧ Below w.heap.size w w' := by
  have B0 : Below w.heap.size w ((w.alloc (.cells #[.slice A L.length c, .int .i64 s] 24)).alloc (.cells #[.int .i64 d, .int .i64 deg, .int .i64 bm, .int .i64 nm, .int .i64 dn] 26)) := below_one (below_one (Below.refl _ _) _) _
  have HW0 := Lib.hid ((Whole.new w 24 #[.slice A L.length c, .int .i64 s]).alloc (.cells #[.int .i64 d, .int .i64 deg, .int .i64 bm, .int .i64 nm, .int .i64 dn] 26))
  have HW1 : Hid (Whole ((w.alloc (.cells #[.slice A L.length c, .int .i64 s] 24)).alloc (.cells #[.int .i64 d, .int .i64 deg, .int .i64 bm, .int .i64 nm, .int .i64 dn] 26)) (w.heap.size + 1) 26 #[.int .i64 d, .int .i64 deg, .int .i64 bm, .int .i64 nm, .int .i64 dn]) := Lib.hid (by
    have := Whole.new (w.alloc (.cells #[.slice A L.length c, .int .i64 s] 24)) 26 #[.int .i64 d, .int .i64 deg, .int .i64 bm, .int .i64 nm, .int .i64 dn]
    simpa using this)
  have HB0 := Lib.hid B0
  have HX := Lib.hid hx
  have zc0 := HW0.out.cell 0
  have zc1 := HW0.out.cell 1
  clear B0 hx
  go_enter Try.func3, Try.ntmps3
  go_wp2_with fail
  obtain ⟨w1, ew1⟩ : ∃ w1, (w.alloc (.cells #[.slice A L.length c, .int .i64 s] 24)).alloc (.cells #[.int .i64 d, .int .i64 deg, .int .i64 bm, .int .i64 nm, .int .i64 dn] 26) = w1 := ⟨_, rfl⟩
  rw [ew1] at HW0 HW1 HB0 ⊢
  obtain ⟨g, eg⟩ : ∃ g, w.heap.size = g := ⟨_, rfl⟩
  rw [eg] at HW0 HW1 ⊢
  have HG := Lib.hid eg
  clear ew1 eg zc0 zc1
  refine (great9_any A c L s w1 (HX.out.below HB0.out)).mono ?_
  rintro e w2 ⟨⟨gb, rfl, hgb⟩, b2⟩
  dsimp only
  have HB2 := Lib.hid (HB0.out.trans (b2.mono HB0.out.size))
  cases gb with
  | true =>
    clear hgb
    go_wp2
    go_ret
    exact ⟨rfl, HB2.out⟩
  | false =>
    have HSM := Lib.hid (hgb rfl)
    have Z0 := HW0.out.below b2 HW0.out.lt
    have Z1 := HW1.out.below b2 HW1.out.lt
    have zc0 := Z0.cell 0
    have zc1 := Z0.cell 1
    have HZ0 := Lib.hid Z0
    have HZ1 := Lib.hid Z1
    clear hgb b2 Z0 Z1 HW0 HW1 HB0
    go_upto_region 4 with (go_at_call 12; refine (twinGraph_any A c L s w2 (HX.out.below HB2.out) HSM.out).mono ?_; rintro e w3 ⟨gt, T, rfl, hgt, hT, hTv, hTl, b3⟩)
    obtain ⟨w4, ew4⟩ : ∃ w4, w3.alloc (.cells #[.slice (some ⟨gt, 0, none⟩) L.length (L.length + 1), .int .i64 s] 24) = w4 := ⟨_, rfl⟩
    obtain ⟨tb, etb⟩ : ∃ tb, w3.heap.size = tb := ⟨_, rfl⟩
    have b4 : Below w2.heap.size w2 w4 := by rw [← ew4]; exact below_one b3 _
    have ZT : Whole w4 tb 24 #[.slice (some ⟨gt, 0, none⟩) L.length (L.length + 1), .int .i64 s] := by rw [← ew4, ← etb]; exact Whole.new w3 _ _
    have hT4 : TwinG w4 w2.heap.size gt T := by rw [← ew4]; exact hT.below (below_one (Below.refl _ _) _)
    have HB4 : Hid (Below w.heap.size w w4) := Lib.hid (HB2.out.trans (b4.mono HB2.out.size))
    have HZT := Lib.hid ZT
    have HT4 := Lib.hid hT4
    have HTV := Lib.hid hTv
    have HTL := Lib.hid hTl
    have HCL : Hid (∀ W, Below w4.heap.size w4 W → (W.cell? ⟨g, 0, none⟩ = some (.slice A L.length c) ∧ W.cell? ⟨g, 1, none⟩ = some (.int .i64 s)) ∧ (W.cell? ⟨g + 1, 0, none⟩ = some (.int .i64 d) ∧ W.cell? ⟨g + 1, 1, none⟩ = some (.int .i64 deg) ∧ W.cell? ⟨g + 1, 2, none⟩ = some (.int .i64 bm) ∧ W.cell? ⟨g + 1, 3, none⟩ = some (.int .i64 nm) ∧ W.cell? ⟨g + 1, 4, none⟩ = some (.int .i64 dn)) ∧ W.cell? ⟨tb, 0, none⟩ = some (.slice (some ⟨gt, 0, none⟩) L.length (L.length + 1)) ∧ W.cell? ⟨tb, 1, none⟩ = some (.int .i64 s)) := Lib.hid (fun W h => by
      have hW : Below w2.heap.size w2 W := b4.trans (h.mono b4.size)
      have z0 := HZ0.out.below hW HZ0.out.lt
      have z1 := HZ1.out.below hW HZ1.out.lt
      have z2 := HZT.out.below h HZT.out.lt
      exact ⟨⟨z0.cell 0, z0.cell 1⟩, ⟨z1.cell 0, z1.cell 1, z1.cell 2, z1.cell 3, z1.cell 4⟩, z2.cell 0, z2.cell 1⟩)
    have HUP : Hid (∀ W, Below w4.heap.size w4 W → Below w.heap.size w W) := Lib.hid (fun W h => HB4.out.trans (h.mono HB4.out.size))
    have HAR : Hid (GArg w A L) := Lib.hid (HX.out.arg HSM.out)
    have C13 := Lib.hid (fun W (h : Below w4.heap.size w4 W) => setup_any d deg bm nm dn W)
    have C14 := Lib.hid (fun W (h : Below w4.heap.size w4 W) => rSetup_any d deg bm nm dn W)
    have C15 : Hid (∀ W, Below w4.heap.size w4 W → Calls Try.prog 15 #[.agg #[.slice (some ⟨gt, 0, none⟩) L.length (L.length + 1), .int .i64 s], .agg #[.int .i64 d, .int .i64 deg, .int .i64 bm, .int .i64 nm, .int .i64 dn]] W fun e w' => e = .returned (.bool (checkB (pns L) s d deg bm nm dn)) ∧ Below W.heap.size W w') := Lib.hid (fun W h => by
      have hW := HT4.out.below h
      have := check_any (some ⟨gt, 0, none⟩) (L.length + 1) T s d deg bm nm dn W (twin_arg9 hW HTV.out HSM.out HX.out.ok) (twin_room9 hW)
      rwa [HTL.out, HTV.out] at this)
    have C16 := Lib.hid (fun W (h : Below w4.heap.size w4 W) => rCheck9_any A c L s d deg bm nm dn W (HAR.out.below (HUP.out W h)))
    have C17 : Hid (∀ W, Below w4.heap.size w4 W → Calls Try.prog 17 #[.agg #[.slice (some ⟨gt, 0, none⟩) L.length (L.length + 1), .int .i64 s], .int .u64 id] W fun e w' => e = .returned (.int .i64 (findI (pns L) id)) ∧ Below W.heap.size W w') := Lib.hid (fun W h => by
      have hW := HT4.out.below h
      have := find_any (some ⟨gt, 0, none⟩) (L.length + 1) T s id W _ (Nat.le_refl _) hW.rd (by rw [HTL.out]; have := HSM.out.len; rwa [pns_len] at this)
      rwa [HTL.out, HTV.out] at this)
    have C18 := Lib.hid (fun W (h : Below w4.heap.size w4 W) => rFind_any A c L s id W _ (Nat.le_refl _) (HAR.out.below (HUP.out W h)).rd (by have := HSM.out.len; rwa [pns_len] at this))
    have C19 := Lib.hid (fun W (h : Below w4.heap.size w4 W) => leftGraph_any gt w2.heap.size T A c L s _ rfl W (HT4.out.below h) HTV.out HTL.out (HX.out.below (HUP.out W h)) HSM.out)
    obtain ⟨sb, esb⟩ : ∃ sb, setupB d deg bm nm dn = sb := ⟨_, rfl⟩
    rw [esb] at C13 C14
    obtain ⟨cb, ecb⟩ : ∃ cb, checkB (pns L) s d deg bm nm dn = cb := ⟨_, rfl⟩
    rw [ecb] at C15 C16
    obtain ⟨fi, efi⟩ : ∃ fi, findI (pns L) id = fi := ⟨_, rfl⟩
    rw [efi] at C17 C18
    rw [ew4, etb]
    have bd : Below w4.heap.size w4 w4.drew := (Below.refl _ _).drew
    obtain ⟨⟨d0, d1⟩, ⟨d2, d3, d4, d5, d6⟩, d7, d8⟩ := HCL.out _ bd
    clear esb ecb efi ew4 etb b4 ZT hT4 hTv hTl hT b3 hgt zc0 zc1
    go_region_held3 (fun W => (W.cell? ⟨g, 0, none⟩ = some (.slice A L.length c) ∧ W.cell? ⟨g, 1, none⟩ = some (.int .i64 s)) ∧ (W.cell? ⟨g + 1, 0, none⟩ = some (.int .i64 d) ∧ W.cell? ⟨g + 1, 1, none⟩ = some (.int .i64 deg) ∧ W.cell? ⟨g + 1, 2, none⟩ = some (.int .i64 bm) ∧ W.cell? ⟨g + 1, 3, none⟩ = some (.int .i64 nm) ∧ W.cell? ⟨g + 1, 4, none⟩ = some (.int .i64 dn)) ∧ W.cell? ⟨tb, 0, none⟩ = some (.slice (some ⟨gt, 0, none⟩) L.length (L.length + 1)) ∧ W.cell? ⟨tb, 1, none⟩ = some (.int .i64 s))
      (first | exact ⟨⟨by with_reducible assumption, by with_reducible assumption⟩, ⟨by with_reducible assumption, by with_reducible assumption, by with_reducible assumption, by with_reducible assumption, by with_reducible assumption⟩, by with_reducible assumption, by with_reducible assumption⟩ | fail)
      (first
        | (go_at_call 13; refine (C13.out _ bd).mono ?_; rintro e w5 ⟨rfl, bw5⟩; have cw5 : Below w4.heap.size w4 w5 := (bd).trans (bw5.mono (bd).size); obtain ⟨⟨y0, y1⟩, ⟨y2, y3, y4, y5, y6⟩, y7, y8⟩ := HCL.out w5 cw5)
        | (go_at_call 14; refine (C14.out _ cw5).mono ?_; rintro e w6 ⟨rfl, bw6⟩; have cw6 : Below w4.heap.size w4 w6 := (cw5).trans (bw6.mono (cw5).size); obtain ⟨⟨y0, y1⟩, ⟨y2, y3, y4, y5, y6⟩, y7, y8⟩ := HCL.out w6 cw6)
        | (go_at_call 15; refine (C15.out _ cw6).mono ?_; rintro e w7 ⟨rfl, bw7⟩; have cw7 : Below w4.heap.size w4 w7 := (cw6).trans (bw7.mono (cw6).size); obtain ⟨⟨y0, y1⟩, ⟨y2, y3, y4, y5, y6⟩, y7, y8⟩ := HCL.out w7 cw7)
        | (go_at_call 16; refine (C16.out _ cw7).mono ?_; rintro e w8 ⟨rfl, bw8⟩; have cw8 : Below w4.heap.size w4 w8 := (cw7).trans (bw8.mono (cw7).size); obtain ⟨⟨y0, y1⟩, ⟨y2, y3, y4, y5, y6⟩, y7, y8⟩ := HCL.out w8 cw8)
        | (go_at_call 17; refine (C17.out _ cw8).mono ?_; rintro e w9 ⟨rfl, bw9⟩; have cw9 : Below w4.heap.size w4 w9 := (cw8).trans (bw9.mono (cw8).size); obtain ⟨⟨y0, y1⟩, ⟨y2, y3, y4, y5, y6⟩, y7, y8⟩ := HCL.out w9 cw9)
        | (go_at_call 18; refine (C18.out _ cw9).mono ?_; rintro e w10 ⟨rfl, bw10⟩; have cw10 : Below w4.heap.size w4 w10 := (cw9).trans (bw10.mono (cw9).size); obtain ⟨⟨y0, y1⟩, ⟨y2, y3, y4, y5, y6⟩, y7, y8⟩ := HCL.out w10 cw10)
        | (go_at_call 19; refine (C19.out _ cw10).mono ?_; rintro e w11 ⟨rfl, bw11⟩; have cw11 : Below w4.heap.size w4 w11 := (cw10).trans (bw11.mono (cw10).size); obtain ⟨⟨y0, y1⟩, ⟨y2, y3, y4, y5, y6⟩, y7, y8⟩ := HCL.out w11 cw11)
        | fail)
    all_goals
      go_wp2
      go_ret
      exact ⟨rfl, HUP.out _ cw11⟩
end Go.Proofs.Ytjihnkoimbcfnaa
