/- The statements of layer 11: alive, Great. -/
import Derived.Test.YtkmngbkghgelfaaFm
import Derived.Test.YtkmngbkghgelfaaLb
import Derived.Test.YtkmngbkghgelfaaBy
namespace Go.Proofs.Ytkmngbkghgelfaa
open Go.Shelf Go.RowKit Go.Lib
open Go.Sort hiding Below
set_option linter.unusedVariables false
set_option linter.unusedSimpArgs false
structure SmS (w : World) (A : Option Addr) (L : List Gn) : Prop where
  rd : RdG w w.heap.size A L
  hv : pns L = smallS
  hn : ∀ x ∈ L, x.2.1.1 = none → x.2.1.2.1 = 0
theorem SmS.below {w w' : World} {A : Option Addr} {L : List Gn} (h : SmS w A L) (hb : Below w.heap.size w w') : SmS w' A L := ⟨(h.rd.below hb).more hb.size, h.hv, h.hn⟩
theorem SmS.len {w : World} {A : Option Addr} {L : List Gn} (h : SmS w A L) : L.length = 4 := by have := pns_len L; rw [h.hv] at this; exact this.symm
theorem SmS.arg {w : World} {A : Option Addr} {L : List Gn} (h : SmS w A L) : GArg w A L := ⟨h.rd, by rw [h.hv]; exact smallS_small, by rw [h.hv]; exact smallS_ok⟩
theorem smallSC (w : World) : Calls Try.prog 12 #[] w fun e w' => ∃ A L, e = .returned (.agg #[.slice A 4 4, .int .i64 0]) ∧ SmS w' A L ∧ Below w.heap.size w w' := by
  refine (smallS_any w).mono ?_
  rintro e w' ⟨A, L, rfl, h1, h2, h3, h4, hb⟩
  exact ⟨A, L, rfl, ⟨h1, h2, h3⟩, hb⟩
theorem lit_v8 (w : World) (a : Int) : Rd .i8 (w.alloc (.cells #[.int .i8 a] 43)) (w.alloc (.cells #[.int .i8 a] 43)).heap.size (some ⟨w.heap.size, 0, none⟩) [a] := lit_rd8S (by simp [go_sem]) (by simp [go_sem])
theorem beamS {w w1 : World} {A : Option Addr} {L : List Gn} (h : SmS w A L) (a k m : Int) (ha : -128 ≤ a ∧ a ≤ 127) (xs : HL) (os : List Int) (E : Int) (h1 : beamH smallS 0 [a] k m = xs) (h2 : beamO smallS 0 [a] k m = os) (h3 : errG (beamB smallS 0 [a] k m) = E) (hw : w1 = w.alloc (.cells #[.int .i8 a] 43)) :
    Calls Try.prog 8 #[.agg #[.slice A 4 4, .int .i64 0], .slice (some ⟨w.heap.size, 0, none⟩) 1 1, .int .i64 k, .int .i64 m] w1 (BAns w1 xs os E) := by
  subst hw
  have hb : Below w.heap.size w (w.alloc (.cells #[.int .i8 a] 43)) := below_one (Below.refl _ _) _
  have := beam_any A 4 L 0 (some ⟨w.heap.size, 0, none⟩) 1 [a] k m _ (h.below hb).arg (lit_v8 w a) (by simpa using ha)
  rw [h.len, h.hv, h1, h2, h3] at this
  exact this
theorem exactS {w w1 : World} {A : Option Addr} {L : List Gn} (h : SmS w A L) (a k : Int) (ha : -128 ≤ a ∧ a ≤ 127) (xs : HL) (E : Int) (h1 : exactH smallS 0 [a] k = xs) (h3 : errG (exactB smallS 0 [a] k) = E) (hw : w1 = w.alloc (.cells #[.int .i8 a] 43)) :
    Calls Try.prog 10 #[.agg #[.slice A 4 4, .int .i64 0], .slice (some ⟨w.heap.size, 0, none⟩) 1 1, .int .i64 k] w1 (HAns w1 xs E) := by
  subst hw
  have hb : Below w.heap.size w (w.alloc (.cells #[.int .i8 a] 43)) := below_one (Below.refl _ _) _
  have := exact_any A 4 L 0 (some ⟨w.heap.size, 0, none⟩) 1 [a] k _ (h.below hb).arg (lit_v8 w a) (by simpa using ha)
  rw [h.len, h.hv, h1, h3] at this
  exact this
theorem own_rdHS {w : World} {base n c : Nat} {e : TypeId} {A : Option Addr} {xs : HL} (h : w.ownsRow base e 2 (.slice A n c) n (flatH xs)) : RdH w w.heap.size A xs := by
  obtain ⟨A', c', hv, _, hr⟩ := own_sliceH h
  injection hv with q1 q2 q3
  subst q1
  exact hr
/-- The same, against a list that was just laid. -/
theorem sameLit {w w1 : World} {A : Option Addr} {c n : Nat} {zs : HL} {cs : Array Value} (hn : n = zs.length) (hcs : cs = (flatH zs).toArray) (hw : w1 = w.alloc (.cells cs 46)) (hr : RdH w w.heap.size A zs) (hl : zs.length ≤ 1000) :
    Calls Try.prog 11 #[.slice A n c, .slice (some ⟨w.heap.size, 0, none⟩) n n] w1 fun e w' => e = .returned (.bool true) ∧ Below w.heap.size w w' := by
  subst hw hcs
  have hb : Below w.heap.size w (w.alloc (.cells (flatH zs).toArray 46)) := below_one (Below.refl _ _) _
  refine (sameTrue A (some ⟨w.heap.size, 0, none⟩) c n zs n hn _ _ ((hr.below hb).more hb.size) (rdH_whole (Whole.new w _ _)) (by omega)).mono ?_
  rintro e w' ⟨rfl, nq, rfl⟩
  exact ⟨rfl, below_drewN hb nq⟩
theorem sameLitI {w w1 : World} {A : Option Addr} {c n : Nat} {zs : List Int} {cs : Array Value} (hn : n = zs.length) (hcs : cs = (zs.map (Value.int .i64)).toArray) (hw : w1 = w.alloc (.cells cs 3)) (hr : Rd .i64 w w.heap.size A zs) (hl : zs.length ≤ 1000) :
    Calls Try.prog 13 #[.slice A n c, .slice (some ⟨w.heap.size, 0, none⟩) n n] w1 fun e w' => e = .returned (.bool true) ∧ Below w.heap.size w w' := by
  subst hw hcs hn
  have hb : Below w.heap.size w (w.alloc (.cells (zs.map (Value.int .i64)).toArray 3)) := below_one (Below.refl _ _) _
  refine (sameZ_any A (some ⟨w.heap.size, 0, none⟩) c zs.length zs zs _ _ ((hr.below hb).more hb.size) ((rd_newF w .i64 3 zs (0, 0)).more (by simp)) (by omega) (by omega)).mono ?_
  rintro e w' ⟨rfl, nq, rfl⟩
  exact ⟨by simp [eqZ], below_drewN hb nq⟩
set_option maxRecDepth 100000 in
set_option maxHeartbeats 8000000 in
theorem aliveS_any (w : World) : Calls Try.prog 4 #[] w fun e w' => e = .returned (.bool true) ∧ Below w.heap.size w w' := by
  go_enter Try.func4, Try.ntmps4
  go_wp2_with fail
  refine (smallSC w).mono ?_
  rintro e w1 ⟨A1, L1, rfl, s1, b1⟩
  dsimp only
  go_wp2_with fail
  refine (beamS s1 9 2 3 (by decide) _ _ _ smallS_h1 smallS_o1 (by rw [smallS_b1]) rfl).mono ?_
  rintro e w2 ⟨V1, n1, U1, m1, rfl, oh1, oi1, b1'⟩
  dsimp only
  have c2 := Lib.hid (b1.trans ((((below_one (Below.refl _ _) _ : Below w1.heap.size w1 (w1.alloc (.cells #[.int .i8 9] 43)))).trans (b1'.mono (by simp))).mono b1.size))
  clear s1 b1 b1'
  go_wp2_with fail
  refine (smallSC w2).mono ?_
  rintro e w3 ⟨A3, L3, rfl, s3, b3⟩
  dsimp only
  go_wp2_with fail
  refine (beamS s3 0 1 1 (by decide) _ _ _ smallS_h2 smallS_o2 (by rw [smallS_b2]) rfl).mono ?_
  rintro e w4 ⟨V3, n3, U3, m3, rfl, oh3, oi3, b3'⟩
  dsimp only
  have c4 := Lib.hid (b3.trans ((((below_one (Below.refl _ _) _ : Below w3.heap.size w3 (w3.alloc (.cells #[.int .i8 0] 43)))).trans (b3'.mono (by simp))).mono b3.size))
  clear s3 b3 b3'
  go_wp2_with fail
  refine (smallSC w4).mono ?_
  rintro e w5 ⟨A5, L5, rfl, s5, b5⟩
  dsimp only
  go_wp2_with fail
  refine (exactS s5 9 2 (by decide) _ _ smallS_x (by rw [smallS_e]) rfl).mono ?_
  rintro e w6 ⟨V5, n5, rfl, oh5, b5', _⟩
  dsimp only
  have c6 := Lib.hid (b5.trans ((((below_one (Below.refl _ _) _ : Below w5.heap.size w5 (w5.alloc (.cells #[.int .i8 9] 43)))).trans (b5'.mono (by simp))).mono b5.size))
  clear s5 b5 b5'
  go_wp2_with fail
  refine (smallSC w6).mono ?_
  rintro e w7 ⟨A7, L7, rfl, s7, b7⟩
  dsimp only
  go_wp2_with fail
  refine (beamS s7 9 2 1 (by decide) _ _ _ smallS_h3 smallS_o3 (by rw [smallS_b3]) rfl).mono ?_
  rintro e w8 ⟨V7, n7, U7, m7, rfl, oh7, oi7, b7'⟩
  dsimp only
  have c8 := Lib.hid (b7.trans ((((below_one (Below.refl _ _) _ : Below w7.heap.size w7 (w7.alloc (.cells #[.int .i8 9] 43)))).trans (b7'.mono (by simp))).mono b7.size))
  have K : Hid (∀ W, Below w8.heap.size w8 W → Below w.heap.size w W ∧ RdH W W.heap.size V1 [(9, 0), (8, 16)] ∧ Rd .i64 W W.heap.size U1 [0, 1, 2] ∧ RdH W W.heap.size V3 [(7, 0)] ∧ Rd .i64 W W.heap.size U3 [0] ∧ RdH W W.heap.size V5 [(9, 0), (6, 1)]) := Lib.hid (fun W h => by
    have k6 := c8.out.trans (h.mono c8.out.size)
    have k4 := c6.out.trans (k6.mono c6.out.size)
    have k2 := c4.out.trans (k4.mono c4.out.size)
    exact ⟨c2.out.trans (k2.mono c2.out.size), own_rdHS (own_below oh1 k2), own_rdK (own_below oi1 k2), own_rdHS (own_below oh3 k4), own_rdK (own_below oi3 k4), own_rdHS (own_below oh5 k6)⟩)
  have HZ := Lib.hid sh_small
  clear s7 b7 b7' oh1 oi1 oh3 oi3 oh5 oh7 oi7 c2 c4 c6 c8
  go_wp2_with fail
  refine (sameLit (zs := [(9, 0), (8, 16)]) rfl rfl rfl (K.out w8 (Below.refl _ _)).2.1 (by decide)).mono ?_
  rintro e w9 ⟨rfl, d9⟩
  dsimp only
  go_wp2_with fail
  refine (sameLitI (zs := [0, 1, 2]) rfl rfl rfl (K.out w9 d9).2.2.1 (by decide)).mono ?_
  rintro e w10 ⟨rfl, d10'⟩
  have d10 := d9.trans (d10'.mono d9.size)
  clear d10'
  dsimp only
  go_wp2_with fail
  refine (sameLit (zs := [(7, 0)]) rfl rfl rfl (K.out w10 d10).2.2.2.1 (by decide)).mono ?_
  rintro e w11 ⟨rfl, d11'⟩
  have d11 := d10.trans (d11'.mono d10.size)
  clear d11'
  dsimp only
  go_wp2_with fail
  refine (sameLitI (zs := [0]) rfl rfl rfl (K.out w11 d11).2.2.2.2.1 (by decide)).mono ?_
  rintro e w12 ⟨rfl, d12'⟩
  have d12 := d11.trans (d12'.mono d11.size)
  clear d12'
  dsimp only
  go_wp2_with fail
  refine (sameLit (zs := [(9, 0), (6, 1)]) rfl rfl rfl (K.out w12 d12).2.2.2.2.2 (by decide)).mono ?_
  rintro e w13 ⟨rfl, d13'⟩
  have d13 := d12.trans (d13'.mono d12.size)
  clear d13'
  dsimp only
  go_wp2_with fail
  refine (shared_any V1 V5 n1 n5 [(9, 0), (8, 16)] [(9, 0), (6, 1)] 2 2 rfl rfl w13 (K.out w13 d13).2.1 (K.out w13 d13).2.2.2.2.2 (fun x hx => by simp at hx; rcases hx with rfl | rfl <;> exact ⟨by decide, by decide⟩) (fun x hx => by simp at hx; rcases hx with rfl | rfl <;> exact ⟨by decide, by decide⟩) (by decide) (by decide)).mono ?_
  rintro e w14 ⟨rfl, d14'⟩
  have d14 := Lib.hid (d13.trans (d14'.mono d13.size))
  clear d14' d9 d10 d11 d12 d13
  rw [show shN (ids [(9, 0), (8, 16)]) (ids [(9, 0), (6, 1)]) = 1 from HZ.out]
  dsimp only
  go_wp2
  go_ret
  exact ⟨rfl, (K.out _ d14.out).1⟩
def GreatS (L : List Gn) (e : Ending) : Prop := ∃ b, e = .returned (.bool b) ∧ (b = false → GSmall (pns L) ∧ L.length ≤ 150)
/-- Great of layer 11. -/
theorem greatS_any (A : Option Addr) (c : Nat) (L : List Gn) (s : Int) (w : World) (hx : GGiven w A L) : Calls Try.prog 5 #[.agg #[.slice A L.length c, .int .i64 s]] w fun e w' => GreatS L e ∧ Below w.heap.size w w' := by
  have HX := Lib.hid hx
  have HLN := hx.len
  have B0 : Below w.heap.size w (w.alloc (.cells #[.slice A L.length c, .int .i64 s] 24)) := below_one (Below.refl _ _) _
  have HW0 := Lib.hid (Whole.new w 24 #[.slice A L.length c, .int .i64 s])
  have HB0 := Lib.hid B0
  clear hx B0
  go_enter Try.func5, Try.ntmps5
  go_upto_region 1 with fail
  obtain ⟨w0, ew0⟩ : ∃ w0, w.alloc (.cells #[.slice A L.length c, .int .i64 s] 24) = w0 := ⟨_, rfl⟩
  obtain ⟨g0, eg0⟩ : ∃ g0, w.heap.size = g0 := ⟨_, rfl⟩
  rw [ew0] at HW0 HB0 ⊢
  have HGG := Lib.hid eg0
  rw [eg0] at HW0
  rw [show (Value.pointer (some ⟨w.heap.size, 0, none⟩) : Value) = .pointer (some ⟨g0, 0, none⟩) by rw [eg0]]
  have y0 := HW0.out.cell 0
  have y1 := HW0.out.cell 1
  clear ew0 eg0
  go_wp2_with fail
  refine (great9_any A c L s w0 (HX.out.below HB0.out)).mono ?_
  rintro e w2 ⟨⟨gb, rfl, hgb⟩, b2⟩
  have HB2 := Lib.hid (HB0.out.trans (b2.mono HB0.out.size))
  have HGB := Lib.hid hgb
  dsimp only
  clear y0 y1 hgb
  have z0 := (HW0.out.below b2 HW0.out.lt).cell 0
  clear b2
  cases gb with
  | true =>
    go_wp2
    go_ret
    exact ⟨⟨true, rfl, fun h => by cases h⟩, HB2.out⟩
  | false =>
    have HSM := Lib.hid (HGB.out rfl)
    clear HGB
    by_cases h150 : L.length ≤ 150
    · have d1 : decide ((150 : Int) < (L.length : Int)) = false := decide_eq_false (by omega)
      have d2 : decide (150 < L.length) = false := decide_eq_false (by omega)
      go_wp2
      go_ret
      exact ⟨⟨false, rfl, fun _ => ⟨HSM.out, h150⟩⟩, HB2.out⟩
    · have d1 : decide ((150 : Int) < (L.length : Int)) = true := decide_eq_true (by omega)
      have d2 : decide (150 < L.length) = true := decide_eq_true (by omega)
      go_wp2
      go_ret
      exact ⟨⟨true, rfl, fun h => by cases h⟩, HB2.out⟩
end Go.Proofs.Ytkmngbkghgelfaa
