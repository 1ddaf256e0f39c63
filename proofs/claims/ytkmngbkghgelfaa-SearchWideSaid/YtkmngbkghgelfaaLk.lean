/- The walk of the program's Drop. -/
import Derived.Test.YtkmngbkghgelfaaKs
import Derived.Test.YtkmngbkghgelfaaLb
import Derived.Test.YtkmngbkghgelfaaLi
import Derived.Test.YtkmngbkghgelfaaLj
import Derived.Test.YtkmngbkghgelfaaLr
import Derived.Deep.RegionLaw
import Derived.Deep.RegionHeld3
import Derived.Deep.AppendLies
import Derived.Deep.Cut
import Derived.Deep.CutRange
namespace Go.Proofs.Ytkmngbkghgelfaa
open Go.RowKit
set_option linter.unusedVariables false
/-- Drop under way: the boxes, where each place comes to, what is left so far. -/
structure Dp (w : World) (g q b : Nat) (box : Array Value) (M : List Int) (OA : Option Addr) (oc : Nat) (T : List Gn) (ST : Int) (W : World) : Prop where
  bel : Below g w W
  bx : Whole W g 24 box
  rs : Whole W (g + 1) 24 #[.slice none 0 0, .int .i64 0]
  m : Whole W q 3 (cellsI M)
  ob : Whole W b 24 #[.slice OA T.length oc, .int .i64 ST]
  ow : OwnG W (b + 1) OA oc T
theorem Dp.below {w W W' : World} {g q b : Nat} {box : Array Value} {M : List Int} {OA : Option Addr} {oc : Nat} {T : List Gn} {ST : Int} (h : Dp w g q b box M OA oc T ST W) (hb : Below W.heap.size W W') : Dp w g q b box M OA oc T ST W' :=
  ⟨h.bel.trans (hb.mono (Nat.le_of_lt h.bx.lt)), h.bx.below hb h.bx.lt, h.rs.below hb h.rs.lt, h.m.below hb h.m.lt, h.ob.below hb h.ob.lt, h.ow.below hb⟩
/-- Start of what is left is set. -/
theorem Dp.start {w W : World} {g q b : Nat} {box : Array Value} {M : List Int} {OA : Option Addr} {oc : Nat} {T : List Gn} {ST : Int} (h : Dp w g q b box M OA oc T ST W) (h1 : g + 1 < q) (h2 : q < b) (S2 : Int) : Dp w g q b box M OA oc T S2 (W.setCell ⟨b, 1, none⟩ (.int .i64 S2)) :=
  ⟨h.bel.setCell (p := ⟨b, 1, none⟩) (by show g ≤ b; omega) _, h.bx.far (a := ⟨b, 1, none⟩) (by show g ≠ b; omega) _, h.rs.far (a := ⟨b, 1, none⟩) (by show g + 1 ≠ b; omega) _, h.m.far (a := ⟨b, 1, none⟩) (by show q ≠ b; omega) _, h.ob.set 1 _, h.ow.set (Nat.lt_succ_self _) 1 _⟩
/-- One node more is left. -/
theorem Dp.next {w W W2 : World} {g q b gy : Nat} {box : Array Value} {M : List Int} {OA A' : Option Addr} {oc c' : Nat} {T : List Gn} {ST : Int} {x : Gn} (h : Dp w g q b box M OA oc T ST W) (h1 : g + 1 < q) (h2 : q < b)
    (hv : W.ownsRow gy 43 1 (.slice x.2.1.1 x.2.1.2.2.length x.2.1.2.1) x.2.1.2.2.length (x.2.1.2.2.map (Value.int .i8))) (ho : W.ownsRow gy 3 1 (.slice x.2.2.1 x.2.2.2.2.length x.2.2.2.1) x.2.2.2.2.length (x.2.2.2.2.map (Value.int .i64)))
    (hb : b + 1 ≤ gy) (hold : OwnR W (b + 1) gy OA oc T) (o : Obj) (hown : W2.ownsRow (b + 1) 62 3 (.slice A' (T.length + 1) c') (T.length + 1) (flatG T ++ encG x)) (hg : (W.alloc o).grownBy W2 (Value.slice OA T.length oc).ownBlock) :
    Dp w g q b box M A' c' (T ++ [x]) ST (W2.setCell ⟨b, 0, none⟩ (.slice A' (T.length + 1) c')) := by
  have hr : ∀ k, (Value.slice OA T.length oc).ownBlock = some k → b + 1 ≤ k := fun k hk => (h.ow.row.lt k hk).1
  have h0 := h.below (below_one (Below.refl _ _) o)
  have n := hold.next hv ho hb (Nat.le_refl _) o hown hg
  refine ⟨(h0.bel.grown hg (Nat.le_of_lt h0.bx.lt) (fun r hr' => by have := hr r hr'; omega)).setCell (p := ⟨b, 0, none⟩) (by show g ≤ b; omega) _, (whole_grown h0.bx hg hr (by omega)).far (a := ⟨b, 0, none⟩) (by show g ≠ b; omega) _, (whole_grown h0.rs hg hr (by omega)).far (a := ⟨b, 0, none⟩) (by show g + 1 ≠ b; omega) _, (whole_grown h0.m hg hr (by omega)).far (a := ⟨b, 0, none⟩) (by show q ≠ b; omega) _, ?_, n.set (Nat.lt_succ_self _) 0 _⟩
  rw [List.length_append, List.length_singleton]
  exact (whole_grown h0.ob hg hr (Nat.lt_succ_self _)).set 0 _
/-- Where what is left begins, reckoned as far as place k. -/
def stK (P : List Int) (s : Int) (k : Nat) : Int := if s < (k : Int) ∧ goneAt P s.toNat = false then ((toN P s.toNat : Nat) : Int) else 0
set_option maxRecDepth 100000 in
set_option maxHeartbeats 8000000 in
theorem drop_any (A : Option Addr) (c : Nat) (L : List Gn) (s : Int) (B : Option Addr) (d : Nat) (P : List Int) (w : World) (hx : GArg w A L) (hn : ∀ x ∈ L, x.2.1.1 = none → x.2.1.2.1 = 0) (hp : Rd .i64 w w.heap.size B P) (hP : P.length ≤ 100000000) :
    Calls Try.prog 9 #[.agg #[.slice A L.length c, .int .i64 s], .slice B P.length d] w (GAns w (dropA (pns L) s P) (dropS (pns L) s P) (errG (dropB (pns L) s P))) := by
  have hs : ∀ x ∈ pns L, x.2.2.length ≤ 20000 := fun x h => (hx.sm.at_ h).2
  have hs1 : ∀ x ∈ pns L, x.2.1.length ≤ 20000 := fun x h => (hx.sm.at_ h).1
  have hl : L.length ≤ 20000 := by have := hx.sm.len; rwa [pns_len] at this
  have HX := Lib.hid hx
  have HSM := Lib.hid hs
  have HSM1 := Lib.hid hs1
  have HNL := Lib.hid hn
  have HP := Lib.hid hp
  clear hx hs hs1 hn hp
  have HO := Lib.hid (fun W (h : Below w.heap.size w W) => holds_any A c L s W _ h.size (HX.out.rd.below h) hl HSM.out)
  have HW0 := Lib.hid ((Whole.new w 24 #[.slice A L.length c, .int .i64 s]).alloc (.cells #[.slice none 0 0, .int .i64 0] 24))
  have HW1 : Hid (Whole ((w.alloc (.cells #[.slice A L.length c, .int .i64 s] 24)).alloc (.cells #[.slice none 0 0, .int .i64 0] 24)) (w.heap.size + 1) 24 #[.slice none 0 0, .int .i64 0]) := Lib.hid (by
    have := Whole.new (w.alloc (.cells #[.slice A L.length c, .int .i64 s] 24)) 24 #[.slice none 0 0, .int .i64 0]
    simpa using this)
  have HB0 : Hid (Below w.heap.size w ((w.alloc (.cells #[.slice A L.length c, .int .i64 s] 24)).alloc (.cells #[.slice none 0 0, .int .i64 0] 24))) := Lib.hid (below_one (below_one (Below.refl _ _) _) _)
  cases hh : holdsB (pns L) s with
  | false =>
    rw [hh] at HO
    have E0 := Lib.hid (show dropB (pns L) s P = false by unfold dropB; rw [hh]; rfl)
    have E1 := Lib.hid (show dropA (pns L) s P = [] by unfold dropA; rw [E0.out]; rfl)
    have E2 := Lib.hid (show dropS (pns L) s P = 0 by unfold dropS; rw [E0.out]; rfl)
    rw [E0.out, E1.out, E2.out]
    clear hh
    go_enter Try.func9, Try.ntmps9
    go_wp2_with (go_at_call 21; refine (HO.out _ HB0.out).mono ?_; rintro e w1 ⟨rfl, b1⟩; have z0 := HW0.out.below b1 HW0.out.lt; have z1 := HW1.out.below b1 HW1.out.lt; have zc0 : w1.cell? ⟨w.heap.size, 0, none⟩ = some (.slice A L.length c) := z0.cell 0; have zc1 : w1.cell? ⟨w.heap.size, 1, none⟩ = some (.int .i64 s) := z0.cell 1; have zd0 : w1.cell? ⟨w.heap.size + 1, 0, none⟩ = some (.slice none 0 0) := z1.cell 0; have zd1 : w1.cell? ⟨w.heap.size + 1, 1, none⟩ = some (.int .i64 0) := z1.cell 1; have zf0 := z1.frozen 0; have zf1 := z1.frozen 1; have b1 := HB0.out.trans (b1.mono HB0.out.size))
    refine bodyPost_ret (v := .tuple #[.agg #[.slice none 0 0, .int .i64 0], .int .i64 1]) (by rw [resCellH rfl]; go_simp) rfl ?_
    exact GAns.nil _ _ ((b1.setCell (p := ⟨w.heap.size + 1, 0, none⟩) (Nat.le_succ _) _).setCell (p := ⟨w.heap.size + 1, 1, none⟩) (Nat.le_succ _) _)
  | true =>
    rw [hh] at HO
    have HLN := Lib.hid (pns_len L)
    have HH := holdsB_yes hh
    have hL : L.length ≤ 2048 := by have := HH.1; rwa [pns_len] at this
    have HHS := Lib.hid HH
    have EB := Lib.hid (show dropB (pns L) s P = decide (OkTo L.length P) by unfold dropB; rw [hh, HLN.out]; rfl)
    have HPW := Lib.hid (fun W (h : Below w.heap.size w W) => placesWithout_any B d P P.length L.length rfl W ((HP.out.below h).more h.size) hP hL)
    clear hh HH
    go_enter Try.func9, Try.ntmps9
    go_upto_region 3 with (go_at_call 21; refine (HO.out _ HB0.out).mono ?_; rintro e w1 ⟨rfl, b1⟩; have z0 := HW0.out.below b1 HW0.out.lt; have z1 := HW1.out.below b1 HW1.out.lt; have zc0 : w1.cell? ⟨w.heap.size, 0, none⟩ = some (.slice A L.length c) := z0.cell 0; have zc1 : w1.cell? ⟨w.heap.size, 1, none⟩ = some (.int .i64 s) := z0.cell 1; have b1 := HB0.out.trans (b1.mono HB0.out.size))
    go_wp2_with fail
    refine (HPW.out w1 b1).mono ?_
    rintro e w2 (⟨hok, q, rfl, hq, hM, b2⟩ | ⟨hok, rfl, b2⟩)
    case inr =>
      have z0 := z0.below b2 z0.lt
      have z1 := z1.below b2 z1.lt
      have zd0 : w2.cell? ⟨w.heap.size + 1, 0, none⟩ = some (.slice none 0 0) := z1.cell 0
      have zd1 : w2.cell? ⟨w.heap.size + 1, 1, none⟩ = some (.int .i64 0) := z1.cell 1
      have zf0 := z1.frozen 0
      have zf1 := z1.frozen 1
      have b3 := b1.trans (b2.mono b1.size)
      have E0 := Lib.hid (show dropB (pns L) s P = false by rw [EB.out]; exact decide_eq_false hok)
      have E1 := Lib.hid (show dropA (pns L) s P = [] by unfold dropA; rw [E0.out]; rfl)
      have E2 := Lib.hid (show dropS (pns L) s P = 0 by unfold dropS; rw [E0.out]; rfl)
      clear zc0 zc1
      dsimp only
      go_wp2
      rw [E0.out, E1.out, E2.out]
      refine bodyPost_ret (v := .tuple #[.agg #[.slice none 0 0, .int .i64 0], .int .i64 1]) (by rw [resCellH rfl]; go_simp) rfl ?_
      exact GAns.nil _ _ ((b3.setCell (p := ⟨w.heap.size + 1, 0, none⟩) (Nat.le_succ _) _).setCell (p := ⟨w.heap.size + 1, 1, none⟩) (Nat.le_succ _) _)
    case inl =>
      have hgq : w.heap.size + 1 < q := by have := z1.lt; omega
      have hqb : q < w2.heap.size := hM.lt
      have z0' := z0.below b2 z0.lt
      have z1' := z1.below b2 z1.lt
      have b3 := b1.trans (b2.mono b1.size)
      have st0 : Dp w w.heap.size q w2.heap.size #[.slice A L.length c, .int .i64 s] (mvA L.length P L.length) none 0 [] (stK P s 0) (w2.alloc (.cells #[.slice none 0 0, .int .i64 0] 24)) := by
        have e0 : stK P s 0 = 0 := by
          unfold stK
          rw [if_neg (fun h => by have h1 := HHS.out.2.1; have h2 := h.1; omega)]
        rw [e0]
        exact ⟨below_one b3 _, z0'.alloc _, z1'.alloc _, hM.alloc _, Whole.new w2 24 _, OwnG.nil _ _⟩
      have cl0 := (Whole.new w2 24 #[.slice none 0 0, .int .i64 0]).cell 0
      clear zc0 zc1 z0 z1 HO HPW HW0 HW1 HB0
      dsimp only
      go_upto_region 7 with fail
      clear cl0
      obtain ⟨w3, ew3⟩ : ∃ w3, w2.alloc (.cells #[.slice none 0 0, .int .i64 0] 24) = w3 := ⟨_, rfl⟩
      obtain ⟨b, eb⟩ : ∃ b, w2.heap.size = b := ⟨_, rfl⟩
      obtain ⟨g, eg⟩ : ∃ g, w.heap.size = g := ⟨_, rfl⟩
      have HG := Lib.hid eg
      rw [ew3, eb, eg] at st0
      rw [eb] at hqb
      rw [eg] at hgq
      rw [ew3, eb, eg]
      clear ew3 eb eg z0' z1' b1 b2 b3 hM hq
      obtain ⟨box, ebox⟩ : ∃ box : Array Value, #[Value.slice A L.length c, .int .i64 s] = box := ⟨_, rfl⟩
      rw [ebox] at st0
      have HBOX := Lib.hid ebox
      have HST := Lib.hid st0
      have HOK := Lib.hid hok
      clear ebox st0 hok
      have zc0 : w3.cell? ⟨g, 0, none⟩ = some (.slice A L.length c) := (HST.out.bx.cell 0).trans (by rw [← HBOX.out]; rfl)
      go_wp2
      clear zc0
      go_loopw [9, 10, 30] (fun _ _ i wr => ∃ (k : Nat) (OA : Option Addr) (oc : Nat) (T : List Gn), k ≤ L.length ∧ i = .int .i64 k ∧ Hid (Dp w g q b box (mvA L.length P L.length) OA oc T (stK P s k) wr) ∧ Hid (pns T = dropN (pns L) P k)) (fun _ _ i _ => L.length - (intOf i).toNat)
      case atStart => exact ⟨0, none, 0, [], by omega, rfl, HST, Lib.hid rfl⟩
      case round =>
        clear HST
        obtain ⟨k, OA, oc, T, hk, rfl, HD, HT⟩ := hrel
        have bW : Below w.heap.size w wr := by rw [HG.out]; exact HD.out.bel
        by_cases hlt : k < L.length
        · have e1 : decide ((k : Int) < (L.length : Int)) = true := decide_eq_true (by omega)
          obtain ⟨bn, off, id, a1, c1, v, a2, c2, o, rfl, hBb, h1, h2, h3, hr1, hr2, hv⟩ := HX.out.rd.at_ hlt
          have h1' : wr.cell? ⟨bn, off + k * 3, none⟩ = some (.int .u64 id) := (bW.cell (p := ⟨bn, off + k * 3, none⟩) hBb).trans h1
          have h2' : wr.cell? ⟨bn, off + k * 3 + 1, none⟩ = some (.slice a1 v.length c1) := (bW.cell (p := ⟨bn, off + k * 3 + 1, none⟩) hBb).trans h2
          have h3' : wr.cell? ⟨bn, off + k * 3 + 2, none⟩ = some (.slice a2 o.length c2) := (bW.cell (p := ⟨bn, off + k * 3 + 2, none⟩) hBb).trans h3
          have x1 : (0 : Int) ≤ (k : Int) := by omega
          have x2 : (k : Int) < (L.length : Int) := by omega
          have EN := Lib.hid (show nAt (pns L) k = (id, v, o) from nAt_get (pns_at hv.out))
          have HOL := Lib.hid (HSM.out _ (List.mem_of_getElem? (pns_at hv.out)) : o.length ≤ 20000)
          have HVL := Lib.hid (HSM1.out _ (List.mem_of_getElem? (pns_at hv.out)) : v.length ≤ 20000)
          have HN8 := Lib.hid (HNL.out _ (List.mem_of_getElem? hv.out) : a1 = none → c1 = 0)
          have HR1 := Lib.hid hr1
          have HR2 := Lib.hid hr2
          obtain ⟨w4, ew4⟩ : ∃ w4, wr.alloc (.cells #[.int .u64 id, .slice a1 v.length c1, .slice a2 o.length c2] 62) = w4 := ⟨_, rfl⟩
          have bx : Below wr.heap.size wr w4 := by rw [← ew4]; exact below_one (Below.refl _ _) _
          have XN : Whole w4 wr.heap.size 62 #[.int .u64 id, .slice a1 v.length c1, .slice a2 o.length c2] := by rw [← ew4]; exact Whole.new wr _ _
          obtain ⟨gx, egx⟩ : ∃ gx, wr.heap.size = gx := ⟨_, rfl⟩
          have hbx : b < gx := by rw [← egx]; exact HD.out.ob.lt
          have HBX := Lib.hid bx
          rw [egx] at XN
          have HXN := Lib.hid XN
          have HGX := Lib.hid egx
          have HD4 := Lib.hid (HD.out.below bx)
          have HOR : Hid (OwnR w4 (b + 1) gx OA oc T) := Lib.hid (by rw [← egx]; exact (OwnR.of HD.out.ow).below bx)
          have cm : w4.cell? ⟨q, k, none⟩ = some (.int .i64 (hAt (mvA L.length P L.length) k)) := (HD4.out.m.cell k).trans (cellsI_at (by rw [mvA_len]; exact hlt))
          have HW4 := Lib.hid ew4
          clear hv hr1 hr2 h1 h2 h3 bx XN HD HX ew4 egx
          go_upto_region 10 with fail
          rw [HW4.out, HGX.out]
          clear HW4 h1' h2' h3'
          by_cases hgone : goneAt P k = true
          · have hm : hAt (mvA L.length P L.length) k = -1 := by rw [mvA_at hlt, if_pos hgone]
            rw [hm] at cm
            have HT2 : Hid (pns T = dropN (pns L) P (k + 1)) := Lib.hid (HT.out.trans (dropN_yes hgone).symm)
            have HD5 : Hid (Dp w g q b box (mvA L.length P L.length) OA oc T (stK P s (k + 1)) w4) := Lib.hid (by
              have e : stK P s (k + 1) = stK P s k := by
                unfold stK
                by_cases hsk : s = (k : Int)
                · subst hsk
                  rw [Int.toNat_natCast, hgone]; simp
                · have : (s < ((k + 1 : Nat) : Int)) ↔ (s < (k : Int)) := by omega
                  simp only [this]
              rw [e]; exact HD4.out)
            clear hm hgone
            go_wp2
            exact ⟨⟨k + 1, OA, oc, T, by omega, by go_num, HD5, HT2⟩, by simp [intOf]; omega⟩
          · have hgf : goneAt P k = false := by simpa using hgone
            have hm : hAt (mvA L.length P L.length) k = ((toN P k : Nat) : Int) := by rw [mvA_at hlt, hgf]; simp [hlt]
            rw [hm] at cm
            have cs1 : w4.cell? ⟨g, 1, none⟩ = some (.int .i64 s) := (HD4.out.bx.cell 1).trans (by rw [← HBOX.out]; rfl)
            have y1 : (0 : Int) ≤ (k : Int) := by omega
            go_upto_if 43 with fail
            go_cut [] from 39 to 47 (fun wx => Hid (Dp w g q b box (mvA L.length P L.length) OA oc T (stK P s (k + 1)) wx) ∧ Hid (OwnR wx (b + 1) gx OA oc T) ∧ Hid (Whole wx gx 62 #[.int .u64 id, .slice a1 v.length c1, .slice a2 o.length c2]))
            case first =>
              by_cases hks : (k : Int) = s
              · have e2 : ((k : Int) == s) = true := beq_iff_eq.2 hks
                have HD5 : Hid (Dp w g q b box (mvA L.length P L.length) OA oc T (stK P s (k + 1)) (w4.setCell ⟨b, 1, none⟩ (.int .i64 ((toN P k : Nat) : Int)))) := Lib.hid (by
                  have e : stK P s (k + 1) = ((toN P k : Nat) : Int) := by
                    unfold stK
                    rw [← hks, Int.toNat_natCast, if_pos ⟨by omega, hgf⟩]
                  rw [e]; exact HD4.out.start hgq hqb _)
                have cb1 := HD4.out.ob.cell 1
                have fb1 := HD4.out.ob.frozen 1
                have HO5 : Hid (OwnR (w4.setCell ⟨b, 1, none⟩ (.int .i64 ((toN P k : Nat) : Int))) (b + 1) gx OA oc T) := Lib.hid ⟨HOR.out.own.set (Nat.lt_succ_self _) 1 _, HOR.out.ro, HOR.out.rv, HOR.out.ru⟩
                have HX5 := Lib.hid (HXN.out.far (a := ⟨b, 1, none⟩) (by show gx ≠ b; omega) (.int .i64 ((toN P k : Nat) : Int)))
                clear hks hm
                go_wp2_with fail
                go_meet
                exact ⟨HD5, HO5, HX5⟩
              · have e2 : ((k : Int) == s) = false := by rw [beq_eq_false_iff_ne]; exact hks
                have HD5 : Hid (Dp w g q b box (mvA L.length P L.length) OA oc T (stK P s (k + 1)) w4) := Lib.hid (by
                  have e : stK P s (k + 1) = stK P s k := by
                    unfold stK
                    have : (s < ((k + 1 : Nat) : Int)) ↔ (s < (k : Int)) := by omega
                    simp only [this]
                  rw [e]; exact HD4.out)
                clear hks hm
                go_wp2_with fail
                go_meet
                exact ⟨HD5, HOR, HXN⟩
            case rest =>
              obtain ⟨HD5, HO5, HX5⟩ := hcut
              have n0 : wc.cell? ⟨gx, 0, none⟩ = some (.int .u64 id) := HX5.out.cell 0
              have n1 : wc.cell? ⟨gx, 1, none⟩ = some (.slice a1 v.length c1) := HX5.out.cell 1
              have n2 : wc.cell? ⟨gx, 2, none⟩ = some (.slice a2 o.length c2) := HX5.out.cell 2
              have cb0 : wc.cell? ⟨b, 0, none⟩ = some (.slice OA T.length oc) := HD5.out.ob.cell 0
              have hWc : Below w.heap.size w wc := by rw [HG.out]; exact HD5.out.bel
              have HBW := Lib.hid hWc
              have HCL : Hid (∀ W, Below wc.heap.size wc W → (W.cell? ⟨gx, 0, none⟩ = some (.int .u64 id) ∧ W.cell? ⟨gx, 1, none⟩ = some (.slice a1 v.length c1) ∧ W.cell? ⟨gx, 2, none⟩ = some (.slice a2 o.length c2)) ∧ W.cell? ⟨b, 0, none⟩ = some (.slice OA T.length oc) ∧ W.frozen? ⟨b, 0, none⟩ = false) := Lib.hid (fun W h => by
                have z0 := HX5.out.below h HX5.out.lt
                have z1 := HD5.out.ob.below h HD5.out.ob.lt
                exact ⟨⟨z0.cell 0, z0.cell 1, z0.cell 2⟩, z1.cell 0, z1.frozen 0⟩)
              have HC1 := Lib.hid (fun W (h : Below wc.heap.size wc W) => clone9_any a1 c1 v.length w.heap.size v rfl W (Nat.le_trans hWc.size h.size) (HR1.out.below (hWc.trans (h.mono hWc.size))) (Nat.le_trans HVL.out (by omega)) HN8.out)
              have HF1 := Lib.hid (fun W (h : Below wc.heap.size wc W) => follow_any a2 c2 o P o.length L.length q rfl W w.heap.size (Nat.le_trans hWc.size h.size) (HR2.out.below (hWc.trans (h.mono hWc.size))) (Nat.le_trans HOL.out (by omega)) (HD5.out.m.below h HD5.out.m.lt) hL (fun p hp => by
                have := HHS.out.out (i := k) (by rw [HLN.out]; exact hlt) (t := p) (by unfold outAt; rw [EN.out]; exact hp)
                rwa [HLN.out] at this))
              have HTL : Hid (T.length ≤ k) := Lib.hid (by
                have h1 := congrArg List.length HT.out
                rw [pns_len, dropN_len] at h1
                have := toN_le P k
                omega)
              obtain ⟨n0i, ni, nz0, nz1, nz2⟩ := info_parts Try.info62g
              have bd : Below wc.heap.size wc wc.drew := (Below.refl _ _).drew
              obtain ⟨⟨d0, d1, d2⟩, d3, d4⟩ := HCL.out _ bd
              clear HD4 HOR HXN cm cs1 HBX HR1 HR2 bW hm hgone hWc HN8
              go_upto_region 13 with fail
              refine region_last2 (S := fun w' => w'.cell? ⟨gx, 0, none⟩ = some (.int .u64 id) ∧ w'.cell? ⟨gx, 1, none⟩ = some (.slice a1 v.length c1) ∧ w'.cell? ⟨gx, 2, none⟩ = some (.slice a2 o.length c2) ∧ w'.cell? ⟨b, 0, none⟩ = some (.slice OA T.length oc)) 15 ⟨none, .store 22 (.tmp 63) (.tmp 62), _, _, _, _⟩ (by kernel_rfl) rfl rfl (by kernel_rfl) (by kernel_rfl) ⟨d0, d1, d2, d3⟩ (fun hHeld => ?_)
              simp only [List.setIfInBounds_toArray, List.set_cons_zero, List.set_cons_succ]
              refine wpAnyH_take (i := 0) (v := .pointer (some ⟨b, 0, none⟩)) rfl (by kernel_rfl) (by kernel_rfl) (by kernel_rfl) (fun _ _ _ h => h) (Or.inl ⟨by rfl, ?_⟩) (by assumption) ?_
              · intro w' hSw
                obtain ⟨t0, t1, t2, t3⟩ := hSw
                go_simp
              simp only [Act.put, List.setIfInBounds_toArray]
              refine wpAnyH_take (i := 1) (v := .slice OA T.length oc) rfl (by kernel_rfl) (by kernel_rfl) (by kernel_rfl) (fun _ _ _ h => h) (Or.inl ⟨by rfl, ?_⟩) (by assumption) ?_
              · intro w' hSw
                obtain ⟨t0, t1, t2, t3⟩ := hSw
                go_simp
              simp only [Act.put]
              refine wpAnyH_take (i := 2) (v := .pointer (some ⟨gx, 0, none⟩)) rfl (by kernel_rfl) (by kernel_rfl) (by kernel_rfl) (fun _ _ _ h => h) (Or.inl ⟨by rfl, ?_⟩) (by assumption) ?_
              · intro w' hSw
                obtain ⟨t0, t1, t2, t3⟩ := hSw
                go_simp
              simp only [Act.put]
              refine wpAnyH_take (i := 3) (v := .int .u64 id) rfl (by kernel_rfl) (by kernel_rfl) (by kernel_rfl) (fun _ _ _ h => h) (Or.inl ⟨by rfl, ?_⟩) (by assumption) ?_
              · intro w' hSw
                obtain ⟨t0, t1, t2, t3⟩ := hSw
                go_simp
              simp only [Act.put]
              refine wpAnyH_take (i := 4) (v := .pointer (some ⟨gx, 1, none⟩)) rfl (by kernel_rfl) (by kernel_rfl) (by kernel_rfl) (fun _ _ _ h => h) (Or.inl ⟨by rfl, ?_⟩) (by assumption) ?_
              · intro w' hSw
                obtain ⟨t0, t1, t2, t3⟩ := hSw
                go_simp
              simp only [Act.put]
              refine wpAnyH_take (i := 5) (v := .slice a1 v.length c1) rfl (by kernel_rfl) (by kernel_rfl) (by kernel_rfl) (fun _ _ _ h => h) (Or.inl ⟨by rfl, ?_⟩) (by assumption) ?_
              · intro w' hSw
                obtain ⟨t0, t1, t2, t3⟩ := hSw
                go_simp
              simp only [Act.put]
              refine wpAnyH_take (i := 7) (v := .pointer (some ⟨gx, 2, none⟩)) rfl (by kernel_rfl) (by kernel_rfl) (by kernel_rfl) (fun _ _ _ h => h) (Or.inl ⟨by rfl, ?_⟩) (by assumption) ?_
              · intro w' hSw
                obtain ⟨t0, t1, t2, t3⟩ := hSw
                go_simp
              simp only [Act.put]
              refine wpAnyH_take (i := 8) (v := .slice a2 o.length c2) rfl (by kernel_rfl) (by kernel_rfl) (by kernel_rfl) (fun _ _ _ h => h) (Or.inl ⟨by rfl, ?_⟩) (by assumption) ?_
              · intro w' hSw
                obtain ⟨t0, t1, t2, t3⟩ := hSw
                go_simp
              simp only [Act.put]
              refine wpAnyH_take (i := 9) (v := .slice (some ⟨q, 0, none⟩) L.length L.length) rfl (by kernel_rfl) (by kernel_rfl) (by kernel_rfl) (fun _ _ _ h => h) (Or.inl ⟨by rfl, ?_⟩) (by assumption) ?_
              · intro w' hSw
                obtain ⟨t0, t1, t2, t3⟩ := hSw
                go_simp
              simp only [Act.put]
              refine wpAnyH_ready (rs := [6]) (by kernel_rfl) (by simp) ?_
              refine AllReadyH.cons rfl (fun K hK => ?_) AllReadyH.nil
              go_simp
              go_at_call 23
              refine (HC1.out _ bd).mono ?_
              rintro e w5 ⟨xa, xc, rfl, hv5, b5⟩
              have b5' : Below wc.heap.size wc w5 := bd.trans b5
              obtain ⟨⟨k0, k1, k2⟩, k3, k4⟩ := HCL.out w5 b5'
              refine hK.out _ _ ?_ (fun hHeld => ?_)
              · exact ⟨k0, k1, k2, k3⟩
              clear hK K
              try simp only [Act.put, List.setIfInBounds_toArray, List.set_cons_zero, List.set_cons_succ]
              refine wpAnyH_ready (rs := [10]) (by kernel_rfl) (by simp) ?_
              refine AllReadyH.cons rfl (fun K hK => ?_) AllReadyH.nil
              go_simp
              go_at_call 24
              refine (HF1.out _ b5').mono ?_
              rintro e w6 ⟨ya, yc, rfl, ho6, b6⟩
              have b6' : Below wc.heap.size wc w6 := b5'.trans (b6.mono b5'.size)
              obtain ⟨⟨m0, m1, m2⟩, m3, m4⟩ := HCL.out w6 b6'
              refine hK.out _ _ ?_ (fun hHeld => ?_)
              · exact ⟨m0, m1, m2, m3⟩
              clear hK K
              try simp only [Act.put, List.setIfInBounds_toArray, List.set_cons_zero, List.set_cons_succ]
              refine wpAnyH_take (i := 11) (v := .agg #[.int .u64 id, .slice xa v.length xc, .slice ya (keepO P o).length yc]) rfl (by kernel_rfl) (by kernel_rfl) (by kernel_rfl) (fun _ _ _ h => h) (Or.inl ⟨by rfl, ?_⟩) (by assumption) ?_
              · intro w' hSw
                obtain ⟨t0, t1, t2, t3⟩ := hSw
                go_simp
              simp only [Act.put, List.setIfInBounds_toArray]
              have b7 : Below wc.heap.size wc (w6.alloc (.cells #[.int .u64 id, .slice xa v.length xc, .slice ya (keepO P o).length yc] 62)) := below_one b6' _
              obtain ⟨⟨p0, p1, p2⟩, p3, p4⟩ := HCL.out _ b7
              refine wpAnyH_ready (rs := [12]) (by kernel_rfl) (by simp) ?_
              refine AllReadyH.cons rfl (fun K hK => ?_) AllReadyH.nil
              go_simp
              refine hK.out _ _ ?_ (fun hHeld => ?_)
              · exact ⟨p0, p1, p2, p3⟩
              clear hK K
              try simp only [Act.put, List.setIfInBounds_toArray, List.set_cons_zero, List.set_cons_succ]
              have hTk := HTL.out
              have hbw : b + 1 ≤ wc.heap.size := by have := HX5.out.lt; omega
              refine wpAnyH_ready (rs := [13]) (by kernel_rfl) (by simp) ?_
              refine AllReadyH.cons rfl (fun K hK => ?_) AllReadyH.nil
              refine step_append_lies _ (by rfl) (.tmp 50) (.tmp 61) _ (by rfl) (b + 1) 62 n0i (.agg #[.int .u64 0, .slice none 0 0, .slice none 0 0]) 3 56 Try.underlying22 ni nz0 nz1 nz2 rfl (by omega) (.slice OA T.length oc) T.length (flatG T) (by rfl) (own_below HO5.out.own.row b7) ⟨w6.heap.size, 0, none⟩ 1 1 [.int .u64 id, .slice xa v.length xc, .slice ya (keepO P o).length yc] (by rfl) (by rfl) (World.news_of_block (cs := #[.int .u64 id, .slice xa v.length xc, .slice ya (keepO P o).length yc]) (t := 62) (fr := (0, 0)) (heap_alloc_new w6 _)) (by simp [Value.oneCell']) (by omega) (by unfold maxLen; omega) (by omega) (Nat.le_trans hbw b7.size) (w6.heap.size + 1) (by simp) ?_
              intro gg gcap w8 hown8 hgrow8 hat8 hlt8
              have hbk : ∀ k, (Value.slice OA T.length oc).ownBlock = some k → b + 1 ≤ k := fun k hk => (HO5.out.own.row.lt k hk).1
              have cb8 := (whole_grown (HD5.out.ob.below b7 HD5.out.ob.lt) hgrow8 hbk (Nat.lt_succ_self _))
              have z8 : Whole w8 gx 62 #[.int .u64 id, .slice a1 v.length c1, .slice a2 o.length c2] := (hgrow8.block gx (Nat.lt_of_lt_of_le HX5.out.lt b7.size) (fun e => by have := HO5.out.ro gx e.symm; omega)).trans (HX5.out.below b7 HX5.out.lt)
              have cb8c : w8.cell? ⟨b, 0, none⟩ = some (.slice OA T.length oc) := cb8.cell 0
              have cb8f := cb8.frozen 0
              refine hK.out _ _ ?_ (fun hHeld => ?_)
              · exact ⟨z8.cell 0, z8.cell 1, z8.cell 2, cb8c⟩
              clear hK K
              try simp only [Act.put, List.setIfInBounds_toArray]
              refine wpAnyH_take (i := 14) (v := .pointer (some ⟨b, 0, none⟩)) rfl (by kernel_rfl) (by kernel_rfl) (by kernel_rfl) (fun _ _ _ h => h) (Or.inl ⟨by rfl, ?_⟩) (by assumption) ?_
              · intro w' hSw
                obtain ⟨t0, t1, t2, t3⟩ := hSw
                go_simp
              simp only [Act.put]
              refine wpAnyH_take (i := 15) (v := undef) rfl (by kernel_rfl) (by kernel_rfl) (by kernel_rfl) (fun _ _ _ h => h) (Or.inr ⟨by rfl, rfl⟩) (by assumption) ?_
              try simp only [Act.put]
              refine wpAnyH_done (by kernel_rfl) ?_ _
              simp only [Exit.then]
              refine wpOp_step (o := ⟨none, .store 22 (.tmp 63) (.tmp 62), _, _, _, _⟩) rfl (fun K hK => ?_)
              go_simp
              refine hK _ _ ?_
              clear hK K
              try simp only [Act.put, List.setIfInBounds_toArray, List.set_cons_zero, List.set_cons_succ]
              have HDN := Lib.hid (((HD5.out.below (b6'.mono (Nat.le_refl _))).next (x := (id, (xa, xc, v), (ya, yc, keepO P o))) (gy := wc.heap.size) hgq hqb (own_base (own_below hv5 b6) (Nat.le_refl _)) (own_base ho6 b5'.size) hbw ⟨HO5.out.own.below b6', fun g hg => Nat.lt_trans (HO5.out.ro g hg) HX5.out.lt, fun x hx g hg => Nat.lt_trans (HO5.out.rv x hx g hg) HX5.out.lt, fun x hx g hg => Nat.lt_trans (HO5.out.ru x hx g hg) HX5.out.lt⟩ _ hown8 hgrow8))
              have HTN : Hid (pns (T ++ [(id, (xa, xc, v), (ya, yc, keepO P o))]) = dropN (pns L) P (k + 1)) := Lib.hid (by rw [pns_snoc, HT.out, dropN_no hgf, EN.out]; rfl)
              clear hown8 hgrow8 hat8 hlt8 cb8 z8 cb8c cb8f b7 p0 p1 p2 p3 p4 m0 m1 m2 m3 m4 k0 k1 k2 k3 k4 d0 d1 d2 d3 d4 hbk n0 n1 n2 cb0
              clear hTk hbw hbx hqb hgq
              go_wp2
              exact ⟨⟨k + 1, some ⟨gg, 0, none⟩, gcap, _, by omega, by go_num, HDN, HTN⟩, by simp [intOf]; omega⟩
        · obtain rfl : k = L.length := by omega
          have e1 : decide ((L.length : Int) < (L.length : Int)) = false := decide_eq_false (by omega)
          have EA := Lib.hid (show dropA (pns L) s P = dropN (pns L) P L.length by unfold dropA; rw [EB.out, decide_eq_true HOK.out, HLN.out]; rfl)
          have EB2 := Lib.hid (show dropB (pns L) s P = true by rw [EB.out]; exact decide_eq_true HOK.out)
          have ES := Lib.hid (show dropS (pns L) s P = stK P s L.length by
            unfold dropS stK
            rw [EB2.out, HLN.out, Bool.true_and]
            by_cases h0 : 0 < L.length
            · have hst := HHS.out.start (by rw [HLN.out]; exact h0)
              rw [HLN.out] at hst
              rw [decide_eq_true h0, Bool.true_and]
              cases goneAt P s.toNat with
              | true => rw [if_neg (by simp), if_neg (by simp)]
              | false => rw [if_pos (by simp), if_pos ⟨hst.2, rfl⟩]
            · rw [decide_eq_false h0, Bool.false_and, if_neg (by simp), if_neg (fun h => by have h1 := HHS.out.2.1; have h2 := h.1; omega)])
          have k0 := HD.out.ob.cell 0
          have k1 := HD.out.ob.cell 1
          have r0 := HD.out.rs.cell 0
          have r1 := HD.out.rs.cell 1
          have f0 := HD.out.rs.frozen 0
          have f1 := HD.out.rs.frozen 1
          obtain ⟨ST, eST⟩ : ∃ ST, stK P s L.length = ST := ⟨_, rfl⟩
          rw [eST] at HD ES k1
          have HOW := Lib.hid ((HD.out.ow.set (b := g + 1) (by omega) 0 (.slice OA T.length oc)).set (b := g + 1) (by omega) 1 (.int .i64 ST))
          have HBE := Lib.hid ((HD.out.bel.setCell (p := ⟨g + 1, 0, none⟩) (Nat.le_succ _) (.slice OA T.length oc)).setCell (p := ⟨g + 1, 1, none⟩) (Nat.le_succ _) (.int .i64 ST))
          have HGQ := Lib.hid (show w.heap.size ≤ b + 1 by rw [HG.out]; omega)
          clear eST
          go_wp2
          rw [EB2.out, EA.out, ES.out]
          refine bodyPost_ret (v := .tuple #[.agg #[.slice OA T.length oc, .int .i64 ST], .int .i64 0]) (by rw [resCellH rfl]; go_simp) rfl ?_
          exact ⟨OA, oc, T, rfl, HOW.out.base HGQ.out, HT.out, by rw [HG.out]; exact HBE.out⟩
end Go.Proofs.Ytkmngbkghgelfaa
