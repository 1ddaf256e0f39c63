/- The walk of the program's stepsFrom: nodes that are come to wait in a channel. -/
import Derived.Test.YtjdidlbmgnfcdaaKj
import Derived.Test.YtjdidlbmgnfcdaaCh
import Derived.Deep.Cut
namespace Go.Proofs.Ytjdidlbmgnfcdaa
open Go.RowKit Go.Conc
set_option linter.unusedVariables false
/-- How much was taken out of a channel. -/
def takenOf (W : World) (c : Nat) : Nat := match W.heap[c]? with
  | some (.chan _ _ _ _ r _) => r
  | _ => 0
/-- The steps so far, and the channel with those that wait. -/
structure ChSt (w : World) (g c n : Nat) (H : List Int) (B : List Value) (cl : Bool) (r : Nat) (W : World) : Prop where
  bel : Below w.heap.size w W
  h : Whole W g 3 (cellsI H)
  ch : ∃ s, W.heap[c]? = some (.chan n B.toArray cl s r false)
  hl : H.length = n
  gb : w.heap.size ≤ g
  gc : g < c
theorem ChSt.taken {w W : World} {g c n r : Nat} {H : List Int} {B : List Value} {cl : Bool} (t : ChSt w g c n H B cl r W) : takenOf W c = r := by
  obtain ⟨s, h⟩ := t.ch
  unfold takenOf
  rw [h]
theorem ChSt.clt {w W : World} {g c n r : Nat} {H : List Int} {B : List Value} {cl : Bool} (t : ChSt w g c n H B cl r W) : c < W.heap.size := by
  obtain ⟨s, h⟩ := t.ch
  exact (Array.getElem?_eq_some_iff.1 h).1
theorem ChSt.setH {w W : World} {g c n r : Nat} {H : List Int} {B : List Value} {cl : Bool} (t : ChSt w g c n H B cl r W) (i : Nat) (v : Int) : ChSt w g c n (H.set i v) B cl r (W.setCell ⟨g, i, none⟩ (.int .i64 v)) := by
  obtain ⟨s, h⟩ := t.ch
  exact ⟨t.bel.setCell (p := ⟨g, i, none⟩) t.gb _, by rw [← cellsI_set]; exact t.h.set i _, ⟨s, (heap_setCell_other W ⟨g, i, none⟩ c _ (by have := t.gc; show c ≠ g; omega)).trans h⟩, by rw [List.length_set]; exact t.hl, t.gb, t.gc⟩
theorem ChSt.chan {w W : World} {g c n r r' s' : Nat} {H : List Int} {B : List Value} {cl : Bool} (t : ChSt w g c n H B cl r W) (B' : Array Value) (cl' : Bool) : ChSt w g c n H B'.toList cl' r' (W.setChan c n B' cl' s' r' false) :=
  ⟨below_setChan t.bel (by have := t.gb; have := t.gc; omega) _ _ _ _ _ _, by
    have := t.gc
    show (W.heap.setIfInBounds c _)[g]? = _
    rw [Array.getElem?_setIfInBounds_ne (by omega)]; exact t.h, ⟨s', heap_setChan W c n B' cl' s' r' false t.clt⟩, t.hl, t.gb, t.gc⟩
theorem ChSt.below {w W W' : World} {g c n r : Nat} {H : List Int} {B : List Value} {cl : Bool} (t : ChSt w g c n H B cl r W) (hb : Below W.heap.size W W') : ChSt w g c n H B cl r W' := by
  obtain ⟨s, h⟩ := t.ch
  exact ⟨t.bel.trans (hb.mono t.bel.size), t.h.below hb t.h.lt, ⟨s, (hb.block c t.clt).trans h⟩, t.hl, t.gb, t.gc⟩
theorem takenOf_drew (W : World) (c q : Nat) : takenOf (W.drewN q) c = takenOf W c := by
  have := (below_drewN (Below.refl (c + 1) W) q).block c (by omega)
  unfold takenOf; rw [this]
theorem Try.info3chan : ∃ i, Try.prog.info? 3 = some i ∧ i.bytes = 8 := by
  have h : (Try.prog.info? 3).map (·.bytes) = some 8 := by kernel_rfl
  obtain ⟨i, hi, hb⟩ := Option.map_eq_some_iff.1 h
  exact ⟨i, hi, hb⟩
theorem mkChan (w : World) (n : Nat) (hn : n ≤ 2048) : (Instr.makeChan 96 (.int .i64 (n : Int))).run Try.prog w = .ok (.chan (some w.heap.size)) (w.alloc (.chan n #[] false 0 0 false)) := by
  obtain ⟨i, hi, hb⟩ := Try.info3chan
  exact run_makeChan (P := Try.prog) (w := w) Try.underlying96 hi .i64 n (by omega) (by rw [hb]; omega)
/-- What slices.Repeat gives at one number below 0. -/
def RepeatSpec : Prop := ∀ (n : Nat), 1 ≤ n → n ≤ 2048 → ∀ (gx : Nat) (w : World), Whole w gx 3 #[.int .i64 (-1)] →
    Calls Try.prog 63 #[.slice (some ⟨gx, 0, none⟩) 1 1, .int .i64 (n : Int)] w fun e w' => ∃ g, e = .returned (.slice (some ⟨g, 0, none⟩) n n) ∧ w.heap.size ≤ g ∧ Whole w' g 3 (cellsI (List.replicate n (-1))) ∧ Below w.heap.size w w'
set_option maxRecDepth 100000 in
set_option maxHeartbeats 4000000 in
theorem steps_any (HR : RepeatSpec) (A : Option Addr) (c : Nat) (L : List Gn) (sN : Nat) (w : World) (D : Nat) (hD : D ≤ w.heap.size) (hx : RdG w D A L) (hh : holdsB (pns L) (sN : Int) = true) (hn : 0 < L.length) (hs : ∀ x ∈ pns L, x.2.2.length ≤ 20000) :
    Calls Try.prog 45 #[.int .i64 (sN : Int), .slice A L.length c] w fun e w' => ∃ g, e = .returned (.slice (some ⟨g, 0, none⟩) L.length L.length) ∧ w.heap.size ≤ g ∧ Whole w' g 3 (cellsI (hopsL (pns L) (sN : Int))) ∧ Below w.heap.size w w' := by
  have HH := holdsB_yes hh
  have hL : L.length ≤ 2048 := by have := HH.1; rwa [pns_len] at this
  have HXW := Lib.hid hx
  have HSM := Lib.hid hs
  have HL := Lib.hid (pns_len L)
  have HHS := Lib.hid HH
  have hst := HH.start (by rw [pns_len]; exact hn)
  rw [pns_len] at hst
  have hsN : sN < L.length := by omega
  have HRS := Lib.hid (HR L.length hn hL)
  have hmk := fun W => mkChan W L.length hL
  have x1 : (0 : Int) ≤ (sN : Int) := by omega
  have x2 : (sN : Int) < (L.length : Int) := by omega
  have B1 : Below w.heap.size w (w.alloc (.cells #[.int .i64 (-1)] 3)) := below_one (Below.refl _ _) _
  have R1 : Hid (Whole (w.alloc (.cells #[.int .i64 (-1)] 3)) w.heap.size 3 #[.int .i64 (-1)]) := Lib.hid (Whole.new w 3 _)
  have HB1 := Lib.hid B1
  clear hx hh HH hs hst B1
  go_enter Try.func45, Try.ntmps45
  go_upto_region 3 with (go_at_call 63; refine (HRS.out _ _ R1.out).mono ?_; rintro e w1 ⟨g, rfl, hg, hW, hb⟩)
  have hg0 : w.heap.size + 1 ≤ g := by rw [World.size_alloc] at hg; exact hg
  have hb1 : Below w.heap.size w w1 := HB1.out.trans (hb.mono HB1.out.size)
  have st0 : ChSt w g w1.heap.size L.length (List.replicate L.length (-1)) [] false 0 (w1.alloc (.chan L.length #[] false 0 0 false)) := ⟨below_one hb1 _, hW.alloc _, ⟨0, heap_alloc_new _ _⟩, by simp, by omega, hW.lt⟩
  obtain ⟨w2, ew2⟩ : ∃ w2, w1.alloc (.chan L.length #[] false 0 0 false) = w2 := ⟨_, rfl⟩
  obtain ⟨cc, ecc⟩ : ∃ cc, w1.heap.size = cc := ⟨_, rfl⟩
  rw [ecc, ew2] at st0
  rw [ecc, ew2]
  clear ew2 ecc hg hW hb hb1 hmk HB1 R1
  have c1 : w2.cell? ⟨g, sN, none⟩ = some (.int .i64 (hAt (List.replicate L.length (-1)) sN)) := (st0.h.cell sN).trans (cellsI_at (by simpa using hsN))
  have f1 := st0.h.frozen sN
  have n1 := st0.setH sN 0
  have HB : Hid (Bfs (pns L) sN ((List.replicate L.length (-1)).set sN 0) [sN] 0 0) := Lib.hid (by
    have := Bfs.begin_ (G := pns L) (s := sN) (by rw [HL.out]; exact hsN)
    rw [HL.out] at this
    exact this)
  have HN := Lib.hid n1
  clear n1 st0
  go_upto_region 4 with fail
  clear c1 f1
  refine RegTo.region ?_
  refine RegTo.move (o := ⟨some 21, .move (.tmp 6), _, _, _, _⟩) rfl rfl rfl ?_
  refine RegTo.move (o := ⟨some 22, .move (.tmp 0), _, _, _, _⟩) rfl rfl rfl ?_
  go_simp
  obtain ⟨w3, ew3⟩ : ∃ w3, w2.setCell ⟨g, sN, none⟩ (.int .i64 0) = w3 := ⟨_, rfl⟩
  rw [ew3] at HN ⊢
  clear ew3
  obtain ⟨s0, hs0⟩ := HN.out.ch
  refine RegTo.send (o := ⟨none, .send (.tmp 21) (.tmp 22), _, _, _, _⟩) (c := cc) (v := .int .i64 (sN : Int)) (z := .tuple #[]) (w₁ := w3) rfl rfl (by simp [execOp, scase, Act.eval]) hs0 (by simp; omega) ?_
  refine RegTo.done ?_
  have n4 := HN.out.chan (r' := 0) (s' := s0 + 1) #[.int .i64 (sN : Int)] false
  go_simp
  obtain ⟨w4, ew4⟩ : ∃ w4, w3.setChan cc L.length #[.int .i64 (sN : Int)] false (s0 + 1) 0 false = w4 := ⟨_, rfl⟩
  rw [ew4] at n4 ⊢
  have HS4 : Hid (ChSt w g cc L.length ((List.replicate L.length (-1)).set sN 0) (qv ([sN].drop 0)) false 0 w4) := Lib.hid n4
  clear ew4 n4 hs0 HN
  go_wp2
  go_loopw [7, 8, 10] (fun l _ _ wz => ∃ (at_ : Nat) (H : List Int) (Q : List Nat), at_ ≤ Q.length ∧ l = .int .i64 ((Q.length - at_ : Nat) : Int) ∧ Hid (Bfs (pns L) sN H Q at_ 0) ∧ Hid (ChSt w g cc L.length H (qv (Q.drop at_)) (decide (at_ = Q.length)) at_ wz)) (fun _ _ _ wz => L.length + 1 - takenOf wz cc)
  case atStart => exact ⟨0, _, [sN], Nat.zero_le _, rfl, HB, HS4⟩
  case round =>
    clear HB HS4
    obtain ⟨at_, H, Q, hal, rfl, HB, HS⟩ := hrel
    have hql : Q.length ≤ L.length := by have := HB.out.qlen; rwa [HL.out] at this
    by_cases hat : at_ < Q.length
    · have hcl0 : decide (at_ = Q.length) = false := decide_eq_false (by omega)
      obtain ⟨cN, ecN⟩ : ∃ cN, qAt Q at_ = cN := ⟨_, rfl⟩
      have hcN : cN < L.length := by rw [← ecN, ← HL.out]; exact HB.out.ql _ (qAt_mem hat)
      have HC := Lib.hid ecN
      have ed0 : Q.drop at_ = cN :: Q.drop (at_ + 1) := by
        rw [List.drop_eq_getElem_cons hat, ← ecN]
        unfold qAt
        simp [List.getElem?_eq_getElem hat]
      have ed : qv (Q.drop at_) = .int .i64 (cN : Int) :: qv (Q.drop (at_ + 1)) := by rw [ed0]; rfl
      clear ed0
      rw [hcl0, ed] at HS
      obtain ⟨s1, hs1⟩ := HS.out.ch
      have HS1 := Lib.hid hs1
      clear hcl0 ecN ed hs1
      go_upto_region 7 with fail
      refine RegTo.region ?_
      refine RegTo.recv (o := ⟨some 24, .recv 96 (.tmp 23) true, _, _, _, _⟩) (c := cc) (z := .int .i64 0) (ok := true) (w₁ := wr) rfl rfl (by simp [go_sem, rcase]) HS1.out (by simp) ?_
      refine RegTo.value (o := ⟨some 25, .extract (.tmp 24) 1, _, _, _, _⟩) (v := .bool true) (w₁ := wr.setChan cc L.length ((Value.int .i64 (cN : Int) :: qv (Q.drop (at_ + 1))).toArray.extract 1 (Value.int .i64 (cN : Int) :: qv (Q.drop (at_ + 1))).toArray.size) false s1 (at_ + 1) false) rfl rfl (by go_simp; simp [got]) ?_
      refine RegTo.done ?_
      have hx0 : (Value.int .i64 (cN : Int) :: qv (Q.drop (at_ + 1))).toArray.extract 1 (Value.int .i64 (cN : Int) :: qv (Q.drop (at_ + 1))).toArray.size = (qv (Q.drop (at_ + 1))).toArray := by simp
      have n5 := HS.out.chan (r' := at_ + 1) (s' := s1) (qv (Q.drop (at_ + 1))).toArray false
      rw [hx0]
      have e9 : got true ((Value.int .i64 (cN : Int) :: qv (Q.drop (at_ + 1))).toArray.getD 0 undef) true = .tuple #[.int .i64 (cN : Int), .bool true] := by simp [got]
      rw [e9]
      go_simp
      obtain ⟨w5, ew5⟩ : ∃ w5, wr.setChan cc L.length (qv (Q.drop (at_ + 1))).toArray false s1 (at_ + 1) false = w5 := ⟨_, rfl⟩
      rw [ew5] at n5 ⊢
      have HS5 : Hid (ChSt w g cc L.length H (qv (Q.drop (at_ + 1))) false (at_ + 1) w5) := Lib.hid n5
      have HTK : Hid (takenOf wr cc = at_) := Lib.hid HS.out.taken
      obtain ⟨b, off, id', a1, c1, v, a2, c2, o, rfl, hBb, h1, h2, h3, hr1, hr2, hv⟩ := HXW.out.at_ hcN
      have bW : Below D w w5 := n5.bel.mono hD
      have h3' : w5.cell? ⟨b, off + cN * 3 + 2, none⟩ = some (.slice a2 o.length c2) := (bW.cell (p := ⟨b, off + cN * 3 + 2, none⟩) hBb).trans h3
      have EO := Lib.hid (show outAt (pns L) cN = o by unfold outAt; rw [nAt_get (pns_at hv.out)])
      have HRD := Lib.hid hr2
      have hol : o.length ≤ 20000 := HSM.out _ (List.mem_of_getElem? (pns_at hv.out))
      have y3 : (0 : Int) ≤ (cN : Int) := by omega
      have y4 : (cN : Int) < (L.length : Int) := by omega
      have C0 : Hid (qAt Q at_ = cN ∧ at_ < Q.length) := Lib.hid ⟨HC.out, hat⟩
      clear ew5 n5 hx0 e9 HS1 HS hv hr1 hr2 h1 h2 h3 bW HC
      go_wp2
      clear h3'
      go_loopw [7, 10, 33] (fun l _ i wz => ∃ (k : Nat) (H : List Int) (Q : List Nat), k ≤ o.length ∧ i = .int .i64 k ∧ l = .int .i64 ((Q.length - at_ : Nat) : Int) ∧ Hid (qAt Q at_ = cN ∧ at_ < Q.length) ∧ Hid (Bfs (pns L) sN H Q at_ k) ∧ Hid (ChSt w g cc L.length H (qv (Q.drop (at_ + 1))) false (at_ + 1) wz)) (fun _ _ i _ => o.length - (intOf i).toNat)
      case atStart => exact ⟨0, H, Q, Nat.zero_le _, rfl, rfl, C0, HB, HS5⟩
      case round =>
        clear C0 HB HS5 hal hat hql
        obtain ⟨k, H, Q, hk, rfl, rfl, HC, HB, HS⟩ := hrel
        have hql : Q.length ≤ L.length := by have := HB.out.qlen; rwa [HL.out] at this
        have hat := HC.out.2
        by_cases hlt : k < o.length
        · have g1 : decide ((k : Int) < (o.length : Int)) = true := decide_eq_true (by omega)
          obtain ⟨bo, oo, t, rfl, hBo, hco, hvo⟩ := HRD.out.at_ hlt
          have et : (outAt (pns L) (qAt Q at_))[k]? = some t := by rw [HC.out.1, EO.out, ← hvo.out, List.getElem?_eq_getElem hlt]; rfl
          have htr := HHS.out.out (i := qAt Q at_) (by rw [HC.out.1, HL.out]; exact hcN) (List.mem_of_getElem? et)
          rw [HL.out] at htr
          obtain ⟨tN, rfl⟩ := Int.eq_ofNat_of_zero_le htr.1
          have htN : tN < L.length := by omega
          have bW : Below D w wr := HS.out.bel.mono hD
          have co' : wr.cell? ⟨bo, oo + k, none⟩ = some (.int .i64 (tN : Int)) := (bW.cell (p := ⟨bo, oo + k, none⟩) hBo).trans hco
          have ch : wr.cell? ⟨g, tN, none⟩ = some (.int .i64 (hAt H tN)) := (HS.out.h.cell tN).trans (cellsI_at (by rw [HS.out.hl]; exact htN))
          have z1 : (0 : Int) ≤ (k : Int) := by omega
          have z2 : (k : Int) < (o.length : Int) := by omega
          have z3 : (0 : Int) ≤ (tN : Int) := by omega
          have z4 : (tN : Int) < (L.length : Int) := by omega
          have ET := Lib.hid et
          have HT1 : Hid ((0 : Int) ≤ (tN : Int) ∧ (tN : Int) < ((pns L).length : Int)) := Lib.hid ⟨z3, by rw [HL.out]; exact z4⟩
          clear hvo hco bW et htr
          by_cases hneg : hAt H tN < 0
          · have hm1 : hAt H tN = -1 := by
              by_cases hmem : tN ∈ Q
              · obtain ⟨d, hd, -⟩ := HB.out.snd _ hmem
                omega
              · exact HB.out.no tN (by rw [HL.out]; exact htN) hmem
            have q1 : (hAt H tN == -1) = true := beq_iff_eq.2 hm1
            obtain ⟨hT, ehT⟩ : ∃ hT, hAt H tN = hT := ⟨_, rfl⟩
            have hcb := HB.out.bd _ (qAt_mem hat)
            rw [HC.out.1] at hcb
            obtain ⟨dC, hdC, -⟩ := HB.out.snd _ (qAt_mem hat)
            rw [HC.out.1] at hdC
            obtain ⟨hC, ehC⟩ : ∃ hC, hAt H cN = hC := ⟨_, rfl⟩
            have hc0 : 0 ≤ hC := by rw [← ehC, hdC]; omega
            rw [ehC] at hcb
            have wk : IntKind.i64.wrap (hC + 1) = hC + 1 := by rw [IntKind.wrap_i64]; omega
            have cl : wr.cell? ⟨g, cN, none⟩ = some (.int .i64 hC) := (HS.out.h.cell cN).trans (by rw [cellsI_at (by rw [HS.out.hl]; exact hcN), ehC])
            have fh := HS.out.h.frozen tN
            have HB2 := Lib.hid (HB.out.new hat ET.out HT1.out (by rw [Int.toNat_natCast]; exact hneg))
            rw [HC.out.1, Int.toNat_natCast, ehC] at HB2
            have n6 := HS.out.setH tN (hC + 1)
            have HN6 := Lib.hid n6
            obtain ⟨s6, hs6⟩ := n6.ch
            have HS6 := Lib.hid hs6
            have hroom : (qv (Q.drop (at_ + 1))).toArray.size < L.length := by simp [qv]; omega
            have hbuf : (qv (Q.drop (at_ + 1))).toArray.push (.int .i64 (tN : Int)) = (qv ((Q ++ [tN]).drop (at_ + 1))).toArray := by
              rw [List.drop_append_of_le_length (by omega), qv_snoc]; simp
            have HC2 : Hid (qAt (Q ++ [tN]) at_ = cN ∧ at_ < (Q ++ [tN]).length) := Lib.hid ⟨(qAt_app hat).trans HC.out.1, by rw [List.length_append]; omega⟩
            obtain ⟨lf, elf⟩ : ∃ lf : Int, ((Q.length - at_ : Nat) : Int) = lf := ⟨_, rfl⟩
            have hlf1 : 0 ≤ lf := by rw [← elf]; omega
            have hlf2 : lf ≤ 2048 := by rw [← elf]; omega
            have helf : lf + 1 = (((Q ++ [tN]).length - at_ : Nat) : Int) := by rw [← elf, List.length_append, List.length_singleton]; omega
            have HLF := Lib.hid helf
            have wk2 : IntKind.i64.wrap (lf + 1) = lf + 1 := by rw [IntKind.wrap_i64]; omega
            rw [ehT] at ch q1
            rw [elf]
            clear ehT hneg hm1 hs6 n6 ehC hdC hcb helf elf HB HS HC
            go_upto_region 14 with fail
            clear co' ch cl fh
            refine RegTo.region ?_
            refine RegTo.move (o := ⟨some 50, .move (.tmp 6), _, _, _, _⟩) rfl rfl rfl ?_
            refine RegTo.move (o := ⟨some 51, .move (.tmp 10), _, _, _, _⟩) rfl rfl rfl ?_
            go_simp
            refine RegTo.send (o := ⟨none, .send (.tmp 50) (.tmp 51), _, _, _, _⟩) (c := cc) (v := .int .i64 (tN : Int)) (z := .tuple #[]) (w₁ := wr.setCell ⟨g, tN, none⟩ (.int .i64 (hC + 1))) rfl rfl (by simp [execOp, scase, Act.eval]) HS6.out hroom ?_
            refine RegTo.done ?_
            rw [hbuf]
            have n7 := HN6.out.chan (r' := at_ + 1) (s' := s6 + 1) (qv ((Q ++ [tN]).drop (at_ + 1))).toArray false
            go_simp
            obtain ⟨w7, ew7⟩ : ∃ w7, (wr.setCell ⟨g, tN, none⟩ (.int .i64 (hC + 1))).setChan cc L.length (qv ((Q ++ [tN]).drop (at_ + 1))).toArray false (s6 + 1) (at_ + 1) false = w7 := ⟨_, rfl⟩
            rw [ew7] at n7 ⊢
            have HS7 : Hid (ChSt w g cc L.length (H.set tN (hC + 1)) (qv ((Q ++ [tN]).drop (at_ + 1))) false (at_ + 1) w7) := Lib.hid n7
            clear ew7 n7 HN6 HS6 hroom hbuf
            go_wp2
            go_roundw
            case rel => exact ⟨k + 1, _, Q ++ [tN], by omega, by go_num, by rw [HLF.out], HC2, HB2, HS7⟩
            case measure => simp [intOf]; omega
          · have q1 : (hAt H tN == -1) = false := by rw [beq_eq_false_iff_ne]; omega
            have HB2 := Lib.hid (HB.out.old HC.out.2 ET.out HT1.out (by rw [Int.toNat_natCast]; omega))
            obtain ⟨hT, ehT⟩ : ∃ hT, hAt H tN = hT := ⟨_, rfl⟩
            rw [ehT] at ch q1
            clear ehT hneg
            go_wp2
            go_roundw
            case rel => exact ⟨k + 1, H, Q, by omega, by go_num, rfl, HC, HB2, HS⟩
            case measure => simp [intOf]; omega
        · obtain rfl : k = o.length := by omega
          have g1 : decide ((o.length : Int) < (o.length : Int)) = false := decide_eq_false (by omega)
          have HB2 := Lib.hid (HB.out.next HC.out.2 (by rw [HC.out.1, EO.out]; exact Nat.le_refl _))
          have hal := HC.out.2
          obtain ⟨lf, elf⟩ : ∃ lf : Int, ((Q.length - at_ : Nat) : Int) = lf := ⟨_, rfl⟩
          have hlf1 : 1 ≤ lf := by rw [← elf]; omega
          have hlf2 : lf ≤ 2048 := by rw [← elf]; omega
          have HLF : Hid (lf - 1 = ((Q.length - (at_ + 1) : Nat) : Int)) := Lib.hid (by rw [← elf]; omega)
          have wk2 : IntKind.i64.wrap (lf - 1) = lf - 1 := by rw [IntKind.wrap_i64]; omega
          by_cases hlast : at_ + 1 = Q.length
          · have q1 : (lf - 1 == 0) = true := beq_iff_eq.2 (by rw [← elf]; omega)
            have hd : Q.drop (at_ + 1) = [] := by rw [hlast]; exact List.drop_length
            have hdc : decide (at_ + 1 = Q.length) = true := decide_eq_true hlast
            rw [hd] at HS
            obtain ⟨s8, hs8⟩ := HS.out.ch
            have hclose : ∀ ats ty, (Builtin.close_ ats ty #[.chan (some cc)]).run Try.prog wr = .ok (.tuple #[]) (wr.setChan cc L.length #[] true s8 (at_ + 1) false) := fun ats ty => run_close_open ats ty hs8
            have HS9 : Hid (ChSt w g cc L.length H (qv (Q.drop (at_ + 1))) (decide (at_ + 1 = Q.length)) (at_ + 1) (wr.setChan cc L.length #[] true s8 (at_ + 1) false)) := Lib.hid (by rw [hd, hdc]; exact HS.out.chan #[] true)
            rw [elf]
            clear elf hd hdc hs8 hlast HB HS HC
            go_wp2
            exact ⟨⟨at_ + 1, H, Q, by omega, by rw [HLF.out], HB2, HS9⟩, by rw [HS9.out.taken, HTK.out]; omega⟩
          · have q1 : (lf - 1 == 0) = false := by rw [beq_eq_false_iff_ne, ← elf]; omega
            have hdc : decide (at_ + 1 = Q.length) = false := decide_eq_false hlast
            rw [← hdc] at HS
            rw [elf]
            clear elf hdc hlast HB HC
            go_wp2
            exact ⟨⟨at_ + 1, H, Q, by omega, by rw [HLF.out], HB2, HS⟩, by rw [HS.out.taken, HTK.out]; omega⟩
    · obtain rfl : at_ = Q.length := by omega
      have hcl0 : decide (Q.length = Q.length) = true := decide_eq_true rfl
      rw [hcl0, List.drop_length] at HS
      obtain ⟨s1, hs1⟩ := HS.out.ch
      have HS1 : Hid (wr.heap[cc]? = some (.chan L.length #[] true s1 Q.length false)) := Lib.hid hs1
      clear hcl0 hs1
      go_upto_region 7 with fail
      refine RegTo.region ?_
      refine RegTo.shut (o := ⟨some 24, .recv 96 (.tmp 23) true, _, _, _, _⟩) (c := cc) (z := .int .i64 0) (ok := true) (w₁ := wr) rfl rfl (by simp [go_sem, rcase]) HS1.out ?_
      refine RegTo.value (o := ⟨some 25, .extract (.tmp 24) 1, _, _, _, _⟩) (v := .bool false) (w₁ := wr) rfl rfl (by go_simp; simp [got]) ?_
      refine RegTo.done ?_
      have HE := Lib.hid (show H = hopsL (pns L) (sN : Int) from HB.out.hops)
      go_wp2
      go_ret
      exact ⟨g, rfl, HS.out.gb, by rw [← HE.out]; exact HS.out.h, HS.out.bel⟩
end Go.Proofs.Ytjdidlbmgnfcdaa
