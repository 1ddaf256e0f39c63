/- The walk of the statement VecSorts. -/
import Derived.Test.YtegphnlfhcokfaaRs
import Derived.Test.YtegphnlfhcokfaaBa
namespace Go.Proofs.Ytegphnlfhcokfaa
open Go.RowKit Go.Shelf
set_option linter.unusedVariables false
set_option maxRecDepth 100000 in
set_option maxHeartbeats 400000 in
theorem vecSorts_no (A : Option Addr) (c n : Nat) (w : World) (h : 1000 < n) : Calls Try.prog 4 #[.slice A n c] w fun e w' => e = .returned (.bool true) ∧ Below w.heap.size w w' := by
  have hz : decide (1000 < (n : Int)) = true := decide_eq_true (by omega)
  go_enter Try.func4, Try.ntmps4
  go_wp2
  go_ret
  exact ⟨rfl, Below.refl _ _⟩
theorem hits_any (bk base n : Nat) (A : Option Addr) (len cap : Nat) (sv : Nat → Value) (es : List Bk.Ent) (xs : List Value) (w : World) (hn : n < 1000000) (hb : base ≤ w.heap.size) (hbb : base ≤ bk) (hk : Bk.BookAt w bk n sv)
    (hK : Bk.KIn w base 35 83 2 es Bk.mkHit 0 (sv 10)) (hx : w.ownsRow base 35 2 (.slice A len cap) len xs) (hap : ∀ e' ∈ es, e'.blk = none ∨ e'.blk ≠ (Value.slice A len cap).ownBlock) (hlen : len ≤ 10000000) (hes : es.length < 1000000) :
    Calls Try.prog 23 #[.pointer (some ⟨bk, 0, none⟩), .slice A len cap] w (Bk.Kept 10 83 35 2 Bk.mkHit w bk base n sv (es ++ [⟨A, len, cap, n + 1⟩])) := by
  have H := Lib.hid (Bk.keepHit_any bk base n A len cap sv es xs w hn hb hbb hk hK hx hap hlen hes)
  clear hk hK hx hap
  go_enter Try.func23, Try.ntmps23
  go_wp2_with fail
  refine H.out.mono ?_
  rintro e w' ⟨rfl, h⟩
  go_wp2
  go_end0
  exact ⟨rfl, h⟩
/-- An empty book. -/
def svNil : Nat → Value := fun _ => .slice none 0 0
theorem book_new (w : World) : Bk.BookAt (w.alloc (.cells #[.int .i64 0, .slice none 0 0, .slice none 0 0, .slice none 0 0, .slice none 0 0, .slice none 0 0, .slice none 0 0, .slice none 0 0, .slice none 0 0, .slice none 0 0, .slice none 0 0, .slice none 0 0, .slice none 0 0] 49)) w.heap.size ((0 : Nat) : Int) svNil := heap_alloc_new w _
set_option maxRecDepth 100000 in
set_option maxHeartbeats 4000000 in
theorem vecSorts_yes (A : Option Addr) (c : Nat) (xs : List (Int × Int)) (w : World) (hx : RdH w w.heap.size A xs) (hl : xs.length ≤ 1000) (hc : xs.length ≤ c) (hm : c ≤ 8796093022208) : Calls Try.prog 4 #[.slice A xs.length c] w fun e w' => e = .returned (.bool true) ∧ Below w.heap.size w w' := by
  have mixed : Try.prog.follows .mixedOrders = true := by kernel_rfl
  have hz : decide (1000 < (xs.length : Int)) = false := decide_eq_false (by omega)
  have H16 := Lib.hid (twinHits_any A c xs xs.length rfl w hx (by omega))
  go_enter Try.func4, Try.ntmps4
  go_wp2_with fail
  refine H16.out.mono ?_
  rintro e w1 ⟨rfl, hB1, hownT⟩
  clear H16 hz
  have hrt := rdH_own hownT
  have hrt' : RdH w1 w1.heap.size (some ⟨w.heap.size, 0, none⟩) xs := by have := hrt.take xs.length; simpa using this
  have H17 := Lib.hid (sort_any (some ⟨w.heap.size, 0, none⟩) (xs.length + 1) xs xs.length rfl w1 hrt' (by omega))
  go_wp2_with fail
  refine H17.out.mono ?_
  intro e w2 h2
  obtain ⟨ga, rfl, hWa, hga, hB2⟩ := h2
  have hWa' : Whole w2 ga 35 (flatH (srt xs)).toArray := hWa
  have hB2' := hB1.trans (hB2.mono hB1.size)
  have hrt2 := (hrt'.below hB2).more hB2.size
  have hownT2 := Bk.own_bel hownT hB2
  have hgt : w.heap.size < w1.heap.size := (hownT.lt _ rfl).2
  have H17b := Lib.hid (sort_any (some ⟨w.heap.size, 0, none⟩) (xs.length + 1) xs xs.length rfl w2 hrt2 (by omega))
  clear H17 hWa hrt'
  go_wp2_with fail
  refine H17b.out.mono ?_
  intro e w3 h3
  obtain ⟨gb, rfl, hWb, hgb, hB3⟩ := h3
  have hWb' : Whole w3 gb 35 (flatH (srt xs)).toArray := hWb
  have hB3' := hB2'.trans (hB3.mono hB2'.size)
  have hWa3 := hWa'.below hB3 hWa'.lt
  have hownT3 := Bk.own_bel hownT2 hB3
  have hla : ga < w2.heap.size := hWa'.lt
  have hx3 := (hx.below hB3').more hB3'.size
  have H19 := Lib.hid (refSort_any A c xs xs.length rfl w3 hx3 (by omega))
  clear H17b hWb hrt2 hrt hWa' hownT hownT2
  go_wp2_with fail
  refine H19.out.mono ?_
  intro e w4 h4
  obtain ⟨S, rfl, hownS, hB4⟩ := h4
  obtain ⟨As, cs, rfl, hnS, hrS⟩ := own_sliceH hownS
  have hB4' := hB3'.trans (hB4.mono hB3'.size)
  have hWa4 := hWa3.below hB4 hWa3.lt
  have hWb4 := hWb'.below hB4 hWb'.lt
  have hownT4 := Bk.own_bel hownT3 hB4
  have H18 := Lib.hid (sameTrue (some ⟨ga, 0, none⟩) As xs.length cs (srt xs) xs.length (srt_len xs).symm w4 _ (rdH_whole hWa4) hrS (by rw [srt_len]; omega))
  clear H19 hx3 hownS hnS hWa3 hWb' hownT3 hrS
  go_wp2_with fail
  refine H18.out.mono ?_
  rintro e w5 ⟨rfl, nq, rfl⟩
  have hB5 := below_drewN hB4' nq
  have hWa5 : Whole (w4.drewN nq) ga 35 (flatH (srt xs)).toArray := hWa4
  have hWb5 : Whole (w4.drewN nq) gb 35 (flatH (srt xs)).toArray := hWb4
  have hownT5 : (w4.drewN nq).ownsRow w.heap.size 35 2 (.slice (some ⟨w.heap.size, 0, none⟩) (xs.length + 1) (xs.length + 1)) (xs.length + 1) (flatH (xs ++ [(77, 0)])) := hownT4
  clear H18 hWa4 hWb4 hownT4
  generalize w4.drewN nq = w5 at hB5 hWa5 hWb5 hownT5 ⊢
  have H20 := Lib.hid (leftHits_any (some ⟨w.heap.size, 0, none⟩) A (xs.length + 1) c xs xs.length rfl w5 ((hx.below hB5).more hB5.size) (rdH_own hownT5) hc (by omega) (by omega) (by omega))
  go_wp2_with fail
  refine H20.out.mono ?_
  rintro e w6 ⟨rfl, hB6⟩
  have hB6' := hB5.trans (hB6.mono hB5.size)
  have hWa6 := hWa5.below hB6 hWa5.lt
  have hWb6 := hWb5.below hB6 hWb5.lt
  have hownT6 := Bk.own_bel hownT5 hB6
  clear H20 hWa5 hWb5 hownT5 hB6 hB5 hB4' hB4 hB3' hB3 hB2' hB2 hB1
  have HX := Lib.hid hx
  clear hx
  go_wp2
  go_loopw [6] (fun i wr => ∃ t : Nat, 1 ≤ t ∧ (t ≤ xs.length ∨ t = 1) ∧ i = .int .i64 t ∧ Below w6.heap.size w6 wr) (fun i _ => xs.length - (intOf i).toNat)
  case atStart => exact ⟨1, by omega, by omega, rfl, Below.refl _ _⟩
  case round =>
    obtain ⟨t, ht1, ht, rfl, hB⟩ := hrel
    have hBw := hB6'.trans (hB.mono hB6'.size)
    by_cases hlt : t < xs.length
    · obtain ⟨q, rfl⟩ : ∃ q, t = q + 1 := ⟨t - 1, by omega⟩
      have hxr := (HX.out.below hBw).more hBw.size
      obtain ⟨b, off, x1, x2, rfl, hbl, hc1, hc2, _⟩ := hxr.at_ (i := q + 1) hlt
      obtain ⟨b', off', y1, y2, hA2, _, hd1, hd2, _⟩ := hxr.at_ (i := q) (by omega)
      simp only [Option.some.injEq, Addr.mk.injEq, and_true] at hA2
      obtain ⟨rfl, rfl⟩ := hA2
      have k1 := fun n os => cell_grown (a := ⟨b, off + (q + 1) * 2, none⟩) hbl hc1 n os
      have k2 := fun n os => cell_grown (a := ⟨b, off + (q + 1) * 2 + 1, none⟩) hbl hc2 n os
      have k3 := fun n os => cell_grown (a := ⟨b, off + q * 2, none⟩) hbl hd1 n os
      have k4 := fun n os => cell_grown (a := ⟨b, off + q * 2 + 1, none⟩) hbl hd2 n os
      have HL1 : Hid (∀ n os, Calls Try.prog 21 #[.agg #[.int .u64 y1, .int .i64 y2], .agg #[.int .u64 x1, .int .i64 x2]] (Sort.grow (wr.drewN n) os) fun e w' => e = .returned (.bool (ltH (y1, y2) (x1, x2))) ∧ ∃ q os', w' = Sort.grow ((Sort.grow (wr.drewN n) os).drewN q) os') := fun n os =>
        (less_any y1 y2 x1 x2 (Sort.grow (wr.drewN n) os)).mono fun e w' h => ⟨h.1, 0, by rw [h.2]; exact grow2 _ _ _⟩
      have HL2 : Hid (∀ n os, Calls Try.prog 22 #[.agg #[.int .u64 y1, .int .i64 y2], .agg #[.int .u64 x1, .int .i64 x2]] (Sort.grow (wr.drewN n) os) fun e w' => e = .returned (.bool (ltH (y1, y2) (x1, x2))) ∧ ∃ q os', w' = Sort.grow ((Sort.grow (wr.drewN n) os).drewN q) os') := fun n os =>
        (refLess_any y1 y2 x1 x2 (Sort.grow (wr.drewN n) os)).mono fun e w' h => ⟨h.1, 0, by rw [h.2]; exact grow2 _ _ _⟩
      generalize ltH (y1, y2) (x1, x2) = bb at HL1 HL2
      have hbb : (bb != bb) = false := by cases bb <;> rfl
      have hwp : IntKind.i64.wrap (q : Int) = (q : Int) := by rw [IntKind.wrap_i64]; omega
      have z3 : (q : Int) + 1 < (xs.length : Int) := by omega
      have z4 : (q : Int) < (xs.length : Int) := by omega
      have z5 : (0 : Int) ≤ (q : Int) + 1 := by omega
      have z6 : ((q : Int) + 1).toNat = q + 1 := by omega
      have z7 : (0 : Int) ≤ (q : Int) := by omega
      clear hxr hc1 hc2 hd1 hd2
      go_wp2
      refine wp_region_quiet_grown mixed (by kernel_rfl) ?_
      repeat (go_big_quiet_step (first | (go_at_call 21; with_reducible refine Calls.grown_of (HL1.out _ _)) | (go_at_call 22; with_reducible refine Calls.grown_of (HL2.out _ _))))
      refine wpQuiet_nil ?_
      intro _ hw'
      obtain ⟨⟨nq', osq⟩, hw''⟩ := hw'
      subst hw''
      clear hwp z6
      go_wp2
      go_roundw
      case rel => exact ⟨q + 1 + 1, by omega, by omega, by go_num, hB.trans ((below_grow wr _ _).mono hB.size)⟩
      case measure => simp [intOf]; omega
    · have hWar := hWa6.below hB hWa6.lt
      have hWbr := hWb6.below hB hWb6.lt
      have hownTr := Bk.own_bel hownT6 hB
      have oT := Bk.own_take (c := xs.length) (by omega) hownTr
      have oA := whole_own (base := w.heap.size) (n := xs.length) hWar (by omega) (srt_len xs).symm (by unfold maxLen; omega)
      have oB := whole_own (base := w.heap.size) (n := xs.length) hWbr (by omega) (srt_len xs).symm (by unfold maxLen; omega)
      have hbr := hBw.size
      have hBk := book_new wr
      have hal : Below wr.heap.size wr (wr.alloc (.cells #[.int .i64 0, .slice none 0 0, .slice none 0 0, .slice none 0 0, .slice none 0 0, .slice none 0 0, .slice none 0 0, .slice none 0 0, .slice none 0 0, .slice none 0 0, .slice none 0 0, .slice none 0 0, .slice none 0 0] 49)) := (Below.refl _ _).alloc (Nat.le_refl _) _
      have HT := Lib.hid (Bk.own_bel oT hal)
      have HA := Lib.hid (Bk.own_bel oA hal)
      have HB := Lib.hid (Bk.own_bel oB hal)
      have HBK := Lib.hid hBk
      have hb7 := hBw.trans (hal.mono hbr)
      have hsz7 := hb7.size
      have hbk0 : w.heap.size ≤ wr.heap.size := hbr
      clear hWar hWbr hownTr oT oA oB hBk hWa6 hWb6 hownT6 hB6' hB hBw hal hbr
      go_wp2_with fail
      generalize wr.heap.size = bk at HBK hbk0 ⊢
      generalize wr.alloc (.cells #[.int .i64 0, .slice none 0 0, .slice none 0 0, .slice none 0 0, .slice none 0 0, .slice none 0 0, .slice none 0 0, .slice none 0 0, .slice none 0 0, .slice none 0 0, .slice none 0 0, .slice none 0 0, .slice none 0 0] 49) = w7 at HT HA HB HBK hb7 hsz7 ⊢
      have K0 : Bk.KIn w7 w.heap.size 35 83 2 [] Bk.mkHit 0 (svNil 10) := Bk.KIn.nil _ _ _ _ _ _ _
      refine (hits_any bk w.heap.size 0 _ xs.length (xs.length + 1) svNil [] _ w7 (by omega) hsz7 hbk0 HBK.out K0 HT.out (fun e' he => by simp at he) (by omega) (by simp)).mono ?_
      rintro e w8 ⟨rfl, sv8, hsv8, hk8, hK8, f8⟩
      have HA8 := Lib.hid (Bk.own_frm2 HA.out f8 (by decide) (by decide))
      have HB8 := Lib.hid (Bk.own_frm2 HB.out f8 (by decide) (by decide))
      have hb8 := hb7.trans f8.below
      have hsz8 := hb8.size
      have SV8 := Lib.hid hsv8
      clear HT HA HB HBK K0 f8 hb7 hsz7 hsv8
      have HK8 := Lib.hid (hits_any bk w.heap.size 1 _ xs.length xs.length sv8 _ _ w8 (by omega) hsz8 hbk0 hk8 hK8 HA8.out (fun e' he => by
        simp only [List.nil_append, List.mem_singleton] at he
        subst he
        refine .inr (fun h => ?_)
        have : w.heap.size = ga := by simpa [Bk.Ent.blk, Bk.Ent.val, Value.ownBlock] using h
        omega) (by omega) (by simp))
      clear hk8 hK8 HA8
      go_wp2_with fail
      refine HK8.out.mono ?_
      rintro e w9 ⟨rfl, sv9, hsv9, hk9, hK9, f9⟩
      have HB9 := Lib.hid (Bk.own_frm2 HB8.out f9 (by decide) (by decide))
      have hb9 := hb8.trans f9.below
      have hsz9 := hb9.size
      have SV9 : Hid (∀ j, j ≠ 10 → sv9 j = svNil j) := fun j hj => (hsv9 j hj).trans (SV8.out j hj)
      clear HK8 HB8 f9 hb8 hsz8 hsv9 SV8
      have HK9 := Lib.hid (hits_any bk w.heap.size 2 _ xs.length xs.length sv9 _ _ w9 (by omega) hsz9 hbk0 hk9 hK9 HB9.out (fun e' he => by
        simp only [List.nil_append, List.cons_append, List.mem_cons, List.not_mem_nil, or_false] at he
        rcases he with rfl | rfl
        · refine .inr (fun h => ?_)
          have : w.heap.size = gb := by simpa [Bk.Ent.blk, Bk.Ent.val, Value.ownBlock] using h
          omega
        · refine .inr (fun h => ?_)
          have : ga = gb := by simpa [Bk.Ent.blk, Bk.Ent.val, Value.ownBlock] using h
          omega) (by omega) (by simp))
      clear hk9 hK9 HB9
      go_wp2_with fail
      refine HK9.out.mono ?_
      rintro e w10 ⟨rfl, sv10, hsv10, hk10, hK10, f10⟩
      have hb10 := hb9.trans f10.below
      have hsz10 := hb10.size
      have SV10 : ∀ j, j ≠ 10 → sv10 j = svNil j := fun j hj => (hsv10 j hj).trans (SV9.out j hj)
      have AP := Lib.hid (Bk.apart_any hsz10 hk10 hK10 (SV10 1 (by decide)) (SV10 2 (by decide)) (SV10 3 (by decide)) (SV10 4 (by decide)) (SV10 5 (by decide)) (SV10 6 (by decide)) (SV10 7 (by decide)) (SV10 8 (by decide)) (SV10 9 (by decide)) (SV10 11 (by decide)) (SV10 12 (by decide)))
      clear HK9 f10 hb9 hsz9 hsv10 SV10 SV9 hk10 hK10
      go_wp2_with fail
      refine AP.out.mono ?_
      rintro e w11 ⟨rfl, hb11⟩
      go_wp2
      go_ret
      exact ⟨rfl, hb10.trans hb11⟩
end Go.Proofs.Ytegphnlfhcokfaa
