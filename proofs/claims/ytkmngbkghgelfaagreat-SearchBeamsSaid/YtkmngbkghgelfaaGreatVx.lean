/- The walks of the document's Less and Sort. -/
import Derived.Test.YtkmngbkghgelfaaGreatVw
import Derived.Test.YtkmngbkghgelfaaGreatBn
namespace Go.Proofs.YtkmngbkghgelfaaGreat
open Go.RowKit Go.Shelf
set_option linter.unusedVariables false
set_option maxHeartbeats 1000000 in
theorem refLess_any (a b c d : Int) (w : World) :
    Calls Tryz.prog 87 #[.agg #[.int .u64 a, .int .i64 b], .agg #[.int .u64 c, .int .i64 d]] w fun e w' => e = .returned (.bool (ltH (a, b) (c, d))) ∧ w' = (w.alloc (.cells #[.int .u64 a, .int .i64 b] 78)).alloc (.cells #[.int .u64 c, .int .i64 d] 78) := by
  by_cases h1 : b < d
  · have E := Lib.hid (show ltH (a, b) (c, d) = true from decide_eq_true (.inl h1))
    have n1 : decide (b < d) = true := decide_eq_true h1
    go_enter Tryz.func87, Tryz.ntmps87
    go_wp2
    go_ret
    exact ⟨retbb E.out.symm, rfl⟩
  · have n1 : decide (b < d) = false := decide_eq_false h1
    by_cases h2 : b = d
    · subst h2
      have n2 : (b == b) = true := by simp
      by_cases h3 : a < c
      · have n3 : decide (a < c) = true := decide_eq_true h3
        have E := Lib.hid (show ltH (a, b) (c, b) = true from decide_eq_true (.inr ⟨rfl, h3⟩))
        go_enter Tryz.func87, Tryz.ntmps87
        go_wp2
        go_ret
        exact ⟨retbb E.out.symm, rfl⟩
      · have n3 : decide (a < c) = false := decide_eq_false h3
        have E := Lib.hid (show ltH (a, b) (c, b) = false from decide_eq_false (by simp; omega))
        go_enter Tryz.func87, Tryz.ntmps87
        go_wp2
        go_ret
        exact ⟨retbb E.out.symm, rfl⟩
    · have n2 : (b == d) = false := by simpa using h2
      have E := Lib.hid (show ltH (a, b) (c, d) = false from decide_eq_false (by simp; omega))
      go_enter Tryz.func87, Tryz.ntmps87
      go_wp2
      go_ret
      exact ⟨retbb E.out.symm, rfl⟩
/-- A hit put in at a place. -/
def insAt (ys : List (Int × Int)) (x : Int × Int) (k : Nat) : List (Int × Int) := ys.take k ++ x :: ys.drop k
theorem insAt_len (ys : List (Int × Int)) (x : Int × Int) (k : Nat) : (insAt ys x k).length = ys.length + 1 := by
  unfold insAt; simp; omega
theorem insAt_at {ys : List (Int × Int)} {x : Int × Int} {k : Nat} (hk : k ≤ ys.length) : (insAt ys x k)[k]? = some x := by
  unfold insAt
  rw [List.getElem?_append_right (by rw [List.length_take]; omega), List.length_take, Nat.min_eq_left hk, Nat.sub_self]; rfl
theorem insAt_before {ys : List (Int × Int)} {x : Int × Int} {k j : Nat} (hk : k ≤ ys.length) (hj : j < k) : (insAt ys x k)[j]? = ys[j]? := by
  unfold insAt
  rw [List.getElem?_append_left (by simp; omega), List.getElem?_take, if_pos hj]
theorem insAt_step {ys : List (Int × Int)} {x y : Int × Int} {p : Nat} (hy : ys[p]? = some y) : ((insAt ys x (p + 1)).set (p + 1) y).set p x = insAt ys x p := by
  have hp := (List.getElem?_eq_some_iff.1 hy).1
  have hy' : ys[p] = y := by rw [List.getElem?_eq_getElem hp] at hy; exact Option.some.inj hy
  unfold insAt
  rw [List.take_succ_eq_append_getElem hp, hy', List.drop_eq_getElem_cons hp, hy']
  rw [List.set_append_right (h := by simp; omega), List.length_append, List.length_take, Nat.min_eq_left (by omega)]
  simp only [List.length_singleton, Nat.sub_self, List.set_cons_zero, List.append_assoc, List.singleton_append]
  rw [List.set_append_right (h := by simp; omega), List.length_take, Nat.min_eq_left (by omega), Nat.sub_self, List.set_cons_zero]
theorem ltH_asymm {a b : Int × Int} (h : ltH a b = true) : ltH b a = false := by
  unfold ltH at *; simp at *; omega
theorem insAt_done {ys : List (Int × Int)} {x : Int × Int} {k : Nat} (hs : List.Pairwise (fun a b => (!ltH b a) = true) ys) (hk : k ≤ ys.length) (hgt : ∀ j y, k ≤ j → ys[j]? = some y → ltH x y = true)
    (hle : ∀ p y, k = p + 1 → ys[p]? = some y → ltH x y = false) : insAt ys x k = srt (ys ++ [x]) := by
  have hpw : List.Pairwise (fun a b => (!ltH b a) = true) (insAt ys x k) := by
    unfold insAt
    have hs' := hs
    rw [← List.take_append_drop k ys, List.pairwise_append] at hs'
    refine List.pairwise_append.2 ⟨hs'.1, List.pairwise_cons.2 ⟨fun b hb => ?_, hs'.2.1⟩, fun a ha b hb => ?_⟩
    · obtain ⟨j, hj, rfl⟩ := List.mem_iff_getElem.1 hb
      have := hgt (k + j) _ (by omega) (by rw [← List.getElem?_drop]; exact List.getElem?_eq_getElem hj)
      rw [ltH_asymm this]; rfl
    · rcases List.mem_cons.1 hb with h | h
      · subst h
        obtain ⟨j, hj, rfl⟩ := List.mem_iff_getElem.1 ha
        rw [List.length_take] at hj
        obtain ⟨p, rfl⟩ : ∃ p, k = p + 1 := ⟨k - 1, by omega⟩
        have hp : p < ys.length := by omega
        have h1 := hle p ys[p] rfl (List.getElem?_eq_getElem hp)
        rw [List.getElem_take]
        rcases Nat.lt_or_ge j p with h2 | h2
        · have h3 := List.pairwise_iff_getElem.1 hs j p (by omega) hp h2
          exact leH_trans _ _ _ h3 (by rw [h1]; rfl)
        · obtain rfl : j = p := by omega
          rw [h1]; rfl
      · exact hs'.2.2 a ha b h
  have h1 : srt (insAt ys x k) = insAt ys x k := List.mergeSort_of_pairwise hpw
  rw [← h1]
  refine srt_of_perm ?_
  unfold insAt
  have : (ys.take k ++ x :: ys.drop k).Perm (x :: (ys.take k ++ ys.drop k)) := List.perm_middle
  rw [List.take_append_drop] at this
  exact this.trans (List.perm_append_singleton x ys).symm
theorem srt_snoc (ys : List (Int × Int)) (x : Int × Int) : srt (srt ys ++ [x]) = srt (ys ++ [x]) := srt_of_perm ((srt_perm ys).append_right [x])
theorem flatH_set (L : List (Int × Int)) : ∀ (i : Nat) (a b : Int), i < L.length → ((flatH L).set (i * 2) (.int .u64 a)).set (i * 2 + 1) (.int .i64 b) = flatH (L.set i (a, b)) := by
  induction L with
  | nil => intro i a b h; simp at h
  | cons x r ih =>
    intro i a b h
    have e : ∀ (z : Int × Int) l, flatH (z :: l) = Value.int .u64 z.1 :: Value.int .i64 z.2 :: flatH l := fun _ _ => rfl
    rcases i with _ | i
    · rw [List.set_cons_zero, e, e]; rfl
    · rw [List.set_cons_succ, e, e, show (i + 1) * 2 = i * 2 + 1 + 1 by omega, List.set_cons_succ, List.set_cons_succ, List.set_cons_succ, List.set_cons_succ, ih i a b (by simpa using h)]
theorem insAt_all (ys : List (Int × Int)) (x : Int × Int) (k : Nat) (h : ys.length = k) : flatH ys ++ [.int .u64 x.1, .int .i64 x.2] = flatH (insAt ys x k) := by
  unfold insAt
  rw [List.take_of_length_le (by omega), List.drop_of_length_le (by omega), flatH_app]; rfl
set_option maxRecDepth 100000 in
set_option maxHeartbeats 4000000 in
theorem refSort_any (A : Option Addr) (c : Nat) (xs : List (Int × Int)) (n : Nat) (hn : n = xs.length) (w : World) (hx : RdH w w.heap.size A xs) (hl : xs.length ≤ 1000000) :
    Calls Tryz.prog 29 #[.slice A n c] w fun e w' => ∃ S, e = .returned S ∧ w'.ownsRow w.heap.size 78 2 S n (flatH (srt xs)) ∧ Below w.heap.size w w' := by
  subst hn
  have mixed : Tryz.prog.follows .mixedOrders = true := by kernel_rfl
  obtain ⟨i0, hi, hz0, hz1, hz2⟩ := info_parts Tryz.info78h
  go_enter Tryz.func29, Tryz.ntmps29
  go_wp2
  go_loopw [3, 4] (fun v i wr => ∃ k : Nat, k ≤ xs.length ∧ i = .int .i64 k ∧ wr.ownsRow w.heap.size 78 2 v k (flatH (srt (xs.take k))) ∧ Below w.heap.size w wr) (fun _ i _ => xs.length - (intOf i).toNat)
  case atStart => exact ⟨0, by omega, rfl, ⟨by simp [flatH, srt, srtH], .inl ⟨rfl, rfl⟩⟩, Below.refl _ _⟩
  case round =>
    obtain ⟨k, hk, rfl, hown, hB⟩ := hrel
    have hsz := hB.size
    by_cases hlt : k < xs.length
    · obtain ⟨b, off, x1, x2, rfl, _, hc1, hc2, hv⟩ := (hx.below hB).at_ hlt
      have HYL := Lib.hid (show (srt (xs.take k)).length = k by rw [srt_len, List.length_take]; omega)
      have HNX := Lib.hid (show srt (srt (xs.take k) ++ [(x1, x2)]) = srt (xs.take (k + 1)) by
        rw [srt_snoc, List.take_succ_eq_append_getElem hlt]
        have := hv.out
        rw [List.getElem?_eq_getElem hlt] at this
        rw [Option.some.inj this])
      have HPW := Lib.hid (srt_pw (xs.take k))
      clear hv
      generalize srt (xs.take k) = ys at hown HYL HNX HPW
      go_wp2_with (at_builtin; refine wpList_append_lies _ rfl (.tmp 13) (.tmp 18) 30 rfl w.heap.size 78 i0 (.agg #[.int .u64 0, .int .i64 0]) 2 16 Tryz.underlying30 hi hz0 hz1 hz2 rfl (by omega) _ k (flatH ys) rfl (hown.alloc _) ⟨wr.heap.size, 0, none⟩ 1 1 [.int .u64 x1, .int .i64 x2] rfl rfl (World.news_of_block (cs := #[.int .u64 x1, .int .i64 x2]) (t := 78) (fr := (0, 0)) (heap_alloc_new wr _)) (by simp [Value.oneCell']) (by omega) (by unfold maxLen; omega) (by omega) (by simp; omega) (wr.heap.size + 1) (by simp) ?_; intro g cap W1 hown1 hgrow1 hat1 hlt1)
      have hB1 : Below w.heap.size w W1 := (hB.alloc hsz _).grown hgrow1 (by simp; omega) (fun j hj => (hown.lt j hj).1)
      have hown2 : W1.ownsRow w.heap.size 78 2 (.slice (some ⟨g, 0, none⟩) (k + 1) cap) (k + 1) (flatH (insAt ys (x1, x2) k)) := by rw [← insAt_all ys (x1, x2) k HYL.out]; exact hown1
      clear hown hown1 hgrow1 hat1 hc1 hc2 hB hsz
      go_loopw [5] (fun kk wr2 => ∃ p : Nat, p ≤ k ∧ kk = .int .i64 p ∧ wr2.ownsRow w.heap.size 78 2 (.slice (some ⟨g, 0, none⟩) (k + 1) cap) (k + 1) (flatH (insAt ys (x1, x2) p)) ∧ Below w.heap.size w wr2 ∧ Hid (∀ j y, p ≤ j → ys[j]? = some y → ltH (x1, x2) y = true)) (fun kk _ => (intOf kk).toNat)
      case atStart => exact ⟨k, by omega, rfl, hown2, hB1, fun j y hj hy => by rw [List.getElem?_eq_none (by rw [HYL.out]; exact hj)] at hy; cases hy⟩
      case round =>
        clear hown2 hB1
        obtain ⟨p, hp, rfl, hown, hB, HG⟩ := hrel
        have hsz := hB.size
        rcases Nat.eq_zero_or_pos p with h0 | h0
        · subst h0
          have z0 : decide ((0 : Int) < (0 : Int)) = false := by decide
          have HD := insAt_done HPW.out (by omega : 0 ≤ ys.length) HG.out (fun p y h => by omega)
          rw [HNX.out] at HD
          rw [HD] at hown
          clear HD
          go_wp2
          refine wp_region_quiet_grown mixed (by kernel_rfl) ?_
          repeat (go_big_quiet_step (fail))
          refine wpQuiet_nil ?_
          intro _ hw'
          obtain ⟨⟨nq', osq⟩, hw''⟩ := hw'
          subst hw''
          have hg := below_grow wr nq' osq
          go_wp2
          go_roundw
          case rel => exact ⟨k + 1, by omega, by go_num, Bk.own_bel hown hg, hB.trans (hg.mono hsz)⟩
          case measure => simp [intOf]; omega
        · obtain ⟨q, rfl⟩ : ∃ q, p = q + 1 := ⟨p - 1, by omega⟩
          obtain ⟨⟨y1, y2⟩, hy⟩ : ∃ y, ys[q]? = some y := ⟨_, List.getElem?_eq_getElem (by rw [HYL.out]; omega)⟩
          have hq : q < ys.length := by rw [HYL.out]; omega
          have hpl : q + 1 ≤ ys.length := by rw [HYL.out]; omega
          have hrd := rdH_own hown
          have hIL := insAt_len ys (x1, x2) (q + 1)
          obtain ⟨b1, o1, a1, a2, hA1, _, hm1, hm2, hu1⟩ := hrd.at_ (i := q + 1) (by omega)
          obtain ⟨b2, o2, a3, a4, hA2, _, hm3, hm4, hu2⟩ := hrd.at_ (i := q) (by omega)
          simp only [Option.some.injEq, Addr.mk.injEq, and_true] at hA1 hA2
          obtain ⟨rfl, rfl⟩ := hA1
          obtain ⟨rfl, rfl⟩ := hA2
          rw [Nat.zero_add] at hm1 hm2 hm3 hm4
          have e1 := hu1.out
          rw [insAt_at hpl] at e1
          have e2 := hu2.out
          rw [insAt_before hpl (by omega), hy] at e2
          simp only [Option.some.injEq, Prod.mk.injEq] at e1 e2
          obtain ⟨rfl, rfl⟩ := e1
          obtain ⟨rfl, rfl⟩ := e2
          have hgl : g < wr.heap.size := (hown.lt g rfl).2
          have k1 := fun n os => cell_grown (a := ⟨g, (q + 1) * 2, none⟩) hgl hm1 n os
          have k2 := fun n os => cell_grown (a := ⟨g, (q + 1) * 2 + 1, none⟩) hgl hm2 n os
          have k3 := fun n os => cell_grown (a := ⟨g, q * 2, none⟩) hgl hm3 n os
          have k4 := fun n os => cell_grown (a := ⟨g, q * 2 + 1, none⟩) hgl hm4 n os
          have HM := Lib.hid (And.intro hm1 (And.intro hm2 (And.intro hm3 hm4)))
          have HF := Lib.hid (fun j => hown.frozenAt j)
          have HY := Lib.hid hy
          have HIL := Lib.hid hIL
          have HSW := Lib.hid (insAt_step (x := (x1, x2)) hy)
          clear hrd hu1 hu2 hm1 hm2 hm3 hm4 hy hIL hpl hq
          have HL : ∀ bb, ltH (x1, x2) (y1, y2) = bb → Hid (∀ n os, Calls Tryz.prog 87 #[.agg #[.int .u64 x1, .int .i64 x2], .agg #[.int .u64 y1, .int .i64 y2]] (Sort.grow (wr.drewN n) os) fun e w' => e = .returned (.bool bb) ∧ ∃ q os', w' = Sort.grow ((Sort.grow (wr.drewN n) os).drewN q) os') := fun bb hbb n os => by
            have := refLess_any x1 x2 y1 y2 (Sort.grow (wr.drewN n) os)
            rw [hbb] at this
            exact this.mono fun e w' h => ⟨h.1, 0, by rw [h.2]; exact grow2 _ _ _⟩
          have z0 : decide ((0 : Int) < (q : Int) + 1) = true := decide_eq_true (by omega)
          have hwp : IntKind.i64.wrap (q : Int) = (q : Int) := by rw [IntKind.wrap_i64]; omega
          have z3 : (q : Int) + 1 < (k : Int) + 1 := by omega
          have z4 : (q : Int) < (k : Int) + 1 := by omega
          have z5 : (0 : Int) ≤ (q : Int) + 1 := by omega
          have z6 : ((q : Int) + 1).toNat = q + 1 := by omega
          have z7 : (0 : Int) ≤ (q : Int) := by omega
          clear h0
          cases hlt2 : ltH (x1, x2) (y1, y2) with
          | true =>
            have HL1 := HL true hlt2
            have HG2 : Hid (∀ j y, q ≤ j → ys[j]? = some y → ltH (x1, x2) y = true) := fun j y hj hy => by
              rcases Nat.lt_or_ge q j with h | h
              · exact HG.out j y (by omega) hy
              · obtain rfl : j = q := by omega
                rw [HY.out] at hy
                rw [← Option.some.inj hy]; exact hlt2
            clear hlt2 HL HG
            go_wp2
            refine wp_region_quiet_grown mixed (by kernel_rfl) ?_
            repeat (go_big_quiet_step ((go_at_call 87; with_reducible refine Calls.grown_of (HL1.out _ _))))
            refine wpQuiet_nil ?_
            intro _ hw'
            obtain ⟨⟨nq', osq⟩, hw''⟩ := hw'
            subst hw''
            have hg := below_grow wr nq' osq
            have hownV := Bk.own_bel hown hg
            have hBV := hB.trans (hg.mono hsz)
            have j1 := k1 nq' osq
            have j2 := k2 nq' osq
            have j3 := k3 nq' osq
            have j4 := k4 nq' osq
            clear k1 k2 k3 k4 hg hown hB hsz
            generalize Sort.grow (wr.drewN nq') osq = V at hownV hBV j1 j2 j3 j4 ⊢
            have fz := fun j => hownV.frozenAt j
            have hgV : g < V.heap.size := (hownV.lt g rfl).2
            have a3 : ∀ X, (V.alloc X).cell? ⟨g, q * 2, none⟩ = some (.int .u64 y1) := fun X => (World.cell?_alloc_lt V X _ hgV).trans j3
            have a4 : ∀ X, (V.alloc X).cell? ⟨g, q * 2 + 1, none⟩ = some (.int .i64 y2) := fun X => (World.cell?_alloc_lt V X _ hgV).trans j4
            have hne : V.heap.size ≠ g := by omega
            go_wp2
            have s1 := ((((hownV.stored ((q + 1) * 2) (.int .u64 y1)).1.stored ((q + 1) * 2 + 1) (.int .i64 y2)).1.stored (q * 2) (.int .u64 x1)).1.stored (q * 2 + 1) (.int .i64 x2)).1
            rw [flatH_set _ (q + 1) y1 y2 (by rw [HIL.out, HYL.out]; omega), flatH_set _ q x1 x2 (by rw [List.length_set, HIL.out, HYL.out]; omega), HSW.out] at s1
            have hbg : w.heap.size ≤ g := (hownV.lt g rfl).1
            have hBs := (((hBV.setCell (p := ⟨g, (q + 1) * 2, none⟩) hbg (.int .u64 y1)).setCell (p := ⟨g, (q + 1) * 2 + 1, none⟩) hbg (.int .i64 y2)).setCell (p := ⟨g, q * 2, none⟩) hbg (.int .u64 x1)).setCell (p := ⟨g, q * 2 + 1, none⟩) hbg (.int .i64 x2)
            go_roundw
            case rel => exact ⟨q, by omega, rfl, s1.alloc _, hBs.alloc hBs.size _, HG2⟩
            case measure => simp [intOf]; try omega
          | false =>
            have HL1 := HL false hlt2
            have HD := insAt_done HPW.out (by rw [HYL.out]; omega : q + 1 ≤ ys.length) HG.out (fun p y h hy => by
              obtain rfl : p = q := by omega
              rw [HY.out] at hy
              rw [← Option.some.inj hy]; exact hlt2)
            rw [HNX.out] at HD
            rw [HD] at hown
            clear HD hlt2 HL HG
            go_wp2
            refine wp_region_quiet_grown mixed (by kernel_rfl) ?_
            repeat (go_big_quiet_step ((go_at_call 87; with_reducible refine Calls.grown_of (HL1.out _ _))))
            refine wpQuiet_nil ?_
            intro _ hw'
            obtain ⟨⟨nq', osq⟩, hw''⟩ := hw'
            subst hw''
            have hg := below_grow wr nq' osq
            have hownV := Bk.own_bel hown hg
            have hBV := hB.trans (hg.mono hsz)
            clear k1 k2 k3 k4 hg hown hB hsz
            go_wp2
            go_roundw
            case rel => exact ⟨k + 1, by omega, by go_num, hownV, hBV⟩
            case measure => simp [intOf]; omega
    · obtain rfl : k = xs.length := by omega
      rw [List.take_length] at hown
      go_wp2
      go_ret
      exact ⟨_, rfl, hown, hB⟩
end Go.Proofs.YtkmngbkghgelfaaGreat
