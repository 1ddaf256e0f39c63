/- The walk of SetsRising. -/
import Derived.Test.YtgcclijdkcomiaaDoorLe
namespace Go.Proofs.YtgcclijdkcomiaaDoor
open Go.RowKit
set_option linter.unusedVariables false
theorem sorted_list (b : Nat) (f : Nat → Bool) : (listF b f).Pairwise (· < ·) := List.Pairwise.filter _ List.pairwise_lt_range
theorem list_mem {b : Nat} {f : Nat → Bool} {x : Nat} : x ∈ listF b f ↔ x < b ∧ f x = true := by unfold listF; rw [List.mem_filter, List.mem_range]
theorem cnt_or (p : Nat → Bool) (k : Nat) : ∀ b, ((List.range b).filter (fun j => p j || decide (j = k))).length ≤ ((List.range b).filter p).length + (if k < b then 1 else 0)
  | 0 => by simp
  | b + 1 => by
    have ih := cnt_or p k b
    rw [List.range_succ, List.filter_append, List.filter_append, List.length_append, List.length_append]
    by_cases h : b = k
    · subst h
      have h1 : ((List.range b).filter (fun j => p j || decide (j = b))).length = ((List.range b).filter p).length := by
        congr 1
        apply List.filter_congr
        intro a ha
        have := List.mem_range.1 ha
        have h2 : ¬ a = b := by omega
        simp [h2]
      rw [h1]
      simp
    · have h2 : ([b].filter (fun j => p j || decide (j = k))) = [b].filter p := by simp [List.filter_cons, h]
      rw [h2]
      by_cases hk : k < b
      · rw [if_pos hk] at ih; rw [if_pos (by omega)]; omega
      · rw [if_neg hk] at ih; rw [if_neg (by omega)]; omega
theorem list_plus_len (b : Nat) (f : Nat → Bool) (n : Int) : (listF b (plus b f n)).length ≤ (listF b f).length + 1 := by
  by_cases h : inB b n = true
  · have h2 : 0 ≤ n ∧ n < b := by simpa [inB] using h
    have := cnt_or f n.toNat b
    have e : listF b (plus b f n) = (List.range b).filter (fun j => f j || decide (j = n.toNat)) := by
      unfold listF
      apply List.filter_congr
      intro a _
      unfold plus
      rw [h, Bool.true_and]
      congr 1
      by_cases e : a = n.toNat
      · have : (a : Int) = n := by omega
        simp [e]; omega
      · have : ¬ (a : Int) = n := by omega
        simp [e, this]
    rw [e]
    unfold listF
    split at this <;> omega
  · have h' : inB b n = false := by simpa using h
    have e : listF b (plus b f n) = listF b f := by
      unfold listF
      apply List.filter_congr
      intro a _
      unfold plus
      rw [h']; simp
    rw [e]; omega
theorem list_len (b : Nat) (xs : List Int) : ∀ f, (listF b (addAll b f xs)).length ≤ (listF b f).length + xs.length := by
  induction xs with
  | nil => intro f; exact Nat.le_refl _
  | cons n r ih =>
    intro f
    have h1 := ih (plus b f n)
    have h2 := list_plus_len b f n
    show (listF b (addAll b (plus b f n) r)).length ≤ _
    rw [List.length_cons]
    omega
/-- Next of one more than a number of the list is the number behind it. -/
theorem next_drop (b : Nat) (f : Nat → Bool) (k x : Nat) (rest : List Nat) (h : (listF b f).drop k = x :: rest) : nextF b f ((x : Int) + 1) = headOr rest ∧ (listF b f).drop (k + 1) = rest ∧ (listF b f).take (k + 1) = (listF b f).take k ++ [x] ∧ k < (listF b f).length := by
  have hk : k < (listF b f).length := by
    rcases Nat.lt_or_ge k (listF b f).length with h1 | h1
    · exact h1
    · rw [List.drop_eq_nil_of_le h1] at h; cases h
  have hx : (listF b f)[k] = x ∧ (listF b f).drop (k + 1) = rest := by
    rw [List.drop_eq_getElem_cons hk] at h
    injection h with h1 h2
    exact ⟨h1, h2⟩
  refine ⟨?_, hx.2, by rw [List.take_succ_eq_append_getElem hk, hx.1], hk⟩
  have e : (List.range b).filter (fun j => f j && decide (((x : Int) + 1).toNat ≤ j)) = (listF b f).filter (fun j => decide (x + 1 ≤ j)) := by
    unfold listF
    rw [List.filter_filter]
    apply List.filter_congr
    intro a _
    rw [Bool.and_comm, show ((x : Int) + 1).toNat = x + 1 by omega]
  unfold nextF
  rw [e]
  have hs := sorted_list b f
  revert hs h
  generalize listF b f = l
  intro h hs
  have hl : l = l.take k ++ x :: rest := by rw [← h, List.take_append_drop]
  rw [hl, List.pairwise_append, List.pairwise_cons] at hs
  obtain ⟨h1, ⟨h2, h3⟩, h4⟩ := hs
  have e1 : (l.take k).filter (fun j => decide (x + 1 ≤ j)) = [] := by
    rw [List.filter_eq_nil_iff]; intro a ha; have := h4 a ha x (by simp); simp; omega
  have e2 : rest.filter (fun j => decide (x + 1 ≤ j)) = rest := by
    rw [List.filter_eq_self]; intro a ha; have := h2 a ha; simp; omega
  rw [hl, List.filter_append, e1, List.filter_cons_of_neg (by simp), e2]
  rfl
theorem next_first (b : Nat) (f : Nat → Bool) : nextF b f (-1) = headOr (listF b f) := by
  unfold nextF listF
  congr 1
  apply List.filter_congr
  intro a _
  simp
theorem inI_at2 (f : Nat → Bool) (k : Nat) (h : k < 2048) : inI 2048 f (k : Int) = f k := by
  have : inB 2048 (k : Int) = true := by simp [inB]; omega
  unfold inI; rw [this, Bool.true_and, Int.toNat_natCast]
def lenV (v : Value) : Nat := match v with
  | .slice _ n _ => n
  | _ => 0
set_option maxRecDepth 100000 in
set_option maxHeartbeats 1000000 in
theorem setsRising_far (A : Option Addr) (a c : Nat) (h : 1000 < a) (w : World) (hT : Tab w) :
    Calls Tryd.prog 5 #[.slice A a c] w fun e w' => e = .returned (.bool true) ∧ Below w.heap.size w w' := by
  have HA := Lib.hid (alive_any w hT)
  have HT := Lib.hid hT
  have h1' : decide (1000 < (a : Int)) = true := decide_eq_true (by omega)
  clear h hT
  go_enter Tryd.func5, Tryd.ntmps5
  go_wp2_with fail
  refine HA.out.mono ?_
  rintro e w1 ⟨rfl, hB⟩
  have H2 := Lib.hid (alive_any w1 (HT.out.below hB HT.out.pos))
  go_wp2_with fail
  refine H2.out.mono ?_
  rintro e w2 ⟨rfl, hB2⟩
  go_wp2
  go_ret
  exact ⟨rfl, hB.trans (hB2.mono hB.size)⟩
set_option maxRecDepth 100000 in
set_option maxHeartbeats 2000000 in
theorem setsRising_yes (A : Option Addr) (c : Nat) (xs : List Int) (w : World) (hx : Rd .i64 w w.heap.size A xs) (ha : xs.length ≤ 1000) (hT : Tab w) :
    Calls Tryd.prog 5 #[.slice A xs.length c] w fun e w' => e = .returned (.bool true) ∧ Below w.heap.size w w' := by
  have h0 := Lib.hid hT.pos
  have HA := Lib.hid (alive_any w hT)
  have HX := Lib.hid hx
  have HT := Lib.hid hT
  clear hT hx
  have h1' : decide (1000 < (xs.length : Int)) = false := decide_eq_false (by omega)
  obtain ⟨i0, hi, hz0, hz1, hz2⟩ := info_parts Tryd.info3i
  obtain ⟨F, hF⟩ : ∃ F, addAll 2048 f0 xs = F := ⟨_, rfl⟩
  have hlen : (listF 2048 F).length ≤ xs.length := by
    have := list_len 2048 xs f0
    rw [hF] at this
    have h2 : listF 2048 f0 = [] := by unfold listF; exact filter_nil _ _ (fun _ => rfl)
    rw [h2] at this
    simpa using this
  have hlst : ∀ x ∈ listF 2048 F, x < 2048 ∧ F x = true := fun x hx => list_mem.1 hx
  have hsrt := sorted_list 2048 F
  have nf := next_first 2048 F
  have nd := next_drop 2048 F
  have HF := Lib.hid hF
  clear hF
  obtain ⟨lst, hl⟩ : ∃ lst, listF 2048 F = lst := ⟨_, rfl⟩
  rw [hl] at hlen hlst hsrt nf nd
  have HL := Lib.hid hl
  have HM := Lib.hid (⟨hlst, hsrt, nf, nd⟩ : _ ∧ _ ∧ _ ∧ _)
  clear hl hlst hsrt nf nd
  go_enter Tryd.func5, Tryd.ntmps5
  go_wp2_with fail
  refine HA.out.mono ?_
  rintro e w1 ⟨rfl, hB⟩
  have HO := Lib.hid (of_any A c xs w1 ((HX.out.below hB).more hB.size) (by omega) (HT.out.below hB HT.out.pos))
  have hB := Lib.hid hB
  go_wp2_with fail
  refine HO.out.mono ?_
  intro e w2 h2
  obtain ⟨b, g, rfl, L0⟩ := h2
  have L : Hid (Live w w2 b g 2048 F) := ⟨hB.out.trans (L0.bel.mono hB.out.size), HF.out ▸ L0.set, Nat.le_trans hB.out.size L0.hb, Nat.le_trans hB.out.size L0.hg, L0.tab⟩
  clear L0 HO HA HX
  have H1 := Lib.hid (allL L.out lst HL.out)
  go_wp2_with fail
  refine H1.out.mono ?_
  rintro e w3 ⟨G, rfl, row, L3, t3⟩
  have R3 := Lib.hid (own_rd row)
  have L3 := Lib.hid L3
  have H2 := Lib.hid (nextL L3.out (-1) (by omega) _ HM.out.2.2.1)
  clear row t3 H1 L
  go_wp2_with fail
  refine H2.out.mono ?_
  rintro e w4 ⟨rfl, L4, t4⟩
  have R4 := Lib.hid ((R3.out.below (Turn.below t4 (by simp) (Nat.le_refl _))).more t4.size)
  have L4 := Lib.hid L4
  clear t4 H2 L3 R3
  go_wp2
  go_loopw [5, 6] (fun t n wr => ∃ k : Nat, k ≤ lst.length ∧ n = .int .i64 (headOr (lst.drop k)) ∧ Hid (Below w4.heap.size w4 wr) ∧ wr.ownsRow w4.heap.size 3 1 t k (((lst.take k).map Int.ofNat).map (Value.int .i64))) (fun t _ _ => lst.length - lenV t)
  case atStart => exact ⟨0, Nat.zero_le _, rfl, Below.refl _ _, World.ownsRow_nil _ _ _ _⟩
  case round =>
    obtain ⟨k, hk, rfl, hB4, hown⟩ := hrel
    obtain ⟨At, ct, hvt, hnt, hct, rdt, nilt⟩ := own_slice hown
    rw [List.length_map, List.length_take, Nat.min_eq_left hk] at hvt
    subst hvt
    clear hnt hct nilt
    rcases hd : lst.drop k with _ | ⟨x, rest⟩
    · have hke : k = lst.length := by
        rcases Nat.lt_or_ge k lst.length with h | h
        · rw [List.drop_eq_getElem_cons h] at hd; cases hd
        · omega
      subst hke
      rw [List.take_length] at rdt
      have hh : headOr ([] : List Nat) = -1 := rfl
      have L5 := Lib.hid (L4.out.below hB4.out)
      have R5 := Lib.hid ((R4.out.below hB4.out).more hB4.out.size)
      have RT := Lib.hid rdt
      clear hd hown rdt L4 R4
      rw [hh]
      clear hh
      obtain ⟨wo, rfl⟩ : ∃ wo : World, wo = wr := ⟨_, rfl⟩
      go_wp2
      go_loopw [7] (fun i wr => ∃ k : Nat, k ≤ lst.length ∧ i = .int .i64 k ∧ Hid (∃ nq, wr = wo.drewN nq)) (fun i _ => lst.length - (intOf i).toNat)
      case atStart => exact ⟨0, Nat.zero_le _, rfl, ⟨0, rfl⟩⟩
      case round =>
        obtain ⟨k, hk, rfl, HN⟩ := hrel
        have LX : Hid (Live w wr b g 2048 F) := by obtain ⟨nq, h⟩ := HN.out; rw [h]; exact L5.out.drewN nq
        have RX : Hid (Rd .i64 wr wo.heap.size (some ⟨G, 0, none⟩) (lst.map Int.ofNat)) := by obtain ⟨nq, h⟩ := HN.out; rw [h]; exact R5.out.drewN nq
        by_cases hlt : k < lst.length
        · obtain ⟨bg, off, v, hG, hgb, hc, hv⟩ := RX.out.at_ (i := k) (by simpa using hlt)
          injection hG with hG
          injection hG with hG1 hG2
          subst hG1 hG2
          rw [Nat.zero_add] at hc
          have hvx : v = ((lst[k] : Nat) : Int) := by
            have := hv.out
            rw [List.getElem?_map, List.getElem?_eq_getElem hlt] at this
            exact this.symm
          subst hvx
          have hm := HM.out.1 lst[k] (List.getElem_mem hlt)
          have hin : inI 2048 F ((lst[k] : Nat) : Int) = true := by rw [inI_at2 F _ hm.1]; exact hm.2
          have HH : ∀ n, Calls Tryd.prog 14 #[.pointer (some ⟨b, 0, none⟩), .int .i64 ((lst[k] : Nat) : Int)] (wr.drewN n) fun e w'' => e = .returned (.bool true) ∧ ∃ m, w'' = wr.drewN m := fun n => by
            have h := hasF_any b g 2048 F ((lst[k] : Nat) : Int) (wr.drewN n) (LX.out.drewN n).set
            rw [hin] at h
            exact h.mono fun e w' ⟨h1, m, h2⟩ => ⟨h1, n + m, by rw [h2, World.drewN_drewN]⟩
          rcases Nat.eq_zero_or_pos k with hk0 | hk0
          · have hz1 : decide (0 < k) = false := decide_eq_false (by omega)
            have hz2 : decide ((0 : Int) < (k : Int)) = false := decide_eq_false (by omega)
            revert hc HH
            generalize lst[k] = x
            intro hc HH
            have HH2 := Lib.hid HH
            clear HH hv hm hin
            have HK0 := Lib.hid hk0
            clear hk0
            go_wp2
            go_quiet ((go_at_call 14; exact HH2.out _))
            go_wp2
            go_roundw
            case rel => exact ⟨k + 1, by omega, by go_num, by obtain ⟨nq, h⟩ := HN.out; exact ⟨_, by rw [h, World.drewN_drewN]⟩⟩
            case measure => simp [intOf]; omega
          · obtain ⟨j, hj⟩ : ∃ j : Nat, k = j + 1 := ⟨k - 1, by omega⟩
            have hjl : j < lst.length := by omega
            obtain ⟨bg, off, v, hG, hgb2, hc2, hv2⟩ := RX.out.at_ (i := j) (by simpa using hjl)
            injection hG with hG
            injection hG with hG1 hG2
            subst hG1 hG2
            rw [Nat.zero_add] at hc2
            have hvx : v = ((lst[j] : Nat) : Int) := by
              have := hv2.out
              rw [List.getElem?_map, List.getElem?_eq_getElem hjl] at this
              exact this.symm
            subst hvx
            have hlt2 : lst[j] < lst[k] := (List.pairwise_iff_getElem.1 HM.out.2.1) j k hjl hlt (by omega)
            have hkj : (k : Int) - 1 = (j : Int) := by omega
            have hjk : j < lst.length := hjl
            revert hc HH hlt2 hc2
            generalize lst[k] = x
            generalize lst[j] = y
            intro hc HH hc2 hlt2
            have HH2 := Lib.hid HH
            clear HH
            have hd : decide (x ≤ y) = false := decide_eq_false (by omega)
            have hw1 : IntKind.i64.wrap ((k : Int) - 1) = (j : Int) := by rw [IntKind.wrap_i64]; omega
            have hw2 : IntKind.i64.wrap (j : Int) = (j : Int) := by rw [IntKind.wrap_i64]; omega
            clear hv hv2 hm hin hlt2 hj
            go_wp2
            go_quiet ((go_at_call 14; exact HH2.out _))
            go_wp2
            go_roundw
            case rel => exact ⟨k + 1, by omega, by go_num, by obtain ⟨nq, h⟩ := HN.out; exact ⟨_, by rw [h, World.drewN_drewN]⟩⟩
            case measure => simp [intOf]; omega
        · obtain rfl : k = lst.length := by omega
          have H5 := Lib.hid (lenL LX.out _ (congrArg List.length HL.out))
          go_wp2_with fail
          refine H5.out.mono ?_
          rintro e w7 ⟨rfl, L7, t7⟩
          have bel7 : Below wo.heap.size wo w7 := by
            obtain ⟨nq, h⟩ := HN.out
            subst h
            exact (below_drewN (Below.refl _ _) nq).trans (t7.below (by simp) (by simp))
          have HS := sameInts_any (some ⟨G, 0, none⟩) At lst.length ct (lst.map Int.ofNat) w7 w7.heap.size ((R5.out.below bel7).more bel7.size) ((RT.out.below bel7).more bel7.size) (by rw [List.length_map]; omega)
          rw [List.length_map] at HS
          have HS := Lib.hid HS
          have L7 := Lib.hid L7
          clear H5 t7 bel7
          go_wp2_with fail
          refine HS.out.mono ?_
          rintro e w8 ⟨rfl, n8, rfl⟩
          go_wp2
          go_ret
          exact ⟨rfl, below_drewN L7.out.bel n8⟩
    · obtain ⟨e1, e2, e3, e4⟩ := HM.out.2.2.2 k x rest hd
      have hx := (HM.out.1 x (List.mem_of_mem_drop (by rw [hd]; simp))).1
      have hh : headOr (x :: rest) = (x : Int) := rfl
      have hkx : k ≤ xs.length := by omega
      have hx0 : (0 : Int) ≤ (x : Int) := by omega
      have E := Lib.hid (⟨e1, e2, e3⟩ : _ ∧ _ ∧ _)
      have hs := hB4.out.size
      have hk1 : k ≤ 1000 := by omega
      clear e1 e2 e3 hd rdt
      rw [hh]
      clear hh
      go_wp2_with (at_builtin; refine wpList_append_own _ rfl _ _ 37 rfl w4.heap.size 3 i0 (.int .i64 0) 1 8 Tryd.underlying37 hi hz0 hz1 hz2 rfl (by decide) _ _ _ rfl (hown.alloc _) ⟨wr.heap.size, 0, none⟩ 1 1 [.int .i64 x] rfl rfl (cell_one_new _ _ _) (by simp [Value.oneCell']) (by show k + 1 ≤ 9223372036854775807; omega) (by omega) (by simp; omega) ?_; intro v' w1 hown' hgrow _)
      obtain ⟨Av, cv, hvv, _, _, _, _⟩ := own_slice (k := .i64) (xs := ((lst.take k).map Int.ofNat) ++ [(x : Int)]) (by rw [List.map_append]; exact hown')
      rw [List.length_append, List.length_map, List.length_take, Nat.min_eq_left hk, List.length_singleton] at hvv
      subst hvv
      have hBe : Hid (Below w4.heap.size w4 w1) := (hB4.out.alloc hs _).grown hgrow (by simp; omega) (fun j hj => (hown.lt j hj).1)
      have hown2 : Hid (w1.ownsRow w4.heap.size 3 1 (.slice Av (k + 1) cv) (k + 1) (((lst.take (k + 1)).map Int.ofNat).map (Value.int .i64))) := by
        rw [Hid, E.out.2.2, List.map_append, List.map_append]; exact hown'
      have H5 := nextL (L4.out.below hBe.out) ((x : Int) + 1) (by omega) _ E.out.1
      obtain ⟨r, hr⟩ : ∃ r, headOr rest = r := ⟨_, rfl⟩
      rw [hr] at H5
      have HR := Lib.hid hr
      have H5 := Lib.hid H5
      clear hr
      clear hown hown' hgrow hB4
      refine H5.out.mono ?_
      rintro e w2 ⟨rfl, L2, t2⟩
      have hB2 : Hid (Below w4.heap.size w4 w2) := hBe.out.trans (t2.below (by simp) hBe.out.size)
      have hown3 := own_turn hown2.out t2 (by simp)
      clear L2 t2 H5 hBe hown2
      dsimp only
      go_wp2
      go_roundw
      case rel => exact ⟨k + 1, by omega, by rw [E.out.2.1, HR.out], hB2, hown3⟩
      case measure => simp [lenV]; omega
end Go.Proofs.YtgcclijdkcomiaaDoor
