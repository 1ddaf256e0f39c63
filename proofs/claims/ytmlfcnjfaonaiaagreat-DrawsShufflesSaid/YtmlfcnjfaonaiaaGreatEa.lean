/- The walk of the document's Shuffle. -/
import Derived.Test.YtmlfcnjfaonaiaaGreatDs
namespace Go.Proofs.YtmlfcnjfaonaiaaGreat
open Go.RowKit Go.Shelf
set_option linter.unusedVariables false
theorem cells_set (l : List Nat) (i x : Nat) : ((ints l).map (Value.int .i64)).set i (Value.int .i64 (x : Nat)) = (ints (l.set i x)).map (Value.int .i64) := by simp [ints, List.map_set]
theorem cells_at {l : List Nat} {i : Nat} (h : i < l.length) : ((ints l).map (Value.int .i64))[i]? = some (.int .i64 ((l[i]?.getD 0 : Nat) : Int)) := by simp [ints, List.getElem?_eq_getElem h]
theorem range_more (j : Nat) : ((ints (List.range j)).map (Value.int .i64)) ++ [Value.int .i64 (j : Nat)] = (ints (List.range (j + 1))).map (Value.int .i64) := by
  rw [List.range_succ]; simp [ints]
theorem app_step (l : List Nat) (i s : Nat) : app l (i + 1) (drs (i + 1) s) = app (swapL l (i + 1) (dr s (i + 2))) i (drs i (behindOf s)) := by
  rw [drs_succ, app_cons]; rfl
theorem last_step (i s : Nat) : lastOf s (drs (i + 1) s) = lastOf (behindOf s) (drs i (behindOf s)) := by rw [drs_succ, lastOf_cons]
theorem own_some {w : World} {base m n c size : Nat} {e : TypeId} {A : Option Addr} {xs : List Value} (h : w.ownsRow base e size (.slice A m c) n xs) (hn : 0 < n) : ∃ g, A = some ⟨g, 0, none⟩ ∧ m = n := by
  rcases h.2 with ⟨_, h1⟩ | ⟨g, cap, cur, h1, _⟩
  · omega
  · injection h1 with q1 q2 q3; exact ⟨g, q1, q2⟩
theorem own_len {w : World} {base m n c size : Nat} {e : TypeId} {A : Option Addr} {xs : List Value} (h : w.ownsRow base e size (.slice A m c) n xs) : m = n := by
  rcases h.2 with ⟨h1, h2⟩ | ⟨g, cap, cur, h1, _⟩
  · injection h1 with q1 q2 q3; omega
  · injection h1 with q1 q2 q3
/-- Two numbers of a row of the call's own change places. -/
theorem own_swap {W : World} {base g n c i j : Nat} {l : List Nat} (h : W.ownsRow base 3 1 (.slice (some ⟨g, 0, none⟩) n c) n ((ints l).map (Value.int .i64))) (x y : Nat) (hx : l[i]?.getD 0 = x) (hy : l[j]?.getD 0 = y) :
    ((W.setCell ⟨g, i, none⟩ (.int .i64 (y : Nat))).setCell ⟨g, j, none⟩ (.int .i64 (x : Nat))).ownsRow base 3 1 (.slice (some ⟨g, 0, none⟩) n c) n ((ints (swapL l i j)).map (Value.int .i64)) := by
  have h2 := ((h.stored i (.int .i64 (y : Nat))).1.stored j (.int .i64 (x : Nat))).1
  rw [cells_set, cells_set] at h2
  unfold swapL
  rw [hx, hy]
  exact h2
set_option maxRecDepth 100000 in
set_option maxHeartbeats 2000000 in
theorem rShuffle_yes (s n : Nat) (hs : s < 18446744073709551616) (hn : n ≤ 2048) (w : World) : Calls Tryz.prog 6 #[.int .u64 s, .int .i64 n] w fun e w' => ∃ v, e = .returned (.tuple #[v, .int .u64 (shufS s n : Nat), .int .i64 0]) ∧ w'.ownsRow w.heap.size 3 1 v n ((ints (shufL s n)).map (Value.int .i64)) ∧ Below w.heap.size w w' := by
  obtain ⟨F, hF⟩ : ∃ F, shufL s n = F := ⟨_, rfl⟩
  obtain ⟨T, hT⟩ : ∃ T, shufS s n = T := ⟨_, rfl⟩
  rw [hF, hT]
  unfold shufL at hF
  unfold shufS at hT
  have HF := Lib.hid hF
  have HT := Lib.hid hT
  have HSs := Lib.hid hs
  clear hF hT hs
  obtain ⟨i0, hi, hz0, hz1, hz2⟩ := info_parts Tryz.info3i
  have e1 : decide ((n : Int) < 0) = false := decide_eq_false (by omega)
  have e2 : decide ((2048 : Int) < n) = false := decide_eq_false (by omega)
  go_enter Tryz.func6, Tryz.ntmps6
  go_wp2
  have own0 : w.ownsRow w.heap.size 3 1 (.slice none 0 0) 0 ((ints (List.range 0)).map (Value.int .i64)) := own_nil_row w _ 3
  go_loopw [7, 8] (fun v i wr => ∃ j : Nat, j ≤ n ∧ i = .int .i64 j ∧ wr.ownsRow w.heap.size 3 1 v j ((ints (List.range j)).map (Value.int .i64)) ∧ Below w.heap.size w wr) (fun _ i _ => n - (intOf i).toNat)
  case atStart => exact ⟨0, by omega, rfl, own0, Below.refl _ _⟩
  case round =>
    clear own0
    obtain ⟨j, hj, rfl, hown, hB⟩ := hrel
    obtain ⟨A, mm, cc, rfl⟩ := own_form hown
    by_cases hlt : j < n
    · have hz := hB.size
      have hr := Lib.hid (range_more j)
      go_wp2_with (at_builtin; refine wpList_append_own _ rfl _ _ 23 rfl w.heap.size 3 i0 (.int .i64 0) 1 8 Tryz.underlying23 hi hz0 hz1 hz2 rfl (by decide) _ _ _ rfl (hown.alloc _) ⟨wr.heap.size, 0, none⟩ 1 1 [.int .i64 j] rfl rfl (cell_one_new _ _ _) (by simp [Value.oneCell']) (by show j + 1 ≤ 9223372036854775807; omega) (by omega) (by simp; omega) ?_; intro v' w1 hown' hgrow _)
      rw [hr.out] at hown'
      have hB2 := (hB.alloc hz (.cells #[.int .i64 (j : Nat)] 3)).grown hgrow (by simp; omega) (fun r hr => (hown.lt r hr).1)
      go_roundw
      case rel => exact ⟨j + 1, by omega, by go_num, hown', hB2⟩
      case measure => simp [intOf]; omega
    · obtain rfl : j = n := by omega
      obtain rfl := own_len hown
      have HR := Lib.hid (show (List.range mm).length = mm from List.length_range)
      go_wp2
      clear hlt hj
      obtain ⟨p0, hp0⟩ : ∃ p : Int, (mm : Int) - 1 = p := ⟨_, rfl⟩
      have hp1 : p0.toNat = mm - 1 := by omega
      have HF' : Hid (app (List.range mm) p0.toNat (drs p0.toNat s) = F) := by rw [hp1]; exact HF
      have HT' : Hid (lastOf s (drs p0.toNat s) = T) := by rw [hp1]; exact HT
      have hp2 : -1 ≤ p0 ∧ p0 ≤ (mm : Int) - 1 := by omega
      rw [hp0]
      clear hp0 hp1 HF HT
      go_loopw [9, 10] (fun sv pv wz => ∃ (s' : Nat) (p : Int) (l : List Nat), sv = .int .u64 s' ∧ pv = .int .i64 p ∧ (-1 ≤ p ∧ p ≤ (mm : Int) - 1) ∧ Hid (s' < 18446744073709551616) ∧ Hid (l.length = mm) ∧ wz.ownsRow w.heap.size 3 1 (.slice A mm cc) mm ((ints l).map (Value.int .i64)) ∧ Below w.heap.size w wz ∧
        Hid (app l p.toNat (drs p.toNat s') = F) ∧ Hid (lastOf s' (drs p.toNat s') = T)) (fun _ pv _ => (intOf pv).toNat)
      case atStart => exact ⟨s, p0, List.range mm, rfl, rfl, hp2, HSs, HR, hown, hB, HF', HT'⟩
      case round =>
        clear hown hB HF' HT' HR HSs hp2
        obtain ⟨s', p, l, rfl, rfl, hp, Hs, Hl, hown, hB, hA, hL⟩ := hrel
        by_cases hpos : 0 < p
        · obtain ⟨m, rfl⟩ : ∃ m : Nat, p = m := ⟨p.toNat, by omega⟩
          obtain ⟨g, rfl, -⟩ := own_some hown (by omega)
          have HB : Hid (Calls Tryz.prog 16 #[.int .u64 s', .int .i64 ((m : Int) + 1)] wr fun e w' => e = .returned (.tuple #[.int .i64 (dr s' (m + 1) : Nat), .int .u64 (behindOf s' : Nat), .int .i64 0]) ∧ w' = wr) :=
            (refBelow_any s' Hs.out ((m : Int) + 1) wr).mono (fun e w' ⟨h1, h2⟩ => ⟨by unfold BelowYes at h1; rwa [if_pos (by omega), show ((m : Int) + 1).toNat = m + 1 by omega] at h1, h2⟩)
          have hd : dr s' (m + 1) < m + 1 := Nat.mod_lt _ (by omega)
          have hA2 : app (swapL l m (dr s' (m + 1))) (m - 1) (drs (m - 1) (behindOf s')) = F := by
            have := hA.out
            obtain ⟨q, rfl⟩ : ∃ q, m = q + 1 := ⟨m - 1, by omega⟩
            rw [Int.toNat_natCast, app_step] at this
            exact this
          have hL2 : lastOf (behindOf s') (drs (m - 1) (behindOf s')) = T := by
            have := hL.out
            obtain ⟨q, rfl⟩ : ∃ q, m = q + 1 := ⟨m - 1, by omega⟩
            rw [Int.toNat_natCast, last_step] at this
            exact this
          have hb := behindOf_lt s'
          obtain ⟨d, ed⟩ : ∃ d, dr s' (m + 1) = d := ⟨_, rfl⟩
          obtain ⟨b, eb⟩ : ∃ b, behindOf s' = b := ⟨_, rfl⟩
          rw [ed, eb] at HB hA2
          rw [ed] at hd
          rw [eb] at hL2 hb
          clear ed eb
          have HA2 := Lib.hid hA2
          have HL2 := Lib.hid hL2
          have Hb := Lib.hid hb
          clear hA hL hA2 hL2 hb
          have hml : m < l.length := by have := Hl.out; omega
          have hdl : d < l.length := by omega
          have c1 := (hown.cellAt m (by omega)).trans (cells_at hml)
          have c2 := (hown.cellAt d (by omega)).trans (cells_at hdl)
          have f1 := hown.frozenAt m
          obtain ⟨x, hx⟩ : ∃ x, l[m]?.getD 0 = x := ⟨_, rfl⟩
          obtain ⟨y, hy⟩ : ∃ y, l[d]?.getD 0 = y := ⟨_, rfl⟩
          rw [hx] at c1
          rw [hy] at c2
          have h1 := (hown.stored m (.int .i64 (y : Nat))).1
          rw [cells_set] at h1
          have c3 := (h1.cellAt d (by omega)).trans (cells_at (by rw [List.length_set]; exact hdl))
          have f3 := h1.frozenAt d
          have hfin := Lib.hid (own_swap hown x y hx hy)
          have hB2 := Lib.hid ((hB.setCell (p := ⟨g, m, none⟩) (hown.lt g rfl).1 (.int .i64 (y : Nat))).setCell (p := ⟨g, d, none⟩) (hown.lt g rfl).1 (.int .i64 (x : Nat)))
          have Hl2 := Lib.hid (show (swapL l m d).length = mm by rw [swapL_len]; exact Hl.out)
          have hm1 : m < 2048 := by omega
          have hm0 : 0 < m := by omega
          have hmk : m < mm := by omega
          have hdk : d < mm := by omega
          have Hp := Lib.hid hp
          have Hd := Lib.hid hd
          have Hn := Lib.hid hn
          clear h1 hx hy hml hdl hown hB Hl Hs hp hpos hd hn
          go_wp2_with (go_at_call 16; refine HB.out.mono ?_; rintro e w' ⟨rfl, rfl⟩)
          go_roundw
          case rel =>
            refine ⟨b, (m : Int) - 1, swapL l m d, rfl, by go_num, by have := Hp.out; omega, Hb, Hl2, hfin.out, hB2.out, ?_, ?_⟩
            · rw [show ((m : Int) - 1).toNat = m - 1 by omega]; exact HA2
            · rw [show ((m : Int) - 1).toNat = m - 1 by omega]; exact HL2
          case measure => simp [intOf]; omega
        · have hp0 : p.toNat = 0 := by omega
          have hAF : l = F := by have := hA.out; rw [hp0] at this; exact this
          have hLT : s' = T := by have := hL.out; rw [hp0] at this; exact this
          subst hAF hLT
          clear hA hL Hl Hs
          go_wp2
          refine bodyPost_ret (results_tmp3 rfl _ _ _) rfl ?_
          exact ⟨_, rfl, hown, hB⟩
set_option maxRecDepth 100000 in
theorem rShuffle_no (s : Nat) (n : Int) (h : ¬ (0 ≤ n ∧ n ≤ 2048)) (w : World) : Calls Tryz.prog 6 #[.int .u64 s, .int .i64 n] w fun e w' => e = .returned (.tuple #[.slice none 0 0, .int .u64 0, .int .i64 1]) ∧ w' = w := by
  go_enter Tryz.func6, Tryz.ntmps6
  by_cases h1 : n < 0
  · have e1 : decide (n < 0) = true := decide_eq_true h1
    go_wp2
    refine bodyPost_ret (results_tmp3 rfl _ _ _) rfl ?_
    exact ⟨rfl, rfl⟩
  · have e1 : decide (n < 0) = false := decide_eq_false h1
    have e2 : decide (2048 < n) = true := decide_eq_true (by omega)
    go_wp2
    refine bodyPost_ret (results_tmp3 rfl _ _ _) rfl ?_
    exact ⟨rfl, rfl⟩
end Go.Proofs.YtmlfcnjfaonaiaaGreat
