/- Mathematics of shuffles that go on from one another, and the walk of DrawsGoOn. -/
import Derived.Test.YtmlfcnjfaonaiaaDh
import Derived.Deep.QuietTactic
import Derived.BigQuiet
namespace Go.Proofs.Ytmlfcnjfaonaiaa
open Go.RowKit Go.Shelf
set_option linter.unusedVariables false
theorem swapL_snoc (l : List Nat) (y : Nat) {i j : Nat} (hi : i < l.length) (hj : j < l.length) : swapL (l ++ [y]) i j = swapL l i j ++ [y] := by
  unfold swapL
  rw [List.getElem?_append_left hi, List.getElem?_append_left hj, List.set_append_left _ _ hi, List.set_append_left _ _ (by rw [List.length_set]; exact hj)]
theorem swapL_map (f : Nat → Nat) (l : List Nat) {i j : Nat} (hi : i < l.length) (hj : j < l.length) : swapL (l.map f) i j = (swapL l i j).map f := by
  unfold swapL
  rw [List.getElem?_map, List.getElem?_map, List.getElem?_eq_getElem hi, List.getElem?_eq_getElem hj, List.map_set, List.map_set]
  rfl
theorem app_on (f : Nat → Nat) (y : Nat) (i s : Nat) (l : List Nat) (h : i < l.length) : app (l.map f ++ [y]) i (drs i s) = (app l i (drs i s)).map f ++ [y] := by
  induction i generalizing s l with
  | zero => rfl
  | succ i ih =>
    have hm := Nat.mod_lt (numOf (behindOf s)) (show 0 < i + 2 by omega)
    rw [drs_succ, app_cons, app_cons, swapL_snoc _ _ (by rw [List.length_map]; omega) (by rw [List.length_map]; dsimp only; omega), swapL_map f l h (by dsimp only; omega)]
    exact ih _ _ (by rw [swapL_len]; omega)
/-- The last number takes the place of the one that was drawn. -/
def movedTo (x k : Nat) (c : Nat) : Nat := if c = x then k else c
theorem first_swap (j x : Nat) (hx : x < j + 2) : swapL (List.range (j + 2)) (j + 1) x = (List.range (j + 1)).map (movedTo x (j + 1)) ++ [x] := by
  unfold swapL
  rw [List.getElem?_range hx, List.getElem?_range (by omega), Option.getD_some, Option.getD_some]
  apply List.ext_getElem
  · simp
  · intro i h1 h2
    simp only [List.length_set, List.length_range] at h1
    rw [List.getElem_set, List.getElem_set, List.getElem_range]
    by_cases hi : i < j + 1
    · rw [List.getElem_append_left (by simpa using hi), List.getElem_map, List.getElem_range]
      unfold movedTo
      split <;> rename_i h3
      · rw [if_pos h3.symm]
      · rw [if_neg (by omega), if_neg (by omega)]
    · obtain rfl : i = j + 1 := by omega
      rw [List.getElem_append_right (by simp)]
      simp
      omega
theorem goOn_list (s j : Nat) : shufL s (j + 2) = (shufL (behindOf s) (j + 1)).map (movedTo (dr s (j + 2)) (j + 1)) ++ [dr s (j + 2)] := by
  unfold shufL
  have hm := Nat.mod_lt (numOf (behindOf s)) (show 0 < j + 2 by omega)
  rw [show j + 2 - 1 = j + 1 by omega, show j + 1 - 1 = j by omega, drs_succ, app_cons, first_swap j _ hm]
  exact app_on _ _ j (behindOf s) _ (by rw [List.length_range]; omega)
theorem goOn_seed (s j : Nat) : shufS s (j + 2) = shufS (behindOf s) (j + 1) := by
  unfold shufS
  rw [show j + 2 - 1 = j + 1 by omega, show j + 1 - 1 = j by omega, drs_succ, lastOf_cons]
set_option maxRecDepth 100000 in
set_option maxHeartbeats 1000000 in
/-- SameInts, of lists that are the same. -/
theorem sameInts_any (A B : Option Addr) (c d : Nat) (xs : List Int) (w : World) (D : Nat) (hx : Rd .i64 w D A xs) (hy : Rd .i64 w D B xs) (hl : xs.length ≤ 140737488355328) :
    Calls Try.prog 17 #[.slice A xs.length c, .slice B xs.length d] w fun e w' => e = .returned (.bool true) ∧ ∃ nq, w' = w.drewN nq := by
  go_enter Try.func17, Try.ntmps17
  go_wp2
  go_loopw [5] (fun i wr => ∃ k nq : Nat, k ≤ xs.length ∧ i = .int .i64 k ∧ wr = w.drewN nq) (fun i _ => xs.length - (intOf i).toNat)
  case atStart => exact ⟨0, 0, by omega, rfl, rfl⟩
  case round =>
    obtain ⟨k, nq, hk, rfl, rfl⟩ := hrel
    by_cases hlt : k < xs.length
    · obtain ⟨b, off, v, rfl, hbs, hcx, hvx⟩ := hx.at_ hlt
      obtain ⟨b', off', v', rfl, hbs', hcy, hvy⟩ := hy.at_ hlt
      obtain rfl : v = v' := hvx.out.symm.trans hvy.out
      have e : (v != v) = false := by simp
      go_wp2
      go_quiet (fail)
      go_wp2
      go_roundw
      case rel => exact ⟨k + 1, _, by omega, by go_num, rfl⟩
      case measure => simp [intOf]; omega
    · obtain rfl : k = xs.length := by omega
      go_wp2
      go_ret
      exact ⟨rfl, _, rfl⟩
theorem rd_whole {w : World} {g : Nat} {l : List Nat} (h : Whole w g 3 (rowI l)) : Rd .i64 w w.heap.size (some ⟨g, 0, none⟩) (ints l) := fun hl =>
  ⟨g, 0, rfl, h.lt, fun i hi => by rw [ints_len] at hi; rw [h.cell0 i, rowI_at hi, ints_at]⟩
/-- A number appended to a row of numbers. -/
theorem row_more {l : List Nat} {i y : Nat} (h : i < l.length) (hy : l[i]?.getD 0 = y) : ((ints (l.take i)).map (Value.int .i64)) ++ [Value.int .i64 (y : Nat)] = (ints (l.take (i + 1))).map (Value.int .i64) := by
  have e : l.take (i + 1) = l.take i ++ [y] := by rw [List.take_add_one, List.getElem?_eq_getElem h]; rw [List.getElem?_eq_getElem h, Option.getD_some] at hy; rw [hy]; rfl
  rw [e]; simp [ints]
theorem last_cell {W : World} {g x q : Nat} {L M : List Nat} {f : Nat → Nat} (h : Whole W g 3 (rowI L)) (e : L = M.map f ++ [x]) (hm : M.length = q) : W.cell? ⟨g, q, none⟩ = some (.int .i64 (x : Nat)) := by
  have hq : q < L.length := by rw [e, List.length_append, List.length_map, hm]; simp
  rw [h.cell q, rowI_at hq]
  subst e
  rw [List.getElem?_append_right (by rw [List.length_map]; omega), List.length_map, hm, Nat.sub_self]
  rfl
set_option maxRecDepth 100000 in
set_option maxHeartbeats 2000000 in
theorem drawsGoOn_yes (s n : Nat) (hs : s < 18446744073709551616) (hn : n < 65536) (w : World) : Calls Try.prog 8 #[.int .u64 s, .int .u16 n] w fun e w' => e = .returned (.bool true) ∧ Below w.heap.size w w' := by
  obtain ⟨j, hj⟩ : ∃ j, n % 2047 = j := ⟨_, rfl⟩
  have hj1 : j ≤ 2046 := by omega
  have EL := goOn_list s j
  have ES := goOn_seed s j
  have hki : (n : Int) % 2047 + 2 = ((j + 2 : Nat) : Int) := by omega
  have hkq : ((j + 2 : Nat) : Int) - 1 = ((j + 1 : Nat) : Int) := by omega
  have HS := callsIn_wide.1 (shuffle_yes s (j + 2) (by omega) w)
  have HB : ∀ w, Calls Try.prog 12 #[.int .u64 s, .int .i64 ((j + 2 : Nat) : Int)] w fun e w' => e = .returned (.tuple #[.int .i64 (dr s (j + 2) : Nat), .int .u64 (behindOf s : Nat), .int .i64 0]) ∧ w' = w :=
    fun w => (Below_any s ((j + 2 : Nat) : Int) w).mono (fun e w' ⟨h1, h2⟩ => ⟨by unfold BelowYes at h1; rwa [if_pos (by omega), Int.toNat_natCast] at h1, h2⟩)
  have HM := fun w => callsIn_wide.1 (shuffle_yes (behindOf s) (j + 1) (by omega) w)
  have L1 := shufL_len s (j + 2)
  have L2 := shufL_len (behindOf s) (j + 1)
  rw [ES] at HS
  obtain ⟨k, hk⟩ : ∃ k, j + 2 = k := ⟨_, rfl⟩
  obtain ⟨q, hq⟩ : ∃ q, j + 1 = q := ⟨_, rfl⟩
  have hqk : k = q + 1 := by omega
  have hq1 : q ≤ 2047 := by omega
  rw [hk] at EL hki hkq HS HB L1
  rw [hq] at EL hkq HS HM L2
  obtain ⟨L, eL⟩ : ∃ L, shufL s k = L := ⟨_, rfl⟩
  obtain ⟨M, eM⟩ : ∃ L, shufL (behindOf s) q = L := ⟨_, rfl⟩
  obtain ⟨t, et⟩ : ∃ L, shufS (behindOf s) q = L := ⟨_, rfl⟩
  obtain ⟨x, ex⟩ : ∃ L, dr s k = L := ⟨_, rfl⟩
  obtain ⟨b, eb⟩ : ∃ L, behindOf s = L := ⟨_, rfl⟩
  rw [eM] at EL HM L2
  rw [eL] at EL HS L1
  rw [et] at HS HM
  rw [ex] at EL HB
  simp only [eb] at HB HM
  clear hk hq hj hj1 ES eL eM et ex eb
  have HS' := Lib.hid HS
  clear HS
  have HB' := Lib.hid HB
  clear HB
  have HM' := Lib.hid HM
  clear HM
  have L1' := Lib.hid L1
  clear L1
  have L2' := Lib.hid L2
  clear L2
  have EL' := Lib.hid EL
  clear EL
  have hqk' := Lib.hid hqk
  clear hqk
  have HA := Lib.hid (fun w => alive_any w)
  obtain ⟨i0, hi, hz0, hz1, hz2⟩ := info_parts Try.info3i
  go_enter Try.func8, Try.ntmps8
  go_wp2_with (first
    | (go_at_call 15; (with_reducible refine HS'.out.mono ?_); rintro e W1 ⟨g, rfl, hg, hw, hb⟩; have HW := Lib.hid hw; clear hw)
    | (go_at_call 12; (with_reducible refine (HB'.out _).mono ?_); rintro e w1 ⟨rfl, rfl⟩)
    | (go_at_call 15; (with_reducible refine (HM'.out _).mono ?_); rintro e W2 ⟨m, rfl, hm, hwm, hbm⟩; have HWM := Lib.hid hwm; clear hwm)
    | (go_at_call 14; refine (HA.out _).mono ?_; rintro e W3 ⟨rfl, hb3⟩; have WG := Lib.hid ((HW.out.below hbm HW.out.lt).below hb3 (Nat.lt_of_lt_of_le HW.out.lt hbm.size)); have WM := Lib.hid (HWM.out.below hb3 HWM.out.lt); have cq := last_cell WG.out EL'.out L2'.out))
  have bB := Lib.hid ((hb.trans (hbm.mono hb.size)).trans (hb3.mono (Nat.le_trans hb.size hbm.size)))
  clear HS' HB' HM' HA cq hb hbm hb3 HW HWM hki
  have own0 : W3.ownsRow W3.heap.size 3 1 (.slice none 0 0) 0 ((ints ((M.map (movedTo x q)).take 0)).map (Value.int .i64)) := own_nil_row W3 _ 3
  obtain ⟨G, hG⟩ : ∃ G, (M.map (movedTo x q)) = G := ⟨_, rfl⟩
  have hGl : G.length = q := by rw [← hG, List.length_map]; exact L2'.out
  have hGi : ∀ i, i < q → G[i]?.getD 0 = movedTo x q (M[i]?.getD 0) := fun i hi => by
    rw [← hG, List.getElem?_map, List.getElem?_eq_getElem (by have := L2'.out; omega)]; rfl
  rw [hG] at own0
  have hGl := Lib.hid hGl
  have hGi := Lib.hid hGi
  have HLG := Lib.hid (show L = G ++ [x] by rw [← hG]; exact EL'.out)
  clear hG
  go_loopw [15, 16] (fun v i wr => ∃ j : Nat, j ≤ q ∧ i = .int .i64 j ∧ wr.ownsRow W3.heap.size 3 1 v j ((ints (G.take j)).map (Value.int .i64)) ∧ Below W3.heap.size W3 wr) (fun _ i _ => q - (intOf i).toNat)
  case atStart => exact ⟨0, by omega, rfl, own0, Below.refl _ _⟩
  case round =>
    clear own0
    obtain ⟨j, hj, rfl, hown, hB⟩ := hrel
    obtain ⟨A, mm, cc, rfl⟩ := own_form hown
    by_cases hlt : j < q
    · have hjM : j < M.length := by have := L2'.out; omega
      have c1 := ((WM.out.below hB WM.out.lt).cell j).trans (rowI_at hjM)
      have hx := hGi.out j hlt
      have hz := hB.size
      have hjG : j < G.length := by have := hGl.out; omega
      have row := fun y (hy : G[j]?.getD 0 = y) => row_more hjG hy
      have hr := Lib.hid row
      clear row hjM hjG
      revert c1 hx
      generalize M[j]?.getD 0 = c
      intro c1 hx
      have HX := Lib.hid hx
      by_cases hcx : c = x
      · have e1 : ((c : Int) == (x : Int)) = true := by simp [hcx]
        have hy : G[j]?.getD 0 = q := by rw [HX.out]; unfold movedTo; rw [if_pos hcx]
        have hr := Lib.hid (hr.out q hy)
        have hq2 := Lib.hid hq1
        clear hx hy hcx HX
        go_wp2_with (at_builtin; refine wpList_append_own _ rfl _ _ 34 rfl W3.heap.size 3 i0 (.int .i64 0) 1 8 Try.underlying34 hi hz0 hz1 hz2 rfl (by decide) _ _ _ rfl (hown.alloc _) ⟨wr.heap.size, 0, none⟩ 1 1 [.int .i64 q] rfl rfl (cell_one_new _ _ _) (by simp [Value.oneCell']) (by show j + 1 ≤ 9223372036854775807; omega) (by omega) (by simp; omega) ?_; intro v' w1 hown' hgrow _)
        rw [hr.out] at hown'
        have hB2 := (hB.alloc hz (.cells #[.int .i64 (q : Nat)] 3)).grown hgrow (by simp; omega) (fun r hr => (hown.lt r hr).1)
        go_roundw
        case rel => exact ⟨j + 1, by omega, by go_num, hown', hB2⟩
        case measure => simp [intOf]; omega
      · have e1 : ((c : Int) == (x : Int)) = false := by rw [beq_eq_false_iff_ne]; omega
        have hy : G[j]?.getD 0 = c := by rw [HX.out]; unfold movedTo; rw [if_neg hcx]
        have hr := Lib.hid (hr.out c hy)
        have hq2 := Lib.hid hq1
        clear hx hy hcx HX
        go_wp2_with (at_builtin; refine wpList_append_own _ rfl _ _ 34 rfl W3.heap.size 3 i0 (.int .i64 0) 1 8 Try.underlying34 hi hz0 hz1 hz2 rfl (by decide) _ _ _ rfl (hown.alloc _) ⟨wr.heap.size, 0, none⟩ 1 1 [.int .i64 c] rfl rfl (cell_one_new _ _ _) (by simp [Value.oneCell']) (by show j + 1 ≤ 9223372036854775807; omega) (by omega) (by simp; omega) ?_; intro v' w1 hown' hgrow _)
        rw [hr.out] at hown'
        have hB2 := (hB.alloc hz (.cells #[.int .i64 (c : Nat)] 3)).grown hgrow (by simp; omega) (fun r hr => (hown.lt r hr).1)
        go_roundw
        case rel => exact ⟨j + 1, by omega, by go_num, hown', hB2⟩
        case measure => simp [intOf]; omega
    · obtain rfl : j = q := by omega
      obtain ⟨A', c', hv, hn2, hcap, hrd, hnil⟩ := own_slice hown
      cases hv
      have hGj : G.take j = G := List.take_of_length_le (by have := hGl.out; omega)
      have eGl : (ints G).length = j := by rw [ints_len]; exact hGl.out
      rw [hGj] at hrd ⊢
      have r1 := (rd_whole (WG.out.below hB WG.out.lt)).take j
      rw [ints_take, HLG.out, List.take_left' hGl.out] at r1
      have HSI := sameInts_any (some ⟨g, 0, none⟩) A k cc (ints G) wr wr.heap.size r1 hrd (by omega)
      rw [eGl] at HSI ⊢
      have HSI := Lib.hid HSI
      have HB := Lib.hid hB
      have hjk : j ≤ k := by have := hqk'.out; omega
      clear hown hcap hrd hnil hn2 hGj eGl r1 hB
      go_wp2_with (go_at_call 17; (with_reducible refine HSI.out.mono ?_); rintro e w4 ⟨rfl, nq, rfl⟩)
      go_ret
      exact ⟨rfl, below_drewN (bB.out.trans (HB.out.mono bB.out.size)) nq⟩
end Go.Proofs.Ytmlfcnjfaonaiaa
