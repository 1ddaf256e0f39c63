/- Several texts in one. -/
import Derived.Test.YthbimjkcpmffcaaGreatDd
import Derived.OwnWalk
import Derived.Deep.QuietTactic
import Derived.BigQuiet
import Derived.Test.YthbimjkcpmffcaaGreatDg
/- The walks of the document's Next and Below. -/
namespace Go.Proofs.YthbimjkcpmffcaaGreat
open Go.RowKit
set_option linter.unusedVariables false
set_option maxRecDepth 100000 in
theorem refNext_any (s : Nat) (hs : s < 18446744073709551616) (w : World) : Calls Tryz.prog 168 #[.int .u64 s] w fun e w' => e = .returned (.tuple #[.int .u64 (numOf (behindOf s) : Nat), .int .u64 (behindOf s : Nat)]) ∧ w' = w := by
  have e0 := behind_int s
  have hb := behindOf_lt s
  revert e0 hb
  generalize behindOf s = b
  intro e0 hb
  have e1 := mixA_int b hb
  obtain ⟨x, hx⟩ : ∃ x, mixA b = x := ⟨_, rfl⟩
  have hx2 : x < 18446744073709551616 := hx ▸ mixA_lt b
  have e2 := mixB_int x hx2
  obtain ⟨y, hy⟩ : ∃ y, mixB x = y := ⟨_, rfl⟩
  have hy2 : y < 18446744073709551616 := hy ▸ mixB_lt x
  have e3 := mixC_int y hy2
  obtain ⟨z, hz⟩ : ∃ z, mixC y = z := ⟨_, rfl⟩
  have HE := num_eq b x y z hx hy hz
  rw [HE]
  rw [hx] at e1
  rw [hy] at e2
  rw [hz] at e3
  clear HE hx hy hz hx2 hy2 hb
  go_enter Tryz.func168, Tryz.ntmps168
  go_wp2
  refine bodyPost_ret (results_tmp2 rfl _ _ _) rfl ?_
  exact ⟨rfl, rfl⟩
/-- What Below answers, of any number. -/
def BelowYes (s : Nat) (n : Int) (e : Ending) : Prop :=
  if 1 ≤ n ∧ n ≤ 2147483647 then e = .returned (.tuple #[.int .i64 (dr s n.toNat : Nat), .int .u64 (behindOf s : Nat), .int .i64 0]) else e = .returned (.tuple #[.int .i64 0, .int .u64 0, .int .i64 1])
theorem BelowYes.yes (s : Nat) (n : Int) (h1 : 1 ≤ n) (h2 : n ≤ 2147483647) : BelowYes s n (.returned (.tuple #[.int .i64 (dr s n.toNat : Nat), .int .u64 (behindOf s : Nat), .int .i64 0])) := by
  unfold BelowYes; rw [if_pos ⟨h1, h2⟩]
theorem BelowYes.no (s : Nat) (n : Int) (h : ¬ (1 ≤ n ∧ n ≤ 2147483647)) : BelowYes s n (.returned (.tuple #[.int .i64 0, .int .u64 0, .int .i64 1])) := by
  unfold BelowYes; rw [if_neg h]
set_option maxRecDepth 100000 in
theorem refBelow_any (s : Nat) (hs : s < 18446744073709551616) (n : Int) (w : World) : Calls Tryz.prog 150 #[.int .u64 s, .int .i64 n] w fun e w' => BelowYes s n e ∧ w' = w := by
  go_enter Tryz.func150, Tryz.ntmps150
  by_cases h : 1 ≤ n ∧ n ≤ 2147483647
  · obtain ⟨h1, h2⟩ := h
    have HY := Lib.hid (BelowYes.yes s n h1 h2)
    obtain ⟨m, rfl⟩ := Int.eq_ofNat_of_zero_le (show 0 ≤ n by omega)
    have HN := Lib.hid (refNext_any s hs w)
    rw [Int.toNat_natCast] at HY
    unfold dr at HY
    have hx := numOf_lt (behindOf s)
    revert HN hx HY
    generalize behindOf s = b
    generalize numOf b = x
    intro HY HN hx
    have hm := Nat.mod_lt x (show 0 < m by omega)
    have e1 : decide ((m : Int) < 1) = false := decide_eq_false (by omega)
    have e2 : decide ((2147483647 : Int) < m) = false := decide_eq_false (by omega)
    go_wp2_with (go_at_call 168; refine HN.out.mono ?_; rintro e w' ⟨rfl, rfl⟩)
    refine bodyPost_ret (results_tmp3 rfl _ _ _) rfl ?_
    exact ⟨HY.out, rfl⟩
  · have HY := Lib.hid (BelowYes.no s n h)
    by_cases h1 : n < 1
    · have e1 : decide (n < 1) = true := decide_eq_true h1
      go_wp2
      refine bodyPost_ret (results_tmp3 rfl _ _ _) rfl ?_
      exact ⟨HY.out, rfl⟩
    · have e1 : decide (n < 1) = false := decide_eq_false h1
      have e2 : decide (2147483647 < n) = true := decide_eq_true (by omega)
      go_wp2
      refine bodyPost_ret (results_tmp3 rfl _ _ _) rfl ?_
      exact ⟨HY.out, rfl⟩
end Go.Proofs.YthbimjkcpmffcaaGreat
/- The walk of the document's Shuffle. -/
namespace Go.Proofs.YthbimjkcpmffcaaGreat
open Go.RowKit Go.Shelf
set_option linter.unusedVariables false
theorem cells_set (l : List Nat) (i x : Nat) : ((ints l).map (Value.int .i64)).set i (Value.int .i64 (x : Nat)) = (ints (l.set i x)).map (Value.int .i64) := by simp [ints, List.map_set]
theorem cells_at {l : List Nat} {i : Nat} (h : i < l.length) : ((ints l).map (Value.int .i64))[i]? = some (.int .i64 ((l[i]?.getD 0 : Nat) : Int)) := by simp [ints, List.getElem?_eq_getElem h]
theorem range_more (j : Nat) : ((ints (List.range j)).map (Value.int .i64)) ++ [Value.int .i64 (j : Nat)] = (ints (List.range (j + 1))).map (Value.int .i64) := by
  rw [List.range_succ]; simp [ints]
theorem app_step (l : List Nat) (i s : Nat) : app l (i + 1) (drs (i + 1) s) = app (swapL l (i + 1) (dr s (i + 2))) i (drs i (behindOf s)) := by
  rw [drs_succ, app_cons]; rfl
theorem last_step (i s : Nat) : lastOf s (drs (i + 1) s) = lastOf (behindOf s) (drs i (behindOf s)) := by rw [drs_succ, lastOf_cons]
/-- Two numbers of a row of the call's own change places. -/
theorem own_swap {W : World} {base g n c i j : Nat} {l : List Nat} (h : W.ownsRow base 3 1 (.slice (some ⟨g, 0, none⟩) n c) n ((ints l).map (Value.int .i64))) (x y : Nat) (hx : l[i]?.getD 0 = x) (hy : l[j]?.getD 0 = y) :
    ((W.setCell ⟨g, i, none⟩ (.int .i64 (y : Nat))).setCell ⟨g, j, none⟩ (.int .i64 (x : Nat))).ownsRow base 3 1 (.slice (some ⟨g, 0, none⟩) n c) n ((ints (swapL l i j)).map (Value.int .i64)) := by
  have h2 := ((h.stored i (.int .i64 (y : Nat))).1.stored j (.int .i64 (x : Nat))).1
  rw [cells_set, cells_set] at h2
  unfold swapL
  rw [hx, hy]
  exact h2
set_option maxRecDepth 100000 in
set_option maxHeartbeats 2000000 in
theorem rShuffle_yes (s n : Nat) (hs : s < 18446744073709551616) (hn : n ≤ 2048) (w : World) : Calls Tryz.prog 139 #[.int .u64 s, .int .i64 n] w fun e w' => ∃ v, e = .returned (.tuple #[v, .int .u64 (shufS s n : Nat), .int .i64 0]) ∧ w'.ownsRow w.heap.size 3 1 v n ((ints (shufL s n)).map (Value.int .i64)) ∧ Below w.heap.size w w' := by
  obtain ⟨F, hF⟩ : ∃ F, shufL s n = F := ⟨_, rfl⟩
  obtain ⟨T, hT⟩ : ∃ T, shufS s n = T := ⟨_, rfl⟩
  rw [hF, hT]
  unfold shufL at hF
  unfold shufS at hT
  have HF := Lib.hid hF
  have HT := Lib.hid hT
  have HSs := Lib.hid hs
  clear hF hT hs
  obtain ⟨i0, hi, hz0, hz1, hz2⟩ := info_parts Tryz.info3i
  have e1 : decide ((n : Int) < 0) = false := decide_eq_false (by omega)
  have e2 : decide ((2048 : Int) < n) = false := decide_eq_false (by omega)
  go_enter Tryz.func139, Tryz.ntmps139
  go_wp2
  have own0 : w.ownsRow w.heap.size 3 1 (.slice none 0 0) 0 ((ints (List.range 0)).map (Value.int .i64)) := own_nil_row w _ 3
  go_loopw [7, 8] (fun v i wr => ∃ j : Nat, j ≤ n ∧ i = .int .i64 j ∧ wr.ownsRow w.heap.size 3 1 v j ((ints (List.range j)).map (Value.int .i64)) ∧ Below w.heap.size w wr) (fun _ i _ => n - (intOf i).toNat)
  case atStart => exact ⟨0, by omega, rfl, own0, Below.refl _ _⟩
  case round =>
    clear own0
    obtain ⟨j, hj, rfl, hown, hB⟩ := hrel
    obtain ⟨A, mm, cc, rfl⟩ := own_form hown
    by_cases hlt : j < n
    · have hz := hB.size
      have hr := Lib.hid (range_more j)
      go_wp2_with (at_builtin; refine wpList_append_own _ rfl _ _ 73 rfl w.heap.size 3 i0 (.int .i64 0) 1 8 Tryz.underlying73 hi hz0 hz1 hz2 rfl (by decide) _ _ _ rfl (hown.alloc _) ⟨wr.heap.size, 0, none⟩ 1 1 [.int .i64 j] rfl rfl (cell_one_new _ _ _) (by simp [Value.oneCell']) (by show j + 1 ≤ 9223372036854775807; omega) (by omega) (by simp; omega) ?_; intro v' w1 hown' hgrow _)
      rw [hr.out] at hown'
      have hB2 := (hB.alloc hz (.cells #[.int .i64 (j : Nat)] 3)).grown hgrow (by simp; omega) (fun r hr => (hown.lt r hr).1)
      go_roundw
      case rel => exact ⟨j + 1, by omega, by go_num, hown', hB2⟩
      case measure => simp [intOf]; omega
    · obtain rfl : j = n := by omega
      obtain rfl := own_len hown
      have HR := Lib.hid (show (List.range mm).length = mm from List.length_range)
      go_wp2
      clear hlt hj
      obtain ⟨p0, hp0⟩ : ∃ p : Int, (mm : Int) - 1 = p := ⟨_, rfl⟩
      have hp1 : p0.toNat = mm - 1 := by omega
      have HF' : Hid (app (List.range mm) p0.toNat (drs p0.toNat s) = F) := by rw [hp1]; exact HF
      have HT' : Hid (lastOf s (drs p0.toNat s) = T) := by rw [hp1]; exact HT
      have hp2 : -1 ≤ p0 ∧ p0 ≤ (mm : Int) - 1 := by omega
      rw [hp0]
      clear hp0 hp1 HF HT
      go_loopw [9, 10] (fun sv pv wz => ∃ (s' : Nat) (p : Int) (l : List Nat), sv = .int .u64 s' ∧ pv = .int .i64 p ∧ (-1 ≤ p ∧ p ≤ (mm : Int) - 1) ∧ Hid (s' < 18446744073709551616) ∧ Hid (l.length = mm) ∧ wz.ownsRow w.heap.size 3 1 (.slice A mm cc) mm ((ints l).map (Value.int .i64)) ∧ Below w.heap.size w wz ∧
        Hid (app l p.toNat (drs p.toNat s') = F) ∧ Hid (lastOf s' (drs p.toNat s') = T)) (fun _ pv _ => (intOf pv).toNat)
      case atStart => exact ⟨s, p0, List.range mm, rfl, rfl, hp2, HSs, HR, hown, hB, HF', HT'⟩
      case round =>
        clear hown hB HF' HT' HR HSs hp2
        obtain ⟨s', p, l, rfl, rfl, hp, Hs, Hl, hown, hB, hA, hL⟩ := hrel
        by_cases hpos : 0 < p
        · obtain ⟨m, rfl⟩ : ∃ m : Nat, p = m := ⟨p.toNat, by omega⟩
          obtain ⟨g, rfl, -⟩ := own_some hown (by omega)
          have HB : Hid (Calls Tryz.prog 150 #[.int .u64 s', .int .i64 ((m : Int) + 1)] wr fun e w' => e = .returned (.tuple #[.int .i64 (dr s' (m + 1) : Nat), .int .u64 (behindOf s' : Nat), .int .i64 0]) ∧ w' = wr) :=
            (refBelow_any s' Hs.out ((m : Int) + 1) wr).mono (fun e w' ⟨h1, h2⟩ => ⟨by unfold BelowYes at h1; rwa [if_pos (by omega), show ((m : Int) + 1).toNat = m + 1 by omega] at h1, h2⟩)
          have hd : dr s' (m + 1) < m + 1 := Nat.mod_lt _ (by omega)
          have hA2 : app (swapL l m (dr s' (m + 1))) (m - 1) (drs (m - 1) (behindOf s')) = F := by
            have := hA.out
            obtain ⟨q, rfl⟩ : ∃ q, m = q + 1 := ⟨m - 1, by omega⟩
            rw [Int.toNat_natCast, app_step] at this
            exact this
          have hL2 : lastOf (behindOf s') (drs (m - 1) (behindOf s')) = T := by
            have := hL.out
            obtain ⟨q, rfl⟩ : ∃ q, m = q + 1 := ⟨m - 1, by omega⟩
            rw [Int.toNat_natCast, last_step] at this
            exact this
          have hb := behindOf_lt s'
          obtain ⟨d, ed⟩ : ∃ d, dr s' (m + 1) = d := ⟨_, rfl⟩
          obtain ⟨b, eb⟩ : ∃ b, behindOf s' = b := ⟨_, rfl⟩
          rw [ed, eb] at HB hA2
          rw [ed] at hd
          rw [eb] at hL2 hb
          clear ed eb
          have HA2 := Lib.hid hA2
          have HL2 := Lib.hid hL2
          have Hb := Lib.hid hb
          clear hA hL hA2 hL2 hb
          have hml : m < l.length := by have := Hl.out; omega
          have hdl : d < l.length := by omega
          have c1 := (hown.cellAt m (by omega)).trans (cells_at hml)
          have c2 := (hown.cellAt d (by omega)).trans (cells_at hdl)
          have f1 := hown.frozenAt m
          obtain ⟨x, hx⟩ : ∃ x, l[m]?.getD 0 = x := ⟨_, rfl⟩
          obtain ⟨y, hy⟩ : ∃ y, l[d]?.getD 0 = y := ⟨_, rfl⟩
          rw [hx] at c1
          rw [hy] at c2
          have h1 := (hown.stored m (.int .i64 (y : Nat))).1
          rw [cells_set] at h1
          have c3 := (h1.cellAt d (by omega)).trans (cells_at (by rw [List.length_set]; exact hdl))
          have f3 := h1.frozenAt d
          have hfin := Lib.hid (own_swap hown x y hx hy)
          have hB2 := Lib.hid ((hB.setCell (p := ⟨g, m, none⟩) (hown.lt g rfl).1 (.int .i64 (y : Nat))).setCell (p := ⟨g, d, none⟩) (hown.lt g rfl).1 (.int .i64 (x : Nat)))
          have Hl2 := Lib.hid (show (swapL l m d).length = mm by rw [swapL_len]; exact Hl.out)
          have hm1 : m < 2048 := by omega
          have hm0 : 0 < m := by omega
          have hmk : m < mm := by omega
          have hdk : d < mm := by omega
          have Hp := Lib.hid hp
          have Hd := Lib.hid hd
          have Hn := Lib.hid hn
          clear h1 hx hy hml hdl hown hB Hl Hs hp hpos hd hn
          go_wp2_with (go_at_call 150; refine HB.out.mono ?_; rintro e w' ⟨rfl, rfl⟩)
          go_roundw
          case rel =>
            refine ⟨b, (m : Int) - 1, swapL l m d, rfl, by go_num, by have := Hp.out; omega, Hb, Hl2, hfin.out, hB2.out, ?_, ?_⟩
            · rw [show ((m : Int) - 1).toNat = m - 1 by omega]; exact HA2
            · rw [show ((m : Int) - 1).toNat = m - 1 by omega]; exact HL2
          case measure => simp [intOf]; omega
        · have hp0 : p.toNat = 0 := by omega
          have hAF : l = F := by have := hA.out; rw [hp0] at this; exact this
          have hLT : s' = T := by have := hL.out; rw [hp0] at this; exact this
          subst hAF hLT
          clear hA hL Hl Hs
          go_wp2
          refine bodyPost_ret (results_tmp3 rfl _ _ _) rfl ?_
          exact ⟨_, rfl, hown, hB⟩
set_option maxRecDepth 100000 in
theorem rShuffle_no (s : Nat) (n : Int) (h : ¬ (0 ≤ n ∧ n ≤ 2048)) (w : World) : Calls Tryz.prog 139 #[.int .u64 s, .int .i64 n] w fun e w' => e = .returned (.tuple #[.slice none 0 0, .int .u64 0, .int .i64 1]) ∧ w' = w := by
  go_enter Tryz.func139, Tryz.ntmps139
  by_cases h1 : n < 0
  · have e1 : decide (n < 0) = true := decide_eq_true h1
    go_wp2
    refine bodyPost_ret (results_tmp3 rfl _ _ _) rfl ?_
    exact ⟨rfl, rfl⟩
  · have e1 : decide (n < 0) = false := decide_eq_false h1
    have e2 : decide (2048 < n) = true := decide_eq_true (by omega)
    go_wp2
    refine bodyPost_ret (results_tmp3 rfl _ _ _) rfl ?_
    exact ⟨rfl, rfl⟩
end Go.Proofs.YthbimjkcpmffcaaGreat
/- The walk of the document's Pick. -/
namespace Go.Proofs.YthbimjkcpmffcaaGreat
open Go.RowKit Go.Shelf
set_option linter.unusedVariables false
/-- Which numbers below k are on a list, as cells. -/
def rowB (l : List Nat) (k : Nat) : Array Value := ((List.range k).map fun j => Value.bool (decide (j ∈ l))).toArray
theorem rowB_at {l : List Nat} {k x : Nat} (h : x < k) : (rowB l k)[x]? = some (.bool (decide (x ∈ l))) := by
  simp [rowB, h]
theorem rowB_set (l : List Nat) (k x : Nat) : (rowB l k).setIfInBounds x (.bool true) = rowB (l ++ [x]) k := by
  unfold rowB
  apply Array.ext'
  simp only [Array.toList_setIfInBounds]
  apply List.ext_getElem
  · simp
  · intro j h1 h2
    rw [List.getElem_set]
    simp only [List.getElem_map, List.getElem_range, List.mem_append, List.mem_singleton]
    by_cases h : x = j
    · subst h; simp
    · have h3 : ¬ j = x := fun e => h e.symm
      simp [h, h3]
theorem made_rowB (k : Nat) : madeCells #[Value.bool false] k = rowB [] k := by
  apply Array.ext'
  apply List.ext_getElem
  · simp [rowB, madeCells]
  · intro j h1 h2
    simp [rowB, madeCells, Nat.mod_one]
theorem Tryz.info4b : (Tryz.prog.info? 4).map (fun i => (i.zero, i.size, i.bytes)) = some (some (.bool false), 1, 1) := by kernel_rfl
theorem take_snoc {l : List Nat} {i : Nat} (h : i < l.length) : l.take (i + 1) = l.take i ++ [l[i]?.getD 0] := by
  rw [List.take_add_one, List.getElem?_eq_getElem h]; rfl
theorem pickL_yes {j : Nat} {t : List Nat} (h : j ∈ t) : ((ints (pickL j t)).map (Value.int .i64)) ++ [Value.int .i64 (j : Nat)] = (ints (pickL (j + 1) t)).map (Value.int .i64) := by
  have e : pickL (j + 1) t = pickL j t ++ [j] := by unfold pickL; rw [List.range_succ, List.filter_append]; simp [h]
  rw [e]; simp [ints]
theorem pickL_yes_len {j : Nat} {t : List Nat} (h : j ∈ t) : (pickL (j + 1) t).length = (pickL j t).length + 1 := by
  unfold pickL; rw [List.range_succ, List.filter_append]; simp [h]
theorem pickL_no {j : Nat} {t : List Nat} (h : ¬ j ∈ t) : pickL (j + 1) t = pickL j t := by
  unfold pickL; rw [List.range_succ, List.filter_append]; simp [h]
theorem pickL_le (j : Nat) (t : List Nat) : (pickL j t).length ≤ j := by
  unfold pickL; exact Nat.le_trans (List.length_filter_le _ _) (by simp)
set_option maxRecDepth 100000 in
set_option maxHeartbeats 2000000 in
theorem rPick_yes (s n k : Nat) (hs : s < 18446744073709551616) (hn : n ≤ 2048) (hk : k ≤ n) (w : World) : Calls Tryz.prog 126 #[.int .u64 s, .int .i64 n, .int .i64 k] w fun e w' => ∃ v, e = .returned (.tuple #[v, .int .u64 (shufS s n : Nat), .int .i64 0]) ∧ w'.ownsRow w.heap.size 3 1 v k ((ints (pkL s n k)).map (Value.int .i64)) ∧ Below w.heap.size w w' := by
  have HS0 := rShuffle_yes s n hs hn w
  have hP : pkL s n k = pickL n ((shufL s n).take k) := rfl
  have hPl := pkL_len (s := s) hk
  have hlen := shufL_len s n
  have hlt : ∀ i, i < n → (shufL s n)[i]?.getD 0 < n := fun i h => shufL_lt h
  obtain ⟨L, eL⟩ : ∃ L, shufL s n = L := ⟨_, rfl⟩
  obtain ⟨T, eT⟩ : ∃ T, shufS s n = T := ⟨_, rfl⟩
  obtain ⟨P, eP⟩ : ∃ P, pkL s n k = P := ⟨_, rfl⟩
  rw [eL, eT] at HS0
  rw [eP, eL] at hP
  rw [eP] at hPl
  rw [eL] at hlen
  simp only [eL] at hlt
  rw [eT, eP]
  have HS := Lib.hid HS0
  have HP := Lib.hid hP
  have HPL := Lib.hid hPl
  have HL := Lib.hid hlen
  have HLT := Lib.hid hlt
  clear eL eT eP HS0 hP hPl hlen hlt hs
  obtain ⟨i0, hi, hz0, hz1, hz2⟩ := info_parts Tryz.info3i
  obtain ⟨i1, hi1, hy0, hy1, hy2⟩ := info_parts Tryz.info4b
  have hmk : ∀ w : World, (Instr.makeSlice 179 (.int .i64 (n : Int)) (.int .i64 (n : Int))).run Tryz.prog w = .ok (.slice (some ⟨w.heap.size, 0, none⟩) n n) (w.alloc (.cells (rowB [] n) 4)) := fun w => by
    have := run_make (P := Tryz.prog) w 179 4 i1 (.bool false) Tryz.underlying179 hi1 hy0 .i64 .i64 (n : Int) (n : Int) (by omega) (by omega) (by rw [hy2]; omega) (by omega)
    rw [this, hy1, Nat.mul_one, Int.toNat_natCast, show (Value.bool false).cells = #[Value.bool false] by rfl, made_rowB]
  have e1 : decide ((n : Int) < 0) = false := decide_eq_false (by omega)
  have e2 : decide ((2048 : Int) < n) = false := decide_eq_false (by omega)
  have e3 : decide ((k : Int) < 0) = false := decide_eq_false (by omega)
  have e4 : decide ((n : Int) < k) = false := decide_eq_false (by omega)
  go_enter Tryz.func126, Tryz.ntmps126
  go_wp2_with (go_at_call 139; refine HS.out.mono ?_; rintro e W1 ⟨v, rfl, hown, hb⟩)
  obtain ⟨A, mm, cc, rfl⟩ := own_form hown
  obtain rfl := own_len hown
  have w0 : Whole (W1.alloc (.cells (rowB [] mm) 4)) W1.heap.size 4 (rowB (L.take 0) mm) := Whole.new W1 4 _
  have own0 := hown.alloc (.cells (rowB [] mm) 4)
  have w2 : Below w.heap.size w (W1.alloc (.cells (rowB [] mm) 4)) := hb.alloc hb.size _
  have hbs := hb.size
  clear hmk hown hb
  obtain ⟨b, hbb⟩ : ∃ b, W1.heap.size = b := ⟨_, rfl⟩
  rw [hbb] at w0 hbs ⊢
  clear hbb
  obtain ⟨W0, eW⟩ : ∃ W0, W1.alloc (.cells (rowB [] mm) 4) = W0 := ⟨_, rfl⟩
  rw [eW] at w0 own0 w2 ⊢
  clear eW
  go_loopw [13] (fun i wr => ∃ j : Nat, j ≤ k ∧ i = .int .i64 j ∧ Whole wr b 4 (rowB (L.take j) mm) ∧ wr.ownsRow w.heap.size 3 1 (.slice A mm cc) mm ((ints L).map (Value.int .i64)) ∧ Below w.heap.size w wr) (fun i _ => k - (intOf i).toNat)
  case atStart => exact ⟨0, by omega, rfl, w0, own0, w2⟩
  case round =>
    clear w0 own0 w2
    obtain ⟨j, hj, rfl, w0, hown, w2⟩ := hrel
    by_cases hlt : j < k
    · have hjm : j < mm := by omega
      have hx := HLT.out j hjm
      have hjl : j < L.length := by have := HL.out; omega
      obtain ⟨g, rfl, -⟩ := own_some hown (by omega)
      have c1 := (hown.cellAt j (by omega)).trans (cells_at hjl)
      have w3 := w0.set (L[j]?.getD 0) (.bool true)
      rw [rowB_set, ← take_snoc hjl] at w3
      obtain ⟨x, ex⟩ : ∃ x, L[j]?.getD 0 = x := ⟨_, rfl⟩
      rw [ex] at hx c1 w3
      have c2 := (w0.cell x).trans (rowB_at hx)
      have f2 := w0.frozen x
      have w4 := own_far hown w0 (by decide) x (.bool true)
      have w5 := w2.setCell (p := ⟨b, x, none⟩) hbs (.bool true)
      clear w0 w2 hown hjl ex
      go_wp2
      go_roundw
      case rel => exact ⟨j + 1, by omega, by go_num, w3, w4, w5⟩
      case measure => simp [intOf]; omega
    · obtain rfl : j = k := by omega
      obtain ⟨t, et⟩ : ∃ t, L.take j = t := ⟨_, rfl⟩
      have HP2 : Hid (P = pickL mm t) := by rw [← et]; exact HP
      rw [et] at w0
      clear et HP hlt hj hown HLT HL
      have own0 : wr.ownsRow w.heap.size 3 1 (.slice none 0 0) (pickL 0 t).length ((ints (pickL 0 t)).map (Value.int .i64)) := own_nil_row wr _ 3
      go_wp2
      go_loopw [14, 15] (fun v i wz => ∃ q : Nat, q ≤ mm ∧ i = .int .i64 q ∧ wz.ownsRow w.heap.size 3 1 v (pickL q t).length ((ints (pickL q t)).map (Value.int .i64)) ∧ Whole wz b 4 (rowB t mm) ∧ Below w.heap.size w wz) (fun _ i _ => mm - (intOf i).toNat)
      case atStart => exact ⟨0, by omega, rfl, own0, w0, w2⟩
      case round =>
        clear w0 own0 w2
        obtain ⟨q, hq, rfl, hown, w0, hB⟩ := hrel
        obtain ⟨A', m', c', rfl⟩ := own_form hown
        have hm' := own_len hown
        have hle := pickL_le q t
        by_cases hlt : q < mm
        · have c2 := (w0.cell q).trans (rowB_at hlt)
          have hz := hB.size
          by_cases hm : q ∈ t
          · rw [decide_eq_true hm] at c2
            have hr := Lib.hid (pickL_yes hm)
            have hr2 := Lib.hid (pickL_yes_len hm)
            obtain ⟨cn, ecn⟩ : ∃ cn, (pickL q t).length = cn := ⟨_, rfl⟩
            rw [ecn] at hown hm' hle
            have HR2 : Hid ((pickL (q + 1) t).length = cn + 1) := by rw [← ecn]; exact hr2
            subst hm'
            clear ecn hm hr2
            go_wp2_with (at_builtin; refine wpList_append_own _ rfl _ _ 73 rfl w.heap.size 3 i0 (.int .i64 0) 1 8 Tryz.underlying73 hi hz0 hz1 hz2 rfl (by decide) _ _ _ rfl (hown.alloc _) ⟨wr.heap.size, 0, none⟩ 1 1 [.int .i64 q] rfl rfl (cell_one_new _ _ _) (by simp [Value.oneCell']) (by show m' + 1 ≤ 9223372036854775807; omega) (by omega) (by simp; omega) ?_; intro v' w1 hown' hgrow _)
            rw [hr.out] at hown'
            have hB2 := (hB.alloc hz (.cells #[.int .i64 (q : Nat)] 3)).grown hgrow (by simp; omega) (fun r hr => (hown.lt r hr).1)
            have w3 := (w0.alloc (.cells #[.int .i64 (q : Nat)] 3)).turn (Turn.of_grown hgrow) (fun hm => own_apart (v := .slice A' m' c') hown w0 (by decide) (Option.mem_toList.1 hm))
            rw [← HR2.out] at hown'
            go_roundw
            case rel => exact ⟨q + 1, by omega, by go_num, hown', w3, hB2⟩
            case measure => simp [intOf]; omega
          · rw [decide_eq_false hm] at c2
            have hr := pickL_no hm
            have o2 : wr.ownsRow w.heap.size 3 1 (.slice A' m' c') (pickL (q + 1) t).length ((ints (pickL (q + 1) t)).map (Value.int .i64)) := by rw [hr]; exact hown
            have HO := Lib.hid o2
            clear o2 hr hown hle hm' hm
            go_wp2
            go_roundw
            case rel => exact ⟨q + 1, by omega, by go_num, HO.out, w0, hB⟩
            case measure => simp [intOf]; omega
        · obtain rfl : q = mm := by omega
          rw [← HP2.out] at hown
          rw [HPL.out] at hown
          clear hle hm' w0
          go_wp2
          refine bodyPost_ret (results_tmp3 rfl _ _ _) rfl ?_
          exact ⟨_, rfl, hown, hB⟩
set_option maxRecDepth 100000 in
theorem rPick_no (s : Nat) (n k : Int) (h : ¬ (0 ≤ k ∧ k ≤ n ∧ n ≤ 2048)) (w : World) : Calls Tryz.prog 126 #[.int .u64 s, .int .i64 n, .int .i64 k] w fun e w' => e = .returned (.tuple #[.slice none 0 0, .int .u64 0, .int .i64 1]) ∧ w' = w := by
  go_enter Tryz.func126, Tryz.ntmps126
  by_cases h1 : n < 0
  · have e1 : decide (n < 0) = true := decide_eq_true h1
    go_wp2
    refine bodyPost_ret (results_tmp3 rfl _ _ _) rfl ?_
    exact ⟨rfl, rfl⟩
  · have e1 : decide (n < 0) = false := decide_eq_false h1
    by_cases h2 : 2048 < n
    · have e2 : decide (2048 < n) = true := decide_eq_true h2
      go_wp2
      refine bodyPost_ret (results_tmp3 rfl _ _ _) rfl ?_
      exact ⟨rfl, rfl⟩
    · have e2 : decide (2048 < n) = false := decide_eq_false h2
      by_cases h3 : k < 0
      · have e3 : decide (k < 0) = true := decide_eq_true h3
        go_wp2
        refine bodyPost_ret (results_tmp3 rfl _ _ _) rfl ?_
        exact ⟨rfl, rfl⟩
      · have e3 : decide (k < 0) = false := decide_eq_false h3
        have e4 : decide (n < k) = true := decide_eq_true (by omega)
        go_wp2
        refine bodyPost_ret (results_tmp3 rfl _ _ _) rfl ?_
        exact ⟨rfl, rfl⟩
end Go.Proofs.YthbimjkcpmffcaaGreat
