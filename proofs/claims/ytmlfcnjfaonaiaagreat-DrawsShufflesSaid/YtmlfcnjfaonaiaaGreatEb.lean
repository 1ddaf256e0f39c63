/- The walk of the document's Pick. -/
import Derived.Test.YtmlfcnjfaonaiaaGreatEa
namespace Go.Proofs.YtmlfcnjfaonaiaaGreat
open Go.RowKit Go.Shelf
set_option linter.unusedVariables false
/-- Which numbers below k are on a list, as cells. -/
def rowB (l : List Nat) (k : Nat) : Array Value := ((List.range k).map fun j => Value.bool (decide (j ∈ l))).toArray
theorem rowB_at {l : List Nat} {k x : Nat} (h : x < k) : (rowB l k)[x]? = some (.bool (decide (x ∈ l))) := by
  simp [rowB, h]
theorem rowB_set (l : List Nat) (k x : Nat) : (rowB l k).setIfInBounds x (.bool true) = rowB (l ++ [x]) k := by
  unfold rowB
  apply Array.ext'
  simp only [Array.toList_setIfInBounds]
  apply List.ext_getElem
  · simp
  · intro j h1 h2
    rw [List.getElem_set]
    simp only [List.getElem_map, List.getElem_range, List.mem_append, List.mem_singleton]
    by_cases h : x = j
    · subst h; simp
    · have h3 : ¬ j = x := fun e => h e.symm
      simp [h, h3]
theorem made_rowB (k : Nat) : madeCells #[Value.bool false] k = rowB [] k := by
  apply Array.ext'
  apply List.ext_getElem
  · simp [rowB, madeCells]
  · intro j h1 h2
    simp [rowB, madeCells, Nat.mod_one]
theorem Tryz.info4b : (Tryz.prog.info? 4).map (fun i => (i.zero, i.size, i.bytes)) = some (some (.bool false), 1, 1) := by kernel_rfl
theorem take_snoc {l : List Nat} {i : Nat} (h : i < l.length) : l.take (i + 1) = l.take i ++ [l[i]?.getD 0] := by
  rw [List.take_add_one, List.getElem?_eq_getElem h]; rfl
theorem pickL_yes {j : Nat} {t : List Nat} (h : j ∈ t) : ((ints (pickL j t)).map (Value.int .i64)) ++ [Value.int .i64 (j : Nat)] = (ints (pickL (j + 1) t)).map (Value.int .i64) := by
  have e : pickL (j + 1) t = pickL j t ++ [j] := by unfold pickL; rw [List.range_succ, List.filter_append]; simp [h]
  rw [e]; simp [ints]
theorem pickL_yes_len {j : Nat} {t : List Nat} (h : j ∈ t) : (pickL (j + 1) t).length = (pickL j t).length + 1 := by
  unfold pickL; rw [List.range_succ, List.filter_append]; simp [h]
theorem pickL_no {j : Nat} {t : List Nat} (h : ¬ j ∈ t) : pickL (j + 1) t = pickL j t := by
  unfold pickL; rw [List.range_succ, List.filter_append]; simp [h]
theorem pickL_le (j : Nat) (t : List Nat) : (pickL j t).length ≤ j := by
  unfold pickL; exact Nat.le_trans (List.length_filter_le _ _) (by simp)
theorem own_far {w : World} {base n size b : Nat} {e t : TypeId} {v : Value} {xs : List Value} {cs : Array Value} (h : w.ownsRow base e size v n xs) (hw : Whole w b t cs) (ht : t ≠ e) (i : Nat) (u : Value) : (w.setCell ⟨b, i, none⟩ u).ownsRow base e size v n xs :=
  own_turn h ((Turn.refl [b] w).setCell (p := ⟨b, i, none⟩) (.inl (by simp)) u) (fun g hg hm => own_apart h hw ht (by rw [List.mem_singleton] at hm; rw [← hm]; exact hg))
set_option maxRecDepth 100000 in
set_option maxHeartbeats 2000000 in
theorem rPick_yes (s n k : Nat) (hs : s < 18446744073709551616) (hn : n ≤ 2048) (hk : k ≤ n) (w : World) : Calls Tryz.prog 7 #[.int .u64 s, .int .i64 n, .int .i64 k] w fun e w' => ∃ v, e = .returned (.tuple #[v, .int .u64 (shufS s n : Nat), .int .i64 0]) ∧ w'.ownsRow w.heap.size 3 1 v k ((ints (pkL s n k)).map (Value.int .i64)) ∧ Below w.heap.size w w' := by
  have HS0 := rShuffle_yes s n hs hn w
  have hP : pkL s n k = pickL n ((shufL s n).take k) := rfl
  have hPl := pkL_len (s := s) hk
  have hlen := shufL_len s n
  have hlt : ∀ i, i < n → (shufL s n)[i]?.getD 0 < n := fun i h => shufL_lt h
  obtain ⟨L, eL⟩ : ∃ L, shufL s n = L := ⟨_, rfl⟩
  obtain ⟨T, eT⟩ : ∃ T, shufS s n = T := ⟨_, rfl⟩
  obtain ⟨P, eP⟩ : ∃ P, pkL s n k = P := ⟨_, rfl⟩
  rw [eL, eT] at HS0
  rw [eP, eL] at hP
  rw [eP] at hPl
  rw [eL] at hlen
  simp only [eL] at hlt
  rw [eT, eP]
  have HS := Lib.hid HS0
  have HP := Lib.hid hP
  have HPL := Lib.hid hPl
  have HL := Lib.hid hlen
  have HLT := Lib.hid hlt
  clear eL eT eP HS0 hP hPl hlen hlt hs
  obtain ⟨i0, hi, hz0, hz1, hz2⟩ := info_parts Tryz.info3i
  obtain ⟨i1, hi1, hy0, hy1, hy2⟩ := info_parts Tryz.info4b
  have hmk : ∀ w : World, (Instr.makeSlice 55 (.int .i64 (n : Int)) (.int .i64 (n : Int))).run Tryz.prog w = .ok (.slice (some ⟨w.heap.size, 0, none⟩) n n) (w.alloc (.cells (rowB [] n) 4)) := fun w => by
    have := run_make (P := Tryz.prog) w 55 4 i1 (.bool false) Tryz.underlying55 hi1 hy0 .i64 .i64 (n : Int) (n : Int) (by omega) (by omega) (by rw [hy2]; omega) (by omega)
    rw [this, hy1, Nat.mul_one, Int.toNat_natCast, show (Value.bool false).cells = #[Value.bool false] by rfl, made_rowB]
  have e1 : decide ((n : Int) < 0) = false := decide_eq_false (by omega)
  have e2 : decide ((2048 : Int) < n) = false := decide_eq_false (by omega)
  have e3 : decide ((k : Int) < 0) = false := decide_eq_false (by omega)
  have e4 : decide ((n : Int) < k) = false := decide_eq_false (by omega)
  go_enter Tryz.func7, Tryz.ntmps7
  go_wp2_with (go_at_call 6; refine HS.out.mono ?_; rintro e W1 ⟨v, rfl, hown, hb⟩)
  obtain ⟨A, mm, cc, rfl⟩ := own_form hown
  obtain rfl := own_len hown
  have w0 : Whole (W1.alloc (.cells (rowB [] mm) 4)) W1.heap.size 4 (rowB (L.take 0) mm) := Whole.new W1 4 _
  have own0 := hown.alloc (.cells (rowB [] mm) 4)
  have w2 : Below w.heap.size w (W1.alloc (.cells (rowB [] mm) 4)) := hb.alloc hb.size _
  have hbs := hb.size
  clear hmk hown hb
  obtain ⟨b, hbb⟩ : ∃ b, W1.heap.size = b := ⟨_, rfl⟩
  rw [hbb] at w0 hbs ⊢
  clear hbb
  obtain ⟨W0, eW⟩ : ∃ W0, W1.alloc (.cells (rowB [] mm) 4) = W0 := ⟨_, rfl⟩
  rw [eW] at w0 own0 w2 ⊢
  clear eW
  go_loopw [13] (fun i wr => ∃ j : Nat, j ≤ k ∧ i = .int .i64 j ∧ Whole wr b 4 (rowB (L.take j) mm) ∧ wr.ownsRow w.heap.size 3 1 (.slice A mm cc) mm ((ints L).map (Value.int .i64)) ∧ Below w.heap.size w wr) (fun i _ => k - (intOf i).toNat)
  case atStart => exact ⟨0, by omega, rfl, w0, own0, w2⟩
  case round =>
    clear w0 own0 w2
    obtain ⟨j, hj, rfl, w0, hown, w2⟩ := hrel
    by_cases hlt : j < k
    · have hjm : j < mm := by omega
      have hx := HLT.out j hjm
      have hjl : j < L.length := by have := HL.out; omega
      obtain ⟨g, rfl, -⟩ := own_some hown (by omega)
      have c1 := (hown.cellAt j (by omega)).trans (cells_at hjl)
      have w3 := w0.set (L[j]?.getD 0) (.bool true)
      rw [rowB_set, ← take_snoc hjl] at w3
      obtain ⟨x, ex⟩ : ∃ x, L[j]?.getD 0 = x := ⟨_, rfl⟩
      rw [ex] at hx c1 w3
      have c2 := (w0.cell x).trans (rowB_at hx)
      have f2 := w0.frozen x
      have w4 := own_far hown w0 (by decide) x (.bool true)
      have w5 := w2.setCell (p := ⟨b, x, none⟩) hbs (.bool true)
      clear w0 w2 hown hjl ex
      go_wp2
      go_roundw
      case rel => exact ⟨j + 1, by omega, by go_num, w3, w4, w5⟩
      case measure => simp [intOf]; omega
    · obtain rfl : j = k := by omega
      obtain ⟨t, et⟩ : ∃ t, L.take j = t := ⟨_, rfl⟩
      have HP2 : Hid (P = pickL mm t) := by rw [← et]; exact HP
      rw [et] at w0
      clear et HP hlt hj hown HLT HL
      have own0 : wr.ownsRow w.heap.size 3 1 (.slice none 0 0) (pickL 0 t).length ((ints (pickL 0 t)).map (Value.int .i64)) := own_nil_row wr _ 3
      go_wp2
      go_loopw [14, 15] (fun v i wz => ∃ q : Nat, q ≤ mm ∧ i = .int .i64 q ∧ wz.ownsRow w.heap.size 3 1 v (pickL q t).length ((ints (pickL q t)).map (Value.int .i64)) ∧ Whole wz b 4 (rowB t mm) ∧ Below w.heap.size w wz) (fun _ i _ => mm - (intOf i).toNat)
      case atStart => exact ⟨0, by omega, rfl, own0, w0, w2⟩
      case round =>
        clear w0 own0 w2
        obtain ⟨q, hq, rfl, hown, w0, hB⟩ := hrel
        obtain ⟨A', m', c', rfl⟩ := own_form hown
        have hm' := own_len hown
        have hle := pickL_le q t
        by_cases hlt : q < mm
        · have c2 := (w0.cell q).trans (rowB_at hlt)
          have hz := hB.size
          by_cases hm : q ∈ t
          · rw [decide_eq_true hm] at c2
            have hr := Lib.hid (pickL_yes hm)
            have hr2 := Lib.hid (pickL_yes_len hm)
            obtain ⟨cn, ecn⟩ : ∃ cn, (pickL q t).length = cn := ⟨_, rfl⟩
            rw [ecn] at hown hm' hle
            have HR2 : Hid ((pickL (q + 1) t).length = cn + 1) := by rw [← ecn]; exact hr2
            subst hm'
            clear ecn hm hr2
            go_wp2_with (at_builtin; refine wpList_append_own _ rfl _ _ 23 rfl w.heap.size 3 i0 (.int .i64 0) 1 8 Tryz.underlying23 hi hz0 hz1 hz2 rfl (by decide) _ _ _ rfl (hown.alloc _) ⟨wr.heap.size, 0, none⟩ 1 1 [.int .i64 q] rfl rfl (cell_one_new _ _ _) (by simp [Value.oneCell']) (by show m' + 1 ≤ 9223372036854775807; omega) (by omega) (by simp; omega) ?_; intro v' w1 hown' hgrow _)
            rw [hr.out] at hown'
            have hB2 := (hB.alloc hz (.cells #[.int .i64 (q : Nat)] 3)).grown hgrow (by simp; omega) (fun r hr => (hown.lt r hr).1)
            have w3 := (w0.alloc (.cells #[.int .i64 (q : Nat)] 3)).turn (Turn.of_grown hgrow) (fun hm => own_apart (v := .slice A' m' c') hown w0 (by decide) (Option.mem_toList.1 hm))
            rw [← HR2.out] at hown'
            go_roundw
            case rel => exact ⟨q + 1, by omega, by go_num, hown', w3, hB2⟩
            case measure => simp [intOf]; omega
          · rw [decide_eq_false hm] at c2
            have hr := pickL_no hm
            have o2 : wr.ownsRow w.heap.size 3 1 (.slice A' m' c') (pickL (q + 1) t).length ((ints (pickL (q + 1) t)).map (Value.int .i64)) := by rw [hr]; exact hown
            have HO := Lib.hid o2
            clear o2 hr hown hle hm' hm
            go_wp2
            go_roundw
            case rel => exact ⟨q + 1, by omega, by go_num, HO.out, w0, hB⟩
            case measure => simp [intOf]; omega
        · obtain rfl : q = mm := by omega
          rw [← HP2.out] at hown
          rw [HPL.out] at hown
          clear hle hm' w0
          go_wp2
          refine bodyPost_ret (results_tmp3 rfl _ _ _) rfl ?_
          exact ⟨_, rfl, hown, hB⟩
set_option maxRecDepth 100000 in
theorem rPick_no (s : Nat) (n k : Int) (h : ¬ (0 ≤ k ∧ k ≤ n ∧ n ≤ 2048)) (w : World) : Calls Tryz.prog 7 #[.int .u64 s, .int .i64 n, .int .i64 k] w fun e w' => e = .returned (.tuple #[.slice none 0 0, .int .u64 0, .int .i64 1]) ∧ w' = w := by
  go_enter Tryz.func7, Tryz.ntmps7
  by_cases h1 : n < 0
  · have e1 : decide (n < 0) = true := decide_eq_true h1
    go_wp2
    refine bodyPost_ret (results_tmp3 rfl _ _ _) rfl ?_
    exact ⟨rfl, rfl⟩
  · have e1 : decide (n < 0) = false := decide_eq_false h1
    by_cases h2 : 2048 < n
    · have e2 : decide (2048 < n) = true := decide_eq_true h2
      go_wp2
      refine bodyPost_ret (results_tmp3 rfl _ _ _) rfl ?_
      exact ⟨rfl, rfl⟩
    · have e2 : decide (2048 < n) = false := decide_eq_false h2
      by_cases h3 : k < 0
      · have e3 : decide (k < 0) = true := decide_eq_true h3
        go_wp2
        refine bodyPost_ret (results_tmp3 rfl _ _ _) rfl ?_
        exact ⟨rfl, rfl⟩
      · have e3 : decide (k < 0) = false := decide_eq_false h3
        have e4 : decide (n < k) = true := decide_eq_true (by omega)
        go_wp2
        refine bodyPost_ret (results_tmp3 rfl _ _ _) rfl ?_
        exact ⟨rfl, rfl⟩
end Go.Proofs.YtmlfcnjfaonaiaaGreat
