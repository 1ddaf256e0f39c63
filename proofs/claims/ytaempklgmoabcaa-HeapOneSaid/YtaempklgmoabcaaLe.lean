/- The walk of the statement HeapOne. -/
import Derived.Test.YtaempklgmoabcaaHk
namespace Go.Proofs.Ytaempklgmoabcaa
open Go.Shelf Go.RowKit Go.Lib
open Go.Sort hiding Below
set_option linter.unusedVariables false
set_option maxRecDepth 100000 in
theorem heapOne_far (A : Option Addr) (c n : Nat) (w : World) (h : 300 < n) :
    Calls Try.prog 7 #[.slice A n c] w (Yes w) := by
  have HA := Lib.hid alive_any
  have z : (300 : Int) < (n : Int) := by omega
  go_enter Try.func7, Try.ntmps7
  go_wp2_with fail
  refine (HA.out w).mono ?_
  rintro e w1 ⟨rfl, t1⟩
  go_wp2_with fail
  refine (HA.out w1).mono ?_
  rintro e w2 ⟨rfl, t2⟩
  go_wp2
  go_ret
  exact ⟨rfl, below_turn (t1.trans t2 (fun a ha => by simp at ha))⟩
theorem one0 (x : Int × Int) : tookH 1 [] x = true ∧ pushH 1 [] x = [x] := by
  have h : tookH 1 [] x = true := by unfold tookH; simp [ids]
  exact ⟨h, pushS h (by simp) (by unfold Up; simp)⟩
theorem one1 (z x : Int × Int) : tookH 1 [z] x = (x.1 != z.1 && ltH x z) := by
  unfold tookH lastH
  simp [ids]
  rfl
theorem oneT {z x : Int × Int} (h : tookH 1 [z] x = true) : pushH 1 [z] x = [x] := pushS h (by simp) (by unfold Up; simp)
theorem oneF {z x : Int × Int} (h : tookH 1 [z] x = false) : pushH 1 [z] x = [z] := pushN h
/-- What a heap for one hit keeps: none at first, then one. -/
def OneOf (w wr : World) (b : Nat) (F : List Nat) (i : Nat) (ys : HL) : Prop := Mine w wr b F 1 ys ∧ ys.length = min i 1
set_option maxRecDepth 100000 in
set_option maxHeartbeats 4000000 in
theorem heapOne_yes (A : Option Addr) (c : Nat) (xs : HL) (w : World) (hx : RdH w w.heap.size A xs) (ok : ∀ x ∈ xs, HitOk x) (hl : xs.length ≤ 300) :
    Calls Try.prog 7 #[.slice A xs.length c] w (Yes w) := by
  have HA := Lib.hid alive_any
  have z : decide ((xs.length : Int) > 300) = false := decide_eq_false (by omega)
  have z' : ¬ (300 : Int) < (xs.length : Int) := by omega
  have mixed : Try.prog.follows .mixedOrders = true := by kernel_rfl
  have HX := Lib.hid hx
  have OK := Lib.hid ok
  clear hx ok
  go_enter Try.func7, Try.ntmps7
  go_wp2_with fail
  refine (HA.out w).mono ?_
  rintro e w1 ⟨rfl, t1⟩
  have H1 := Lib.hid (hNew_yes 1 w1 (by omega) (by omega))
  go_wp2_with fail
  refine H1.out.mono ?_
  rintro e w2 ⟨b, F, rfl, hI, hF, t2⟩
  have HI : Hid (OneOf w1 w2 b F 0 []) := ⟨⟨hI, hF, t2⟩, rfl⟩
  have HT1 := Lib.hid t1
  clear H1 hI hF t2 t1
  go_wp2
  go_loopg [5] xs.length (fun g1 s wr => ∃ (i : Nat) (G : List Nat) (ys : HL), s = .int .i64 i ∧ i ≤ xs.length ∧ xs.length - i ≤ g1 ∧ Hid (OneOf w1 wr b G i ys))
  case atStart => exact ⟨0, F, [], rfl, by omega, by omega, HI⟩
  case round =>
    clear HI
    obtain ⟨i, G, ys, rfl, hi, hg1, HM⟩ := hrel
    by_cases hlt : i < xs.length
    · have hxr := HX.out.below (below_turn (HT1.out.trans HM.out.1.2.2 (fun a ha => by simp at ha)))
      obtain ⟨bb, off, x1, x2, rfl, hbs, cx, cx', hv⟩ := hxr.at_ hlt
      have hz : (i : Int) < (xs.length : Int) := by omega
      have hz0 : (0 : Int) ≤ (i : Int) := by omega
      have HOX : Hid (HitOk (x1, x2)) := OK.out _ (List.mem_of_getElem? hv.out)
      have NEQ : ∀ a1 a2 W, Sem.run Try.prog (binOp .neq 28 (.agg #[.int .u64 a1, .int .i64 a2]) (.agg #[.int .u64 a1, .int .i64 a2])) W = .ok (.bool false) W := fun a1 a2 W => by
        have := neqH a1 a2 a1 a2 W
        simpa using this
      clear hv hxr
      rcases Nat.eq_zero_or_pos i with h0 | h0
      · subst h0
        obtain rfl : ys = [] := List.eq_nil_of_length_eq_zero (by have := HM.out.2; simpa using this)
        have H3 := Lib.hid (hWorst_no b G 1 wr HM.out.1.1)
        simp only [Nat.zero_mul, Nat.add_zero] at cx cx'
        go_wp2_with fail
        refine H3.out.mono ?_
        rintro e w3 ⟨rfl, t3⟩
        have t4 := t3.alloc (.cells #[.int .u64 0, .int .i64 0] 28)
        have M4 := HM.out.1.same t4
        have hP4 := Whole.new w3 28 #[.int .u64 0, .int .i64 0]
        have hpG : w3.heap.size ∉ G := fun hm => by have := (HM.out.1.same t3).1.lt _ hm; omega
        have H5 := Lib.hid (hPushM_any b G 1 [] x1 x2 _ M4.1 HOX.out)
        have cy := t4.cell (p := ⟨bb, off, none⟩) (by exact Nat.lt_of_lt_of_le hbs (Nat.le_trans HT1.out.size HM.out.1.2.2.size)) (by simp)
        have cy' := t4.cell (p := ⟨bb, off + 1, none⟩) (by exact Nat.lt_of_lt_of_le hbs (Nat.le_trans HT1.out.size HM.out.1.2.2.size)) (by simp)
        have hbb : bb ∉ G := fun hm => by have := HM.out.1.2.1 bb hm; have := HT1.out.size; omega
        rw [cx] at cy
        rw [cx'] at cy'
        have HB4 := Lib.hid (⟨M4, hP4, hpG, hbb⟩ : _ ∧ _ ∧ _ ∧ _)
        have HBL := Lib.hid (show bb < (w3.alloc (.cells #[.int .u64 0, .int .i64 0] 28)).heap.size from World.block_lt_of_cell? _ _ cy)
        clear t3 t4 M4 hP4 hpG hbb H3 cx cx'
        go_wp2_with fail
        generalize w3.alloc (.cells #[.int .u64 0, .int .i64 0] 28) = w4 at H5 cy cy' HB4 HBL ⊢
        generalize w3.heap.size = p at HB4 ⊢
        refine H5.out.mono ?_
        rintro e w5 ⟨rfl, G', hI, t5, hF⟩
        obtain ⟨M4, hP4, hpG, hbb⟩ := HB4.out
        have M5 := M4.pushed hI t5 hF
        rw [(one0 _).2] at M5
        have hP5 := hP4.turn t5 hpG
        have cz := t5.cell (p := ⟨bb, off, none⟩) HBL.out hbb
        have cz' := t5.cell (p := ⟨bb, off + 1, none⟩) HBL.out hbb
        rw [cy] at cz
        rw [cy'] at cz'
        rw [(one0 _).1]
        have k1 := fun n os => cell_grow (p := ⟨p, 0, none⟩) (v := .int .u64 0) (hP5.cell 0) n os
        have k2 := fun n os => cell_grow (p := ⟨p, 1, none⟩) (v := .int .i64 0) (hP5.cell 1) n os
        have k3 := fun n os => cell_grow cz n os
        have k4 := fun n os => cell_grow cz' n os
        have HB5 := Lib.hid (⟨M5, hP5, cz, cz'⟩ : _ ∧ _ ∧ _ ∧ _)
        skip
        clear hI t5 hF M4 hP4 hpG hbb M5 hP5 cz cz' cy cy' H5 HB4 HBL
        go_wp2
        refine wp_region_quiet_grown mixed (by kernel_rfl) ?_
        repeat (go_big_quiet_step (fail))
        refine wpQuiet_nil ?_
        intro _ hw'
        obtain ⟨⟨nq', osq⟩, hw''⟩ := hw'
        subst hw''
        have t6 := turn_grow w5 nq' osq
        have M6 := HB5.out.1.same t6
        have hP6 := HB5.out.2.1.turn t6 (by simp)
        have d1 := cell_grow HB5.out.2.2.1 nq' osq
        have d2 := cell_grow HB5.out.2.2.2 nq' osq
        have h7 := hWorst_yes b G' 1 _ _ M6.1 (by simp)
        have H7 : Hid (Calls Try.prog 15 #[.pointer (some ⟨b, 0, none⟩)] (grow (w5.drewN nq') osq) fun e w' => e = .returned (.tuple #[.agg #[.int .u64 x1, .int .i64 x2], .bool true]) ∧ Turn [] (grow (w5.drewN nq') osq) w') := h7
        have HB6 := Lib.hid (⟨M6, hP6⟩ : _ ∧ _)
        clear k1 k2 k3 k4 HB5 t6 M6 hP6 h7
        generalize grow (w5.drewN nq') osq = w6 at H7 HB6 d1 d2 ⊢
        go_wp2_with fail
        refine H7.out.mono ?_
        rintro e w7 ⟨rfl, t7⟩
        have t8 := t7.alloc (.cells #[.int .u64 x1, .int .i64 x2] 28)
        have M8 := HB6.out.1.same t8
        have hP8 := HB6.out.2.turn t8 (by simp)
        have hR8 := Whole.new w7 28 #[.int .u64 x1, .int .i64 x2]
        have e1 := t8.cell (p := ⟨bb, off, none⟩) (World.block_lt_of_cell? _ _ d1) (by simp)
        have e2 := t8.cell (p := ⟨bb, off + 1, none⟩) (World.block_lt_of_cell? _ _ d2) (by simp)
        rw [d1] at e1
        rw [d2] at e2
        have HB8 := Lib.hid (⟨M8, hP8, hR8, e1, e2⟩ : _ ∧ _ ∧ _ ∧ _ ∧ _)
        clear t7 t8 M8 hP8 hR8 e1 e2 d1 d2 H7 HB6
        go_wp2
        generalize w7.alloc (.cells #[.int .u64 x1, .int .i64 x2] 28) = w8 at HB8 ⊢
        generalize w7.heap.size = pq at HB8 ⊢
        obtain ⟨M8, hP8, hR8, e1, e2⟩ := HB8.out
        have l1 := fun n os => cell_grow (p := ⟨p, 0, none⟩) (v := .int .u64 0) (hP8.cell 0) n os
        have l2 := fun n os => cell_grow (p := ⟨p, 1, none⟩) (v := .int .i64 0) (hP8.cell 1) n os
        have l3 := fun n os => cell_grow (p := ⟨pq, 0, none⟩) (v := .int .u64 x1) (hR8.cell 0) n os
        have l4 := fun n os => cell_grow (p := ⟨pq, 1, none⟩) (v := .int .i64 x2) (hR8.cell 1) n os
        have l5 := fun n os => cell_grow e1 n os
        have l6 := fun n os => cell_grow e2 n os
        have NE := NEQ x1 x2
        have HLN : Hid (∀ n' os', Calls Try.prog 14 #[.pointer (some ⟨b, 0, none⟩)] (grow (w8.drewN n') os') fun e w' => e = .returned (.int .i64 1) ∧ ∃ q os'', w' = grow ((grow (w8.drewN n') os').drewN q) os'') := fun n' os' => by
          have := hLen_any b G' 1 [(x1, x2)] _ (M8.1.turn (turn_grow w8 n' os') (fun f _ => by simp))
          exact this.mono fun e w' hh => ⟨hh.1, 0, #[], by rw [hh.2]; exact grow_zero _⟩
        have HM8 := Lib.hid M8
        clear M8 hP8 hR8 e1 e2 HB8
        refine wp_region_quiet_grown mixed (by kernel_rfl) ?_
        repeat (go_big_quiet_step (first | (go_at_call 14; with_reducible refine Calls.grown_of (HLN.out _ _))))
        refine wpQuiet_nil ?_
        intro _ hw'
        obtain ⟨⟨nq2, osq2⟩, hw''⟩ := hw'
        subst hw''
        have HM9 : Hid (OneOf w1 (grow (w8.drewN nq2) osq2) b G' (0 + 1) [(x1, x2)]) := ⟨HM8.out.same (turn_grow w8 nq2 osq2), by simp⟩
        clear l1 l2 l3 l4 l5 l6 NE HLN HM8
        generalize grow (w8.drewN nq2) osq2 = w9 at HM9 ⊢
        go_wp2
        go_roundg (xs.length - (0 + 1))
        case measure => omega
        case rel => exact ⟨0 + 1, G', _, by go_num, by omega, by omega, HM9⟩
      · obtain ⟨z1, z2, rfl⟩ : ∃ z1 z2, ys = [(z1, z2)] := by
          obtain ⟨z, hz⟩ := List.length_eq_one_iff.1 (show ys.length = 1 by have := HM.out.2; omega)
          exact ⟨z.1, z.2, hz⟩
        have H3 : Hid (Calls Try.prog 15 #[.pointer (some ⟨b, 0, none⟩)] wr fun e w' => e = .returned (.tuple #[.agg #[.int .u64 z1, .int .i64 z2], .bool true]) ∧ Turn [] wr w') := hWorst_yes b G 1 _ wr HM.out.1.1 (by simp)
        by_cases h1 : x1 = z1
        · subst h1
          have HTK : Hid (tookH 1 [(x1, z2)] (x1, x2) = false) := by show _ = _; rw [one1]; simp
          have nb : (x1 != x1) = false := by simp
          go_wp2_with fail
          refine H3.out.mono ?_
          rintro e w3 ⟨rfl, t3⟩
          have t4 := t3.alloc (.cells #[.int .u64 x1, .int .i64 z2] 28)
          have M4 := HM.out.1.same t4
          have hP4 := Whole.new w3 28 #[.int .u64 x1, .int .i64 z2]
          have hpG : w3.heap.size ∉ G := fun hm => by have := (HM.out.1.same t3).1.lt _ hm; omega
          have H5 := Lib.hid (hPushM_any b G 1 [(x1, z2)] x1 x2 _ M4.1 HOX.out)
          have cy := t4.cell (p := ⟨bb, off + i * 2, none⟩) (by exact Nat.lt_of_lt_of_le hbs (Nat.le_trans HT1.out.size HM.out.1.2.2.size)) (by simp)
          have cy' := t4.cell (p := ⟨bb, off + i * 2 + 1, none⟩) (by exact Nat.lt_of_lt_of_le hbs (Nat.le_trans HT1.out.size HM.out.1.2.2.size)) (by simp)
          have hbb : bb ∉ G := fun hm => by have := HM.out.1.2.1 bb hm; have := HT1.out.size; omega
          rw [cx] at cy
          rw [cx'] at cy'
          have HB4 := Lib.hid (⟨M4, hP4, hpG, hbb⟩ : _ ∧ _ ∧ _ ∧ _)
          have HBL := Lib.hid (show bb < (w3.alloc (.cells #[.int .u64 x1, .int .i64 z2] 28)).heap.size from World.block_lt_of_cell? _ _ cy)
          clear t3 t4 M4 hP4 hpG hbb H3 cx cx'
          go_wp2_with fail
          generalize w3.alloc (.cells #[.int .u64 x1, .int .i64 z2] 28) = w4 at H5 cy cy' HB4 HBL ⊢
          generalize w3.heap.size = p at HB4 ⊢
          refine H5.out.mono ?_
          rintro e w5 ⟨rfl, G', hI, t5, hF⟩
          obtain ⟨M4, hP4, hpG, hbb⟩ := HB4.out
          have M5 := M4.pushed hI t5 hF
          rw [oneF HTK.out] at M5
          have hP5 := hP4.turn t5 hpG
          have cz := t5.cell (p := ⟨bb, off + i * 2, none⟩) HBL.out hbb
          have cz' := t5.cell (p := ⟨bb, off + i * 2 + 1, none⟩) HBL.out hbb
          rw [cy] at cz
          rw [cy'] at cz'
          rw [HTK.out]
          have k1 := fun n os => cell_grow (p := ⟨p, 0, none⟩) (v := .int .u64 x1) (hP5.cell 0) n os
          have k2 := fun n os => cell_grow (p := ⟨p, 1, none⟩) (v := .int .i64 z2) (hP5.cell 1) n os
          have k3 := fun n os => cell_grow cz n os
          have k4 := fun n os => cell_grow cz' n os
          have HB5 := Lib.hid (⟨M5, hP5, cz, cz'⟩ : _ ∧ _ ∧ _ ∧ _)
          skip
          clear hI t5 hF M4 hP4 hpG hbb M5 hP5 cz cz' cy cy' H5 HB4 HBL
          go_wp2
          refine wp_region_quiet_grown mixed (by kernel_rfl) ?_
          repeat (go_big_quiet_step (fail))
          refine wpQuiet_nil ?_
          intro _ hw'
          obtain ⟨⟨nq', osq⟩, hw''⟩ := hw'
          subst hw''
          have t6 := turn_grow w5 nq' osq
          have M6 := HB5.out.1.same t6
          have hP6 := HB5.out.2.1.turn t6 (by simp)
          have d1 := cell_grow HB5.out.2.2.1 nq' osq
          have d2 := cell_grow HB5.out.2.2.2 nq' osq
          have h7 := hWorst_yes b G' 1 _ _ M6.1 (by simp)
          have H7 : Hid (Calls Try.prog 15 #[.pointer (some ⟨b, 0, none⟩)] (grow (w5.drewN nq') osq) fun e w' => e = .returned (.tuple #[.agg #[.int .u64 x1, .int .i64 z2], .bool true]) ∧ Turn [] (grow (w5.drewN nq') osq) w') := h7
          have HB6 := Lib.hid (⟨M6, hP6⟩ : _ ∧ _)
          clear k1 k2 k3 k4 HB5 t6 M6 hP6 h7 nb
          generalize grow (w5.drewN nq') osq = w6 at H7 HB6 d1 d2 ⊢
          go_wp2_with fail
          refine H7.out.mono ?_
          rintro e w7 ⟨rfl, t7⟩
          have t8 := t7.alloc (.cells #[.int .u64 x1, .int .i64 z2] 28)
          have M8 := HB6.out.1.same t8
          have hP8 := HB6.out.2.turn t8 (by simp)
          have hR8 := Whole.new w7 28 #[.int .u64 x1, .int .i64 z2]
          have e1 := t8.cell (p := ⟨bb, off + i * 2, none⟩) (World.block_lt_of_cell? _ _ d1) (by simp)
          have e2 := t8.cell (p := ⟨bb, off + i * 2 + 1, none⟩) (World.block_lt_of_cell? _ _ d2) (by simp)
          rw [d1] at e1
          rw [d2] at e2
          have HB8 := Lib.hid (⟨M8, hP8, hR8, e1, e2⟩ : _ ∧ _ ∧ _ ∧ _ ∧ _)
          clear t7 t8 M8 hP8 hR8 e1 e2 d1 d2 H7 HB6
          go_wp2
          generalize w7.alloc (.cells #[.int .u64 x1, .int .i64 z2] 28) = w8 at HB8 ⊢
          generalize w7.heap.size = pq at HB8 ⊢
          obtain ⟨M8, hP8, hR8, e1, e2⟩ := HB8.out
          have l1 := fun n os => cell_grow (p := ⟨p, 0, none⟩) (v := .int .u64 x1) (hP8.cell 0) n os
          have l2 := fun n os => cell_grow (p := ⟨p, 1, none⟩) (v := .int .i64 z2) (hP8.cell 1) n os
          have l3 := fun n os => cell_grow (p := ⟨pq, 0, none⟩) (v := .int .u64 x1) (hR8.cell 0) n os
          have l4 := fun n os => cell_grow (p := ⟨pq, 1, none⟩) (v := .int .i64 z2) (hR8.cell 1) n os
          have l5 := fun n os => cell_grow e1 n os
          have l6 := fun n os => cell_grow e2 n os
          have NE := NEQ x1 z2
          have HLN : Hid (∀ n' os', Calls Try.prog 14 #[.pointer (some ⟨b, 0, none⟩)] (grow (w8.drewN n') os') fun e w' => e = .returned (.int .i64 1) ∧ ∃ q os'', w' = grow ((grow (w8.drewN n') os').drewN q) os'') := fun n' os' => by
            have := hLen_any b G' 1 [(x1, z2)] _ (M8.1.turn (turn_grow w8 n' os') (fun f _ => by simp))
            exact this.mono fun e w' hh => ⟨hh.1, 0, #[], by rw [hh.2]; exact grow_zero _⟩
          have HM8 := Lib.hid M8
          clear M8 hP8 hR8 e1 e2 HB8
          refine wp_region_quiet_grown mixed (by kernel_rfl) ?_
          repeat (go_big_quiet_step (first | (go_at_call 14; with_reducible refine Calls.grown_of (HLN.out _ _))))
          refine wpQuiet_nil ?_
          intro _ hw'
          obtain ⟨⟨nq2, osq2⟩, hw''⟩ := hw'
          subst hw''
          have HM9 : Hid (OneOf w1 (grow (w8.drewN nq2) osq2) b G' (i + 1) [(x1, z2)]) := ⟨HM8.out.same (turn_grow w8 nq2 osq2), by simp⟩
          clear l1 l2 l3 l4 l5 l6 NE HLN HM8
          generalize grow (w8.drewN nq2) osq2 = w9 at HM9 ⊢
          go_wp2
          go_roundg (xs.length - (i + 1))
          case measure => omega
          case rel => exact ⟨i + 1, G', _, by go_num, by omega, by omega, HM9⟩
        · have nb : (x1 != z1) = true := by simpa using h1
          cases hlz : ltH (x1, x2) (z1, z2) with
          | false =>
            have HTK : Hid (tookH 1 [(z1, z2)] (x1, x2) = false) := by show _ = _; rw [one1, hlz]; simp
            go_wp2_with fail
            refine H3.out.mono ?_
            rintro e w3 ⟨rfl, t3⟩
            have t4 := t3.alloc (.cells #[.int .u64 z1, .int .i64 z2] 28)
            have M4 := HM.out.1.same t4
            have hP4 := Whole.new w3 28 #[.int .u64 z1, .int .i64 z2]
            have hpG : w3.heap.size ∉ G := fun hm => by have := (HM.out.1.same t3).1.lt _ hm; omega
            have H5 := Lib.hid (hPushM_any b G 1 [(z1, z2)] x1 x2 _ M4.1 HOX.out)
            have cy := t4.cell (p := ⟨bb, off + i * 2, none⟩) (by exact Nat.lt_of_lt_of_le hbs (Nat.le_trans HT1.out.size HM.out.1.2.2.size)) (by simp)
            have cy' := t4.cell (p := ⟨bb, off + i * 2 + 1, none⟩) (by exact Nat.lt_of_lt_of_le hbs (Nat.le_trans HT1.out.size HM.out.1.2.2.size)) (by simp)
            have hbb : bb ∉ G := fun hm => by have := HM.out.1.2.1 bb hm; have := HT1.out.size; omega
            rw [cx] at cy
            rw [cx'] at cy'
            have HB4 := Lib.hid (⟨M4, hP4, hpG, hbb⟩ : _ ∧ _ ∧ _ ∧ _)
            have HBL := Lib.hid (show bb < (w3.alloc (.cells #[.int .u64 z1, .int .i64 z2] 28)).heap.size from World.block_lt_of_cell? _ _ cy)
            clear t3 t4 M4 hP4 hpG hbb H3 cx cx'
            go_wp2_with fail
            generalize w3.alloc (.cells #[.int .u64 z1, .int .i64 z2] 28) = w4 at H5 cy cy' HB4 HBL ⊢
            generalize w3.heap.size = p at HB4 ⊢
            refine H5.out.mono ?_
            rintro e w5 ⟨rfl, G', hI, t5, hF⟩
            obtain ⟨M4, hP4, hpG, hbb⟩ := HB4.out
            have M5 := M4.pushed hI t5 hF
            rw [oneF HTK.out] at M5
            have hP5 := hP4.turn t5 hpG
            have cz := t5.cell (p := ⟨bb, off + i * 2, none⟩) HBL.out hbb
            have cz' := t5.cell (p := ⟨bb, off + i * 2 + 1, none⟩) HBL.out hbb
            rw [cy] at cz
            rw [cy'] at cz'
            rw [HTK.out]
            have k1 := fun n os => cell_grow (p := ⟨p, 0, none⟩) (v := .int .u64 z1) (hP5.cell 0) n os
            have k2 := fun n os => cell_grow (p := ⟨p, 1, none⟩) (v := .int .i64 z2) (hP5.cell 1) n os
            have k3 := fun n os => cell_grow cz n os
            have k4 := fun n os => cell_grow cz' n os
            have HB5 := Lib.hid (⟨M5, hP5, cz, cz'⟩ : _ ∧ _ ∧ _ ∧ _)
            have HLS : Hid (∀ n' os', Calls Try.prog 17 #[.agg #[.int .u64 x1, .int .i64 x2], .agg #[.int .u64 z1, .int .i64 z2]] (grow (w5.drewN n') os') fun e w' => e = .returned (.bool false) ∧ ∃ q os'', w' = grow ((grow (w5.drewN n') os').drewN q) os'') := fun n' os' => by
              have := less_grown (x1, x2) (z1, z2) w5 n' os'
              rw [hlz] at this
              exact this
            clear hI t5 hF M4 hP4 hpG hbb M5 hP5 cz cz' cy cy' H5 HB4 HBL
            go_wp2
            refine wp_region_quiet_grown mixed (by kernel_rfl) ?_
            repeat (go_big_quiet_step (first | (go_at_call 17; with_reducible refine Calls.grown_of (HLS.out _ _))))
            refine wpQuiet_nil ?_
            intro _ hw'
            obtain ⟨⟨nq', osq⟩, hw''⟩ := hw'
            subst hw''
            have t6 := turn_grow w5 nq' osq
            have M6 := HB5.out.1.same t6
            have hP6 := HB5.out.2.1.turn t6 (by simp)
            have d1 := cell_grow HB5.out.2.2.1 nq' osq
            have d2 := cell_grow HB5.out.2.2.2 nq' osq
            have h7 := hWorst_yes b G' 1 _ _ M6.1 (by simp)
            have H7 : Hid (Calls Try.prog 15 #[.pointer (some ⟨b, 0, none⟩)] (grow (w5.drewN nq') osq) fun e w' => e = .returned (.tuple #[.agg #[.int .u64 z1, .int .i64 z2], .bool true]) ∧ Turn [] (grow (w5.drewN nq') osq) w') := h7
            have HB6 := Lib.hid (⟨M6, hP6⟩ : _ ∧ _)
            clear k1 k2 k3 k4 HB5 t6 M6 hP6 h7 nb HLS
            generalize grow (w5.drewN nq') osq = w6 at H7 HB6 d1 d2 ⊢
            go_wp2_with fail
            refine H7.out.mono ?_
            rintro e w7 ⟨rfl, t7⟩
            have t8 := t7.alloc (.cells #[.int .u64 z1, .int .i64 z2] 28)
            have M8 := HB6.out.1.same t8
            have hP8 := HB6.out.2.turn t8 (by simp)
            have hR8 := Whole.new w7 28 #[.int .u64 z1, .int .i64 z2]
            have e1 := t8.cell (p := ⟨bb, off + i * 2, none⟩) (World.block_lt_of_cell? _ _ d1) (by simp)
            have e2 := t8.cell (p := ⟨bb, off + i * 2 + 1, none⟩) (World.block_lt_of_cell? _ _ d2) (by simp)
            rw [d1] at e1
            rw [d2] at e2
            have HB8 := Lib.hid (⟨M8, hP8, hR8, e1, e2⟩ : _ ∧ _ ∧ _ ∧ _ ∧ _)
            clear t7 t8 M8 hP8 hR8 e1 e2 d1 d2 H7 HB6
            go_wp2
            generalize w7.alloc (.cells #[.int .u64 z1, .int .i64 z2] 28) = w8 at HB8 ⊢
            generalize w7.heap.size = pq at HB8 ⊢
            obtain ⟨M8, hP8, hR8, e1, e2⟩ := HB8.out
            have l1 := fun n os => cell_grow (p := ⟨p, 0, none⟩) (v := .int .u64 z1) (hP8.cell 0) n os
            have l2 := fun n os => cell_grow (p := ⟨p, 1, none⟩) (v := .int .i64 z2) (hP8.cell 1) n os
            have l3 := fun n os => cell_grow (p := ⟨pq, 0, none⟩) (v := .int .u64 z1) (hR8.cell 0) n os
            have l4 := fun n os => cell_grow (p := ⟨pq, 1, none⟩) (v := .int .i64 z2) (hR8.cell 1) n os
            have l5 := fun n os => cell_grow e1 n os
            have l6 := fun n os => cell_grow e2 n os
            have NE := NEQ z1 z2
            have HLN : Hid (∀ n' os', Calls Try.prog 14 #[.pointer (some ⟨b, 0, none⟩)] (grow (w8.drewN n') os') fun e w' => e = .returned (.int .i64 1) ∧ ∃ q os'', w' = grow ((grow (w8.drewN n') os').drewN q) os'') := fun n' os' => by
              have := hLen_any b G' 1 [(z1, z2)] _ (M8.1.turn (turn_grow w8 n' os') (fun f _ => by simp))
              exact this.mono fun e w' hh => ⟨hh.1, 0, #[], by rw [hh.2]; exact grow_zero _⟩
            have HM8 := Lib.hid M8
            clear M8 hP8 hR8 e1 e2 HB8
            refine wp_region_quiet_grown mixed (by kernel_rfl) ?_
            repeat (go_big_quiet_step (first | (go_at_call 14; with_reducible refine Calls.grown_of (HLN.out _ _))))
            refine wpQuiet_nil ?_
            intro _ hw'
            obtain ⟨⟨nq2, osq2⟩, hw''⟩ := hw'
            subst hw''
            have HM9 : Hid (OneOf w1 (grow (w8.drewN nq2) osq2) b G' (i + 1) [(z1, z2)]) := ⟨HM8.out.same (turn_grow w8 nq2 osq2), by simp⟩
            clear l1 l2 l3 l4 l5 l6 NE HLN HM8
            generalize grow (w8.drewN nq2) osq2 = w9 at HM9 ⊢
            go_wp2
            go_roundg (xs.length - (i + 1))
            case measure => omega
            case rel => exact ⟨i + 1, G', _, by go_num, by omega, by omega, HM9⟩
          | true =>
            have HTK : Hid (tookH 1 [(z1, z2)] (x1, x2) = true) := by show _ = _; rw [one1, hlz]; simp [h1]
            go_wp2_with fail
            refine H3.out.mono ?_
            rintro e w3 ⟨rfl, t3⟩
            have t4 := t3.alloc (.cells #[.int .u64 z1, .int .i64 z2] 28)
            have M4 := HM.out.1.same t4
            have hP4 := Whole.new w3 28 #[.int .u64 z1, .int .i64 z2]
            have hpG : w3.heap.size ∉ G := fun hm => by have := (HM.out.1.same t3).1.lt _ hm; omega
            have H5 := Lib.hid (hPushM_any b G 1 [(z1, z2)] x1 x2 _ M4.1 HOX.out)
            have cy := t4.cell (p := ⟨bb, off + i * 2, none⟩) (by exact Nat.lt_of_lt_of_le hbs (Nat.le_trans HT1.out.size HM.out.1.2.2.size)) (by simp)
            have cy' := t4.cell (p := ⟨bb, off + i * 2 + 1, none⟩) (by exact Nat.lt_of_lt_of_le hbs (Nat.le_trans HT1.out.size HM.out.1.2.2.size)) (by simp)
            have hbb : bb ∉ G := fun hm => by have := HM.out.1.2.1 bb hm; have := HT1.out.size; omega
            rw [cx] at cy
            rw [cx'] at cy'
            have HB4 := Lib.hid (⟨M4, hP4, hpG, hbb⟩ : _ ∧ _ ∧ _ ∧ _)
            have HBL := Lib.hid (show bb < (w3.alloc (.cells #[.int .u64 z1, .int .i64 z2] 28)).heap.size from World.block_lt_of_cell? _ _ cy)
            clear t3 t4 M4 hP4 hpG hbb H3 cx cx'
            go_wp2_with fail
            generalize w3.alloc (.cells #[.int .u64 z1, .int .i64 z2] 28) = w4 at H5 cy cy' HB4 HBL ⊢
            generalize w3.heap.size = p at HB4 ⊢
            refine H5.out.mono ?_
            rintro e w5 ⟨rfl, G', hI, t5, hF⟩
            obtain ⟨M4, hP4, hpG, hbb⟩ := HB4.out
            have M5 := M4.pushed hI t5 hF
            rw [oneT HTK.out] at M5
            have hP5 := hP4.turn t5 hpG
            have cz := t5.cell (p := ⟨bb, off + i * 2, none⟩) HBL.out hbb
            have cz' := t5.cell (p := ⟨bb, off + i * 2 + 1, none⟩) HBL.out hbb
            rw [cy] at cz
            rw [cy'] at cz'
            rw [HTK.out]
            have k1 := fun n os => cell_grow (p := ⟨p, 0, none⟩) (v := .int .u64 z1) (hP5.cell 0) n os
            have k2 := fun n os => cell_grow (p := ⟨p, 1, none⟩) (v := .int .i64 z2) (hP5.cell 1) n os
            have k3 := fun n os => cell_grow cz n os
            have k4 := fun n os => cell_grow cz' n os
            have HB5 := Lib.hid (⟨M5, hP5, cz, cz'⟩ : _ ∧ _ ∧ _ ∧ _)
            have HLS : Hid (∀ n' os', Calls Try.prog 17 #[.agg #[.int .u64 x1, .int .i64 x2], .agg #[.int .u64 z1, .int .i64 z2]] (grow (w5.drewN n') os') fun e w' => e = .returned (.bool true) ∧ ∃ q os'', w' = grow ((grow (w5.drewN n') os').drewN q) os'') := fun n' os' => by
              have := less_grown (x1, x2) (z1, z2) w5 n' os'
              rw [hlz] at this
              exact this
            clear hI t5 hF M4 hP4 hpG hbb M5 hP5 cz cz' cy cy' H5 HB4 HBL
            go_wp2
            refine wp_region_quiet_grown mixed (by kernel_rfl) ?_
            repeat (go_big_quiet_step (first | (go_at_call 17; with_reducible refine Calls.grown_of (HLS.out _ _))))
            refine wpQuiet_nil ?_
            intro _ hw'
            obtain ⟨⟨nq', osq⟩, hw''⟩ := hw'
            subst hw''
            have t6 := turn_grow w5 nq' osq
            have M6 := HB5.out.1.same t6
            have hP6 := HB5.out.2.1.turn t6 (by simp)
            have d1 := cell_grow HB5.out.2.2.1 nq' osq
            have d2 := cell_grow HB5.out.2.2.2 nq' osq
            have h7 := hWorst_yes b G' 1 _ _ M6.1 (by simp)
            have H7 : Hid (Calls Try.prog 15 #[.pointer (some ⟨b, 0, none⟩)] (grow (w5.drewN nq') osq) fun e w' => e = .returned (.tuple #[.agg #[.int .u64 x1, .int .i64 x2], .bool true]) ∧ Turn [] (grow (w5.drewN nq') osq) w') := h7
            have HB6 := Lib.hid (⟨M6, hP6⟩ : _ ∧ _)
            clear k1 k2 k3 k4 HB5 t6 M6 hP6 h7 nb HLS
            generalize grow (w5.drewN nq') osq = w6 at H7 HB6 d1 d2 ⊢
            go_wp2_with fail
            refine H7.out.mono ?_
            rintro e w7 ⟨rfl, t7⟩
            have t8 := t7.alloc (.cells #[.int .u64 x1, .int .i64 x2] 28)
            have M8 := HB6.out.1.same t8
            have hP8 := HB6.out.2.turn t8 (by simp)
            have hR8 := Whole.new w7 28 #[.int .u64 x1, .int .i64 x2]
            have e1 := t8.cell (p := ⟨bb, off + i * 2, none⟩) (World.block_lt_of_cell? _ _ d1) (by simp)
            have e2 := t8.cell (p := ⟨bb, off + i * 2 + 1, none⟩) (World.block_lt_of_cell? _ _ d2) (by simp)
            rw [d1] at e1
            rw [d2] at e2
            have HB8 := Lib.hid (⟨M8, hP8, hR8, e1, e2⟩ : _ ∧ _ ∧ _ ∧ _ ∧ _)
            clear t7 t8 M8 hP8 hR8 e1 e2 d1 d2 H7 HB6
            go_wp2
            generalize w7.alloc (.cells #[.int .u64 x1, .int .i64 x2] 28) = w8 at HB8 ⊢
            generalize w7.heap.size = pq at HB8 ⊢
            obtain ⟨M8, hP8, hR8, e1, e2⟩ := HB8.out
            have l1 := fun n os => cell_grow (p := ⟨p, 0, none⟩) (v := .int .u64 z1) (hP8.cell 0) n os
            have l2 := fun n os => cell_grow (p := ⟨p, 1, none⟩) (v := .int .i64 z2) (hP8.cell 1) n os
            have l3 := fun n os => cell_grow (p := ⟨pq, 0, none⟩) (v := .int .u64 x1) (hR8.cell 0) n os
            have l4 := fun n os => cell_grow (p := ⟨pq, 1, none⟩) (v := .int .i64 x2) (hR8.cell 1) n os
            have l5 := fun n os => cell_grow e1 n os
            have l6 := fun n os => cell_grow e2 n os
            have NE := NEQ x1 x2
            have HLN : Hid (∀ n' os', Calls Try.prog 14 #[.pointer (some ⟨b, 0, none⟩)] (grow (w8.drewN n') os') fun e w' => e = .returned (.int .i64 1) ∧ ∃ q os'', w' = grow ((grow (w8.drewN n') os').drewN q) os'') := fun n' os' => by
              have := hLen_any b G' 1 [(x1, x2)] _ (M8.1.turn (turn_grow w8 n' os') (fun f _ => by simp))
              exact this.mono fun e w' hh => ⟨hh.1, 0, #[], by rw [hh.2]; exact grow_zero _⟩
            have HM8 := Lib.hid M8
            clear M8 hP8 hR8 e1 e2 HB8
            refine wp_region_quiet_grown mixed (by kernel_rfl) ?_
            repeat (go_big_quiet_step (first | (go_at_call 14; with_reducible refine Calls.grown_of (HLN.out _ _))))
            refine wpQuiet_nil ?_
            intro _ hw'
            obtain ⟨⟨nq2, osq2⟩, hw''⟩ := hw'
            subst hw''
            have HM9 : Hid (OneOf w1 (grow (w8.drewN nq2) osq2) b G' (i + 1) [(x1, x2)]) := ⟨HM8.out.same (turn_grow w8 nq2 osq2), by simp⟩
            clear l1 l2 l3 l4 l5 l6 NE HLN HM8
            generalize grow (w8.drewN nq2) osq2 = w9 at HM9 ⊢
            go_wp2
            go_roundg (xs.length - (i + 1))
            case measure => omega
            case rel => exact ⟨i + 1, G', _, by go_num, by omega, by omega, HM9⟩
    · obtain rfl : i = xs.length := by omega
      have H4 := hLen_any b G 1 ys wr HM.out.1.1
      have E : ((ys.length : Nat) : Int) = min (xs.length : Int) 1 := by rw [HM.out.2]; omega
      rw [E] at H4
      have H4 := Lib.hid H4
      have hmm : (min (xs.length : Int) 1 == min (xs.length : Int) 1) = true := by simp
      have HT := Lib.hid (HT1.out.trans HM.out.1.2.2 (fun a ha => by simp at ha))
      clear hlt E
      go_wp2_with fail
      refine H4.out.mono ?_
      rintro e w9 ⟨rfl, rfl⟩
      go_wp2
      go_ret
      exact ⟨rfl, below_turn HT.out⟩
end Go.Proofs.Ytaempklgmoabcaa
