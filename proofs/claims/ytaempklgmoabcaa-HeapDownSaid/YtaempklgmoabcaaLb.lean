/- The walk of the statement HeapDown. -/
import Derived.Test.YtaempklgmoabcaaHk
namespace Go.Proofs.Ytaempklgmoabcaa
open Go.Shelf Go.RowKit Go.Lib
open Go.Sort hiding Below
set_option linter.unusedVariables false
set_option maxRecDepth 100000 in
theorem heapDown_far (A : Option Addr) (c n : Nat) (m : Int) (w : World) (h : 300 < n) :
    Calls Try.prog 4 #[.slice A n c, .int .u8 m] w (Yes w) := by
  have HA := Lib.hid alive_any
  have z : (300 : Int) < (n : Int) := by omega
  go_enter Try.func4, Try.ntmps4
  go_wp2_with fail
  refine (HA.out w).mono ?_
  rintro e w1 ⟨rfl, t1⟩
  go_wp2_with fail
  refine (HA.out w1).mono ?_
  rintro e w2 ⟨rfl, t2⟩
  go_wp2
  go_ret
  exact ⟨rfl, below_turn (t1.trans t2 (fun a ha => by simp at ha))⟩
/-- What pushing keeps to. -/
theorem pushH_len {m : Nat} {ys : HL} {z : Int × Int} (hl : ys.length ≤ m) (hm : 0 < m) : (pushH m ys z).length ≤ m := by
  unfold pushH
  split
  · rw [srt_len, List.length_append, List.length_singleton]
    split
    · rw [List.length_dropLast]; omega
    · omega
  · exact hl
theorem pushAll_len {m : Nat} (hm : 0 < m) : ∀ (xs ys : HL), ys.length ≤ m → (pushAll m ys xs).length ≤ m
  | [], ys, h => h
  | x :: xs, ys, h => pushAll_len hm xs _ (pushH_len h hm)
/-- Of hits of unlike IDs in order, each is nearer than the next. -/
theorem up_lt {ys : HL} (hu : Up ys) (hn : (ids ys).Nodup) {i : Nat} {x y : Int × Int} (h1 : ys[i]? = some x) (h2 : ys[i + 1]? = some y) : ltH x y = true := by
  obtain ⟨l1, e1⟩ := List.getElem?_eq_some_iff.1 h1
  obtain ⟨l2, e2⟩ := List.getElem?_eq_some_iff.1 h2
  have h3 := List.pairwise_iff_getElem.1 hu i (i + 1) l1 l2 (by omega)
  rw [e1, e2] at h3
  simp only [Bool.not_eq_true'] at h3
  cases h : ltH x y with
  | true => rfl
  | false =>
    have e := sepH x y h h3
    have h4 := List.pairwise_iff_getElem.1 hn i (i + 1) (by simpa using l1) (by simpa using l2) (by omega)
    simp only [ids, List.getElem_map] at h4
    rw [e1, e2, e] at h4
    exact absurd rfl h4
theorem last_at {ys : HL} {q : Nat} (h : ys.length = q + 1) : ys[q]? = some (lastH ys) := by
  have e := split_last (ys := ys) (by omega)
  conv => lhs; rw [← e]
  rw [List.getElem?_append_right (by rw [List.length_dropLast]; omega), List.length_dropLast]
  simp [h]
theorem take_dropLast {ys : HL} {k : Nat} (h : k + 1 ≤ ys.length) : (ys.take (k + 1)).dropLast = ys.take k := by
  rw [List.dropLast_eq_take, List.take_take, List.length_take]
  congr 1
  omega
set_option maxRecDepth 100000 in
set_option maxHeartbeats 4000000 in
theorem heapDown_yes (A : Option Addr) (c : Nat) (xs : HL) (m : Nat) (w : World) (hx : RdH w w.heap.size A xs) (ok : ∀ x ∈ xs, HitOk x) (hl : xs.length ≤ 300) (hm : m ≤ 255) :
    Calls Try.prog 4 #[.slice A xs.length c, .int .u8 m] w (Yes w) := by
  have HA := Lib.hid alive_any
  have z : decide ((xs.length : Int) > 300) = false := decide_eq_false (by omega)
  have z' : ¬ (300 : Int) < (xs.length : Int) := by omega
  have HX := Lib.hid hx
  have HL := Lib.hid hl
  have OK := Lib.hid ok
  clear hx ok
  go_enter Try.func4, Try.ntmps4
  go_wp2_with fail
  refine (HA.out w).mono ?_
  rintro e w1 ⟨rfl, t1⟩
  have em : ((m + 1 : Nat) : Int) = (m : Int) + 1 := rfl
  have f1 := fill_any (m + 1) A c xs xs.length rfl w1 ((HX.out.below (below_turn t1)).more t1.size) OK.out (by omega) (by omega) (by omega)
  rw [em] at f1
  have F1 := Lib.hid f1
  clear f1 em
  go_wp2_with fail
  refine F1.out.mono ?_
  rintro e w2 ⟨b, F, rfl, M2⟩
  obtain ⟨ys, hys⟩ : ∃ ys, ys = pushAll (m + 1) [] xs := ⟨_, rfl⟩
  rw [← hys] at M2
  clear hys
  have H3 := Lib.hid (hHits_any b F (m + 1) ys w2 M2.1)
  have HM2 := Lib.hid M2
  have HGF0 := Lib.hid M2.1.lt
  clear F1 M2
  go_wp2_with fail
  refine H3.out.mono ?_
  rintro e w3 ⟨g, rfl, hW3, hg3, t3⟩
  have M3 := HM2.out.same t3
  have HGF : Hid (∀ f ∈ F, f < g) := fun f hf => Nat.lt_of_lt_of_le (HGF0.out f hf) hg3
  have HF := Lib.hid M3.1.facts
  have hyl : ys.length ≤ m + 1 := HF.out.2.2.1
  obtain ⟨q, hq⟩ : ∃ q, q = ys.length := ⟨_, rfl⟩
  have H4 := hLen_any b F (m + 1) ys w3 M3.1
  rw [← hq] at H4
  have H4 := Lib.hid H4
  have H5 := unlike_any (some ⟨g, 0, none⟩) q ys q hq w3 _ (rdH_whole hW3) (by omega)
  rw [decide_eq_true HF.out.1] at H5
  have H5 := Lib.hid H5
  have HQ := Lib.hid hq
  have e1 : ((q : Int) != (q : Int)) = false := by simp
  have e2 : decide ((q : Int) > (m : Int) + 1) = false := decide_eq_false (by omega)
  have e2' : decide ((m : Int) + 1 < (q : Int)) = false := decide_eq_false (by omega)
  have HM3 := Lib.hid M3
  have HW3 := Lib.hid hW3
  rw [← hq]
  clear H3 HM2 hW3 hg3 M3 hq hyl
  go_wp2_with fail
  refine H4.out.mono ?_
  rintro e w4 ⟨rfl, rfl⟩
  go_wp2_with fail
  refine H5.out.mono ?_
  rintro e w5 ⟨rfl, q5, rfl⟩
  have t5 : Turn [] w4 (w4.drewN q5) := (Turn.refl [] w4).drewN q5
  have M5 := HM3.out.same t5
  have HI : Hid (Mine w1 (w4.drewN q5) b F (m + 1) (ys.take q)) := by rw [HQ.out, List.take_length]; exact M5
  have hgF : Hid (g ∉ F) := fun hm => by
    have := HGF.out g hm
    omega
  have hW5 : Whole (w4.drewN q5) g 28 (flatH ys).toArray := HW3.out.turn t5 (by simp)
  have HT1 := Lib.hid t1
  have hq3 : q ≤ 256 := by have := HF.out; have := HQ.out; omega
  clear H4 H5 t5 M5 e1 e2 e2' HM3 HW3 t1 t3
  generalize w4.drewN q5 = w5 at HI hW5 ⊢
  go_wp2
  go_loopg [7] q (fun g1 s wr => ∃ t : Nat, s = .int .i64 ((t : Int) - 1) ∧ t ≤ q ∧ t ≤ g1 ∧ Hid (Mine w1 wr b F (m + 1) (ys.take t)) ∧ Hid (Whole wr g 28 (flatH ys).toArray))
  case atStart => exact ⟨q, by simp, by omega, by omega, HI, hW5⟩
  case round =>
    clear HI hW5
    obtain ⟨t, rfl, ht, hg1, HM, HW⟩ := hrel
    rcases Nat.eq_zero_or_pos t with h0 | h0
    · subst h0
      have H6 := Lib.hid (hPopM_no b F (m + 1) wr (by have := HM.out.1; simpa using this))
      go_wp2_with fail
      refine H6.out.mono ?_
      rintro e w6 ⟨rfl, t6⟩
      go_wp2
      go_ret
      exact ⟨rfl, below_turn ((HT1.out.trans (HM.out.2.2.trans t6 (fun a ha => by simp at ha)) (fun a ha => by simp at ha)).alloc _)⟩
    · obtain ⟨r, rfl⟩ : ∃ r, t = r + 1 := ⟨t - 1, by omega⟩
      have htk : (ys.take (r + 1)).length = r + 1 := by have := HQ.out; rw [List.length_take]; omega
      obtain ⟨x1, x2, hx0⟩ : ∃ x1 x2, ys[r]? = some (x1, x2) := ⟨_, _, List.getElem?_eq_getElem (by have := HQ.out; omega)⟩
      have hlast : lastH (ys.take (r + 1)) = (x1, x2) := by
        have := last_at htk
        rw [List.getElem?_take, if_pos (by omega), hx0] at this
        injection this with this
        exact this.symm
      have er : ((r + 1 : Nat) : Int) - 1 = (r : Int) := by omega
      rw [er]
      have h6 := hWorst_yes b F (m + 1) _ wr HM.out.1 (by omega)
      rw [hlast] at h6
      have H6 : Hid (Calls Try.prog 15 #[.pointer (some ⟨b, 0, none⟩)] wr fun e w' => e = .returned (.tuple #[.agg #[.int .u64 x1, .int .i64 x2], .bool true]) ∧ Turn [] wr w') := h6
      have rz : (0 : Int) ≤ (r : Int) := by omega
      clear h6 er
      go_wp2_with fail
      refine H6.out.mono ?_
      rintro e w6 ⟨rfl, t6⟩
      have t6' := t6.alloc (.cells #[.int .u64 x1, .int .i64 x2] 28)
      have M6 := HM.out.same t6'
      have hW6 := HW.out.turn t6' (by simp)
      have hP := Whole.new w6 28 #[.int .u64 x1, .int .i64 x2]
      have hpF : w6.heap.size ∉ F := fun hm => by have := (HM.out.same t6).1.lt _ hm; omega
      have h7 := hPopM_yes b F (m + 1) _ _ M6.1 (by omega)
      rw [hlast, take_dropLast (by have := HQ.out; omega)] at h7
      have H7 : Hid (Calls Try.prog 16 #[.pointer (some ⟨b, 0, none⟩)] (w6.alloc (.cells #[.int .u64 x1, .int .i64 x2] 28)) fun e w' => e = .returned (.tuple #[.agg #[.int .u64 x1, .int .i64 x2], .bool true]) ∧ HeapIs w' b F (m + 1) (ys.take r) ∧ Turn F (w6.alloc (.cells #[.int .u64 x1, .int .i64 x2] 28)) w') := h7
      have HB := Lib.hid (⟨M6, hW6, hP, hpF⟩ : _ ∧ _ ∧ _ ∧ _)
      clear h7 H6 t6 t6' M6 hW6 hP hpF
      go_wp2_with fail
      generalize w6.alloc (.cells #[.int .u64 x1, .int .i64 x2] 28) = w7 at H7 HB ⊢
      generalize w6.heap.size = p at HB ⊢
      refine H7.out.mono ?_
      rintro e w8 ⟨rfl, hI8, t8⟩
      obtain ⟨M6, hW6, hP, hpF⟩ := HB.out
      have M8 : Mine w1 w8 b F (m + 1) (ys.take r) := ⟨hI8, M6.2.1, M6.2.2.trans t8 (fun a ha => .inr (M6.2.1 a ha))⟩
      have hW8 := hW6.turn t8 hgF.out
      have hP8 := hP.turn t8 hpF
      have t9 := (Turn.refl [] w8).alloc (.cells #[.int .u64 x1, .int .i64 x2] 28)
      have M9 := M8.same t9
      have hW9 := hW8.turn t9 (by simp)
      have hP9 := hP8.turn t9 (by simp)
      have hR9 := Whole.new w8 28 #[.int .u64 x1, .int .i64 x2]
      have HB9 := Lib.hid (⟨M9, hW9, hP9, hR9⟩ : _ ∧ _ ∧ _ ∧ _)
      clear H7 HB M6 hW6 hP hpF hI8 t8 M8 hW8 hP8 t9 M9 hW9 hP9 hR9
      go_wp2
      generalize w8.alloc (.cells #[.int .u64 x1, .int .i64 x2] 28) = w9 at HB9 ⊢
      generalize w8.heap.size = pq at HB9 ⊢
      obtain ⟨M9, hW9, hP9, hR9⟩ := HB9.out
      have HM9 := Lib.hid M9
      have HW9 := Lib.hid hW9
      have mixed : Try.prog.follows .mixedOrders = true := by kernel_rfl
      have NE : ∀ W, Sem.run Try.prog (binOp .neq 28 (.agg #[.int .u64 x1, .int .i64 x2]) (.agg #[.int .u64 x1, .int .i64 x2])) W = .ok (.bool false) W := fun W => by
        have := neqH x1 x2 x1 x2 W
        simpa using this
      have k1 := fun n os => cell_grow (p := ⟨p, 0, none⟩) (v := .int .u64 x1) (hP9.cell 0) n os
      have k2 := fun n os => cell_grow (p := ⟨p, 1, none⟩) (v := .int .i64 x2) (hP9.cell 1) n os
      have k3 := fun n os => cell_grow (p := ⟨pq, 0, none⟩) (v := .int .u64 x1) (hR9.cell 0) n os
      have k4 := fun n os => cell_grow (p := ⟨pq, 1, none⟩) (v := .int .i64 x2) (hR9.cell 1) n os
      have hrd := rdH_whole hW9
      obtain ⟨b0, off0, y1, y2, hA0, _, kc1, kc2, hy0⟩ := hrd.at_ (i := r) (by have := HQ.out; omega)
      simp only [Option.some.injEq, Addr.mk.injEq, and_true] at hA0
      obtain ⟨rfl, rfl⟩ := hA0
      have hy := hy0.out
      rw [hx0] at hy
      injection hy with hy
      injection hy with hy1 hy2
      subst hy1 hy2
      rw [Nat.zero_add] at kc1 kc2
      have k5 := fun n os => cell_grow kc1 n os
      have k6 := fun n os => cell_grow kc2 n os
      have HLN : Hid (∀ n' os', Calls Try.prog 14 #[.pointer (some ⟨b, 0, none⟩)] (grow (w9.drewN n') os') fun e w' => e = .returned (.int .i64 (r : Int)) ∧ ∃ q os'', w' = grow ((grow (w9.drewN n') os').drewN q) os'') := fun n' os' => by
        have := hLen_any b F (m + 1) (ys.take r) _ (M9.1.turn (turn_grow w9 n' os') (fun f _ => by simp))
        rw [List.length_take, show min r ys.length = r by have := HQ.out; omega] at this
        exact this.mono fun e w' hh => ⟨hh.1, 0, #[], by rw [hh.2]; exact grow_zero _⟩
      have rz1 : (r : Int) < (q : Int) := by omega
      clear hrd hy0 kc1 kc2 hP9 hR9 hW9 M9 HB9 htk hlast
      rcases Nat.eq_zero_or_pos r with hr0 | hr0
      · subst hr0
        simp only [Nat.zero_mul, Nat.zero_add] at k5 k6
        have z0 : decide ((0 : Int) > (0 : Int)) = false := by decide
        refine wp_region_quiet_grown mixed (by kernel_rfl) ?_
        repeat (go_big_quiet_step (first | (go_at_call 14; with_reducible refine Calls.grown_of (HLN.out _ _))))
        refine wpQuiet_nil ?_
        intro _ hw'
        obtain ⟨⟨nq', osq⟩, hw''⟩ := hw'
        subst hw''
        have HM10 : Hid (Mine w1 (grow (w9.drewN nq') osq) b F (m + 1) (ys.take 0)) := HM9.out.same (turn_grow w9 nq' osq)
        have HW10 : Hid (Whole (grow (w9.drewN nq') osq) g 28 (flatH ys).toArray) := HW9.out.turn (turn_grow w9 nq' osq) (by simp)
        clear k1 k2 k3 k4 k5 k6 HLN NE
        generalize grow (w9.drewN nq') osq = w10 at HM10 HW10 ⊢
        go_wp2
        go_roundg 0
        case measure => omega
        case rel => exact ⟨0, by simp, by omega, by omega, HM10, HW10⟩
      · obtain ⟨l, rfl⟩ : ∃ l, r = l + 1 := ⟨r - 1, by omega⟩
        obtain ⟨b1, off1, v1, v2, hA1, _, kc3, kc4, hv0⟩ := (rdH_whole HW9.out).at_ (i := l) (by have := HQ.out; omega)
        simp only [Option.some.injEq, Addr.mk.injEq, and_true] at hA1
        obtain ⟨rfl, rfl⟩ := hA1
        rw [Nat.zero_add] at kc3 kc4
        have k7 := fun n os => cell_grow kc3 n os
        have k8 := fun n os => cell_grow kc4 n os
        have hlt := up_lt HF.out.2.2.2.2.2.1 HF.out.1 hv0.out hx0
        have HLS : Hid (∀ n' os', Calls Try.prog 17 #[.agg #[.int .u64 v1, .int .i64 v2], .agg #[.int .u64 x1, .int .i64 x2]] (grow (w9.drewN n') os') fun e w' => e = .returned (.bool true) ∧ ∃ q os'', w' = grow ((grow (w9.drewN n') os').drewN q) os'') := fun n' os' => by
          have := less_grown (v1, v2) (x1, x2) w9 n' os'
          rw [hlt] at this
          exact this
        have z0 : decide ((l : Int) + 1 > (0 : Int)) = true := decide_eq_true (by omega)
        have z1 : decide ((0 : Int) < (l : Int) + 1) = true := decide_eq_true (by omega)
        have hwp : IntKind.i64.wrap (l : Int) = (l : Int) := by rw [IntKind.wrap_i64]; omega
        have l1 : (0 : Int) ≤ (l : Int) := by omega
        have l2 : (l : Int) < (q : Int) := by omega
        have l3 : (0 : Int) ≤ (l : Int) + 1 := by omega
        have l4 : ((l : Int) + 1).toNat = l + 1 := by omega
        have l5 : (l : Int) + 1 < (q : Int) := by omega
        have ecl : ((l + 1 : Nat) : Int) = (l : Int) + 1 := rfl
        rw [ecl] at HLN
        clear kc3 kc4 hv0 hlt ecl
        refine wp_region_quiet_grown mixed (by kernel_rfl) ?_
        repeat (go_big_quiet_step (first | (go_at_call 14; with_reducible refine Calls.grown_of (HLN.out _ _)) | (go_at_call 17; with_reducible refine Calls.grown_of (HLS.out _ _))))
        refine wpQuiet_nil ?_
        intro _ hw'
        obtain ⟨⟨nq', osq⟩, hw''⟩ := hw'
        subst hw''
        have HM10 : Hid (Mine w1 (grow (w9.drewN nq') osq) b F (m + 1) (ys.take (l + 1))) := HM9.out.same (turn_grow w9 nq' osq)
        have HW10 : Hid (Whole (grow (w9.drewN nq') osq) g 28 (flatH ys).toArray) := HW9.out.turn (turn_grow w9 nq' osq) (by simp)
        clear k1 k2 k3 k4 k5 k6 k7 k8 HLN HLS NE hwp l4 z0 z1
        generalize grow (w9.drewN nq') osq = w10 at HM10 HW10 ⊢
        go_wp2
        go_roundg (l + 1)
        case measure => omega
        case rel => exact ⟨l + 1, by congr 1; omega, by omega, by omega, HM10, HW10⟩
end Go.Proofs.Ytaempklgmoabcaa
