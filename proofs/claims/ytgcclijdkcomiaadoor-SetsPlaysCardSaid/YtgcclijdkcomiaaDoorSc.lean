/- A set in memory, as it is written; the walks of New, Add, Drop and Len. -/
import Derived.Test.YtgcclijdkcomiaaDoorSb
namespace Go.Proofs.YtgcclijdkcomiaaDoor
open Go.RowKit
set_option linter.unusedVariables false

def rowU (ws : List Nat) : Array Value := (ws.map fun x => Value.int .u64 (x : Nat)).toArray
/-- A set in block b, with its words in block g, both its own. -/
structure SetAt (w : World) (b g bound : Nat) (ws : List Nat) : Prop where
  blk : Whole w b 32 #[.slice (some ⟨g, 0, none⟩) ws.length ws.length, .int .i64 bound]
  row : Whole w g 67 (rowU ws)
  ne : b ≠ g
  ok : Words bound ws
theorem row_cell {w : World} {g : Nat} {ws : List Nat} (h : Whole w g 67 (rowU ws)) {i : Nat} (hi : i < ws.length) : w.cell? ⟨g, i, none⟩ = some (.int .u64 ((ws[i]?.getD 0 : Nat) : Int)) := by
  rw [h.cell]
  simp [rowU, List.getElem?_eq_getElem hi]
theorem SetAt.rd {w : World} {b g bound : Nat} {ws : List Nat} (h : SetAt w b g bound ws) : SetR w b (some ⟨g, 0, none⟩) bound ws :=
  ⟨h.blk.cell 0, h.blk.cell 1, fun hl => ⟨g, 0, rfl, h.row.lt, fun i hi => by
    rw [List.length_map] at hi
    rw [Nat.zero_add, row_cell h.row hi, word_at hi]⟩, h.ok⟩
theorem SetAt.turn {F : List Nat} {w w' : World} {b g bound : Nat} {ws : List Nat} (h : SetAt w b g bound ws) (k : Turn F w w') (hb : b ∉ F) (hg : g ∉ F) : SetAt w' b g bound ws :=
  ⟨h.blk.turn k hb, h.row.turn k hg, h.ne, h.ok⟩
theorem SetAt.set {w : World} {b g bound : Nat} {ws : List Nat} (h : SetAt w b g bound ws) (i v : Nat) (ok : Words bound (ws.set i v)) : SetAt (w.setCell ⟨g, i, none⟩ (.int .u64 (v : Nat))) b g bound (ws.set i v) := by
  refine ⟨?_, ?_, h.ne, ok⟩
  · rw [List.length_set]; exact h.blk.far (a := ⟨g, i, none⟩) h.ne _
  · have := h.row.set i (.int .u64 (v : Nat))
    have e : (rowU ws).setIfInBounds i (.int .u64 (v : Nat)) = rowU (ws.set i v) := by
      unfold rowU
      rw [List.setIfInBounds_toArray, List.map_set]
    rw [e] at this
    exact this
/-- The words behind an addition. -/
theorem Words.add {bound : Nat} {ws : List Nat} (h : Words bound ws) {n : Nat} (hn : n < bound) : Words bound (ws.set (n / 64) (ws[n / 64]?.getD 0 ||| 2 ^ (n % 64))) := by
  have hk : n / 64 < ws.length := by rw [h.len]; omega
  refine ⟨by rw [List.length_set]; exact h.len, h.le, fun x hx => ?_, fun m hm => ?_⟩
  · rcases List.mem_or_eq_of_mem_set hx with h1 | h1
    · exact h.lt x h1
    · subst h1
      exact Nat.or_lt_two_pow (n := 64) (word_lt h hk) (Nat.pow_lt_pow_right (by decide) (by omega))
  · rw [has_add ws n hk, h.top m hm]
    simp; omega
theorem Words.drop {bound : Nat} {ws : List Nat} (h : Words bound ws) {n : Nat} (hn : n < bound) :
    Words bound (ws.set (n / 64) (ws[n / 64]?.getD 0 &&& (18446744073709551615 - 2 ^ (n % 64)))) ∧ ∀ m, has (ws.set (n / 64) (ws[n / 64]?.getD 0 &&& (18446744073709551615 - 2 ^ (n % 64)))) m = (has ws m && m != n) := by
  have hk : n / 64 < ws.length := by rw [h.len]; omega
  have hp : 2 ^ (n % 64) < 2 ^ 64 := Nat.pow_lt_pow_right (by decide) (by omega)
  have H := has_drop ws n (ws[n / 64]?.getD 0 &&& (18446744073709551615 - 2 ^ (n % 64))) hk (fun j hj => by
    rw [Nat.testBit_and]
    congr 1
    have := Nat.testBit_two_pow_sub_succ hp j
    rw [show 2 ^ 64 - (2 ^ (n % 64) + 1) = 18446744073709551615 - 2 ^ (n % 64) by omega] at this
    rw [this, Nat.testBit_two_pow]
    by_cases he : j = n % 64
    · subst he; simp
    · have h3 : (j != n % 64) = true := by simp; exact he
      have h4 : decide (n % 64 = j) = false := by simp; omega
      rw [h3, h4]; simp; exact hj)
  refine ⟨⟨by rw [List.length_set]; exact h.len, h.le, fun x hx => ?_, fun m hm => ?_⟩, H⟩
  · rcases List.mem_or_eq_of_mem_set hx with h1 | h1
    · exact h.lt x h1
    · subst h1
      exact Nat.lt_of_le_of_lt Nat.and_le_left (word_lt h hk)
  · rw [H, h.top m hm]; rfl
theorem words_new (n : Nat) (h : n ≤ 2048) : Words n (List.replicate ((n + 63) / 64) 0) :=
  ⟨by simp, h, fun x hx => by rw [List.eq_of_mem_replicate hx]; decide, fun m _ => has_none _ _⟩
set_option maxHeartbeats 1000000 in
theorem new_no (n : Int) (h : n < 0 ∨ 2048 < n) (w : World) : Calls Tryd.prog 8 #[.int .i64 n] w fun e w' => e = .returned (.tuple #[.pointer none, .int .i64 1]) ∧ w = w' := by
  rcases h with h | h
  · go_enter Tryd.func8, Tryd.ntmps8
    go_wp2
    go_ret2
    exact ⟨rfl, rfl⟩
  · have h' : decide (n < 0) = false := by simp; omega
    go_enter Tryd.func8, Tryd.ntmps8
    go_wp2
    go_ret2
    exact ⟨rfl, rfl⟩
def NewYes (n : Nat) (w : World) (e : Ending) (w' : World) : Prop :=
  ∃ b g ws, e = .returned (.tuple #[.pointer (some ⟨b, 0, none⟩), .int .i64 0]) ∧ SetAt w' b g n ws ∧ (∀ m, has ws m = false) ∧ w.heap.size ≤ b ∧ w.heap.size ≤ g ∧ Turn [] w w'
theorem Tryd.info67u : (Tryd.prog.info? 67).map (fun i => (i.zero, i.size, i.bytes)) = some (some (.int .u64 0), 1, 8) := by kernel_rfl
theorem made_words (q : Nat) (hq : q ≤ 32) (w : World) :
    (Instr.makeSlice 30 (.int .i64 (q : Int)) (.int .i64 (q : Int))).run Tryd.prog w = .ok (.slice (some ⟨w.heap.size, 0, none⟩) q q) (w.alloc (.cells (rowU (List.replicate q 0)) 67)) := by
  obtain ⟨i0, hi, hz0, hz1, hz2⟩ := info_parts Tryd.info67u
  have := run_make (P := Tryd.prog) w 30 67 i0 (.int .u64 0) Tryd.underlying30 hi hz0 .i64 .i64 (q : Int) (q : Int) (by omega) (Int.le_refl _) (by rw [hz2]; omega) (by omega)
  rw [this, hz1, Nat.mul_one, Int.toNat_natCast]
  have e : madeCells (Value.int IntKind.u64 0).cells q = rowU (List.replicate q 0) := by
    apply Array.toList_inj.1
    rw [show (Value.int IntKind.u64 0).cells = #[Value.int IntKind.u64 0] by rfl, made_one]
    simp [rowU]
  rw [e]
set_option maxRecDepth 100000 in
set_option maxHeartbeats 1000000 in
theorem new_yes (n : Nat) (h : n ≤ 2048) (w : World) : Calls Tryd.prog 8 #[.int .i64 n] w (NewYes n w) := by
  obtain ⟨q, hq, hqq⟩ : ∃ q : Nat, ((n : Int) + 64 - 1) / 64 = (q : Int) ∧ Hid (q = (n + 63) / 64) := by
    refine ⟨(n + 63) / 64, ?_, rfl⟩
    omega
  have hq0 : q ≤ 32 := by have := hqq.out; omega
  have h1 : decide ((n : Int) < 0) = false := by simp
  have h2 : decide (2048 < (n : Int)) = false := by simp; omega
  have hn := Lib.hid h
  have h3 : (n : Int) ≤ 2048 := by omega
  have h4 : (0 : Int) ≤ n := by omega
  have hmk := made_words q hq0
  clear h
  go_enter Tryd.func8, Tryd.ntmps8
  go_wp2
  go_ret2
  have hqq := hqq.out
  subst hqq
  have hl : (List.replicate ((n + 63) / 64) 0).length = (n + 63) / 64 := List.length_replicate
  refine ⟨w.heap.size + 1, w.heap.size, List.replicate ((n + 63) / 64) 0, ?_, ⟨?_, ?_, by omega, words_new n hn.out⟩, fun m => has_none _ m, by omega, by omega, ?_⟩
  · simp
  · rw [hl]; have := Whole.new (w.alloc (.cells (rowU (List.replicate ((n + 63) / 64) 0)) 67)) 32 #[.slice (some ⟨w.heap.size, 0, none⟩) ((n + 63) / 64) ((n + 63) / 64), .int .i64 n]
    rw [World.size_alloc] at this; exact this
  · exact (Whole.new w 67 (rowU (List.replicate ((n + 63) / 64) 0))).alloc _
  · exact ((Turn.refl _ _).alloc _).alloc _
/-- A set in memory, by which numbers it has. -/
def SetIs (w : World) (b g bound : Nat) (f : Nat → Bool) : Prop := ∃ ws, SetAt w b g bound ws ∧ ∀ m, has ws m = f m
theorem SetIs.turn {F : List Nat} {w w' : World} {b g bound : Nat} {f : Nat → Bool} (h : SetIs w b g bound f) (k : Turn F w w') (hb : b ∉ F) (hg : g ∉ F) : SetIs w' b g bound f := by
  obtain ⟨ws, h1, h2⟩ := h
  exact ⟨ws, h1.turn k hb hg, h2⟩
/-- What Add and Drop answer, and leave. -/
def Turned (g b bound : Nat) (w : World) (r : Bool) (f : Nat → Bool) (e : Ending) (w' : World) : Prop := e = .returned (.bool r) ∧ SetIs w' b g bound f ∧ Turn [g] w w'
set_option maxRecDepth 100000 in
set_option maxHeartbeats 1000000 in
theorem add_out (b g bound : Nat) (ws : List Nat) (n : Int) (w : World) (h : SetAt w b g bound ws) (hn : inB bound n = false) :
    Calls Tryd.prog 10 #[.pointer (some ⟨b, 0, none⟩), .int .i64 n] w fun e w' => e = .returned (.bool false) ∧ w = w' := by
  have H := takes_any b bound n w h.rd.c1
  rw [hn] at H
  have H := Lib.hid H
  clear hn h
  go_enter Tryd.func10, Tryd.ntmps10
  go_wp2_with fail
  refine H.out.mono ?_
  rintro e w1 ⟨rfl, rfl⟩
  go_wp2
  go_ret
  exact ⟨rfl, rfl⟩
set_option maxRecDepth 100000 in
set_option maxHeartbeats 1000000 in
theorem add_there (b g bound : Nat) (ws : List Nat) (n : Nat) (w : World) (h : SetAt w b g bound ws) (hn : n < bound) (hh : has ws n = true) :
    Calls Tryd.prog 10 #[.pointer (some ⟨b, 0, none⟩), .int .i64 n] w fun e w' => e = .returned (.bool false) ∧ ∃ k, w' = w.drewN k := by
  have H := takes_any b bound n w h.rd.c1
  rw [show inB bound n = true by simp [inB]; omega] at H
  have H2 := has_yes b _ bound ws n w h.rd hn
  rw [hh] at H2
  have H := Lib.hid H
  have H2 := Lib.hid H2
  clear hn h hh
  go_enter Tryd.func10, Tryd.ntmps10
  go_wp2_with fail
  refine H.out.mono ?_
  rintro e w1 ⟨rfl, rfl⟩
  go_wp2_with fail
  refine H2.out.mono ?_
  rintro e w1 ⟨rfl, k, rfl⟩
  go_wp2
  go_ret
  exact ⟨rfl, _, rfl⟩
set_option maxRecDepth 100000 in
set_option maxHeartbeats 1000000 in
theorem add_new (b g bound : Nat) (ws : List Nat) (n : Nat) (w : World) (h : SetAt w b g bound ws) (hn : n < bound) (hh : has ws n = false) :
    Calls Tryd.prog 10 #[.pointer (some ⟨b, 0, none⟩), .int .i64 n] w (Turned g b bound w true (fun m => has ws m || m == n)) := by
  have H := takes_any b bound n w h.rd.c1
  rw [show inB bound n = true by simp [inB]; omega] at H
  have H2 := has_yes b _ bound ws n w h.rd hn
  rw [hh] at H2
  have H := Lib.hid H
  have H2 := Lib.hid H2
  have hL := Lib.hid (show ws.length = (bound + 63) / 64 ∧ bound ≤ 2048 from ⟨h.ok.len, h.ok.le⟩)
  have HA := Lib.hid (h.ok.add hn)
  have hlt := Lib.hid (word_lt h.ok (k := n / 64) (by rw [h.ok.len]; omega))
  have HH := Lib.hid h
  have hn' := Lib.hid hn
  clear hn h hh
  go_enter Tryd.func10, Tryd.ntmps10
  go_wp2_with fail
  refine H.out.mono ?_
  rintro e w1 ⟨rfl, rfl⟩
  go_wp2_with fail
  refine H2.out.mono ?_
  rintro e w1 ⟨rfl, k, rfl⟩
  have hs : SetAt (w.drewN k) b g bound ws := HH.out.turn (F := []) ((Turn.refl _ _).drewN _) (by simp) (by simp)
  have ht : Turn [] w (w.drewN k) := (Turn.refl _ _).drewN _
  have HT := Lib.hid (⟨hs, ht⟩ : _ ∧ _)
  clear hs ht
  generalize w.drewN k = w1 at HT ⊢
  go_wp2
  refine wp_region_still_tail 12 (by kernel_rfl) (by kernel_rfl) ?_
  simp only [List.take_succ_cons, List.take_zero, List.drop_succ_cons, List.drop_zero]
  change wpStill _ _ w1.drew (fun a' => wpList _ _ _ _ a' w1.drew) _ _
  have hs : SetAt w1.drew b g bound ws := HT.out.1.turn (F := []) ((Turn.refl _ _).drew) (by simp) (by simp)
  have ht : Turn [] w w1.drew := HT.out.2.drew
  have HT := Lib.hid (⟨hs, ht⟩ : _ ∧ _)
  clear ht
  generalize w1.drew = w2 at hs HT ⊢
  have c0 := hs.rd.c0
  have c1 := row_cell hs.row (i := n / 64) (by rw [hL.out.1]; have := hn'.out; omega)
  have f1 := hs.row.frozen (n / 64)
  have hk : n / 64 < ws.length := by rw [hL.out.1]; have := hn'.out; omega
  have hk0 : ws.length ≤ 32 := by rw [hL.out.1]; have := hL.out.2; omega
  have E := bits_or_u64_nat (ws[n / 64]?.getD 0) (2 ^ (n % 64)) hlt.out (Nat.pow_lt_pow_right (n := 64) (by decide) (by omega))
  have HB := bit_any n (by have := hn'.out; have := hL.out.2; omega) w2
  have hq : (n : Int) / 64 = ((n / 64 : Nat) : Int) := by omega
  have hn2 : (n : Int) ≤ 2048 := by have := hn'.out; have := hL.out.2; omega
  clear hs H H2
  have HA2 := Lib.hid (show SetIs (w2.setCell ⟨g, n / 64, none⟩ (.int .u64 ((ws[n / 64]?.getD 0 ||| 2 ^ (n % 64) : Nat) : Int))) b g bound (fun m => has ws m || m == n) from
    ⟨_, HT.out.1.set (n / 64) (ws[n / 64]?.getD 0 ||| 2 ^ (n % 64)) HA.out, fun m => has_add ws n hk m⟩)
  clear hlt HA
  revert HA2 E HB c1 f1 hk hq
  generalize ws[n / 64]?.getD 0 ||| 2 ^ (n % 64) = y
  generalize ws[n / 64]?.getD 0 = x
  generalize 2 ^ (n % 64) = p
  generalize n / 64 = q
  intro c1 f1 hk E HB hq HA
  have hw : IntKind.i64.wrap (q : Int) = (q : Int) := by rw [IntKind.wrap_i64]; omega
  have HB := Lib.hid (HB.mono (R' := fun e w' => e = .returned (.int .u64 p) ∧ w' = w2) (fun e w' h => ⟨h.1, h.2.symm⟩))
  still_step
  still_step
  still_step
  still_step
  still_step
  still_step
  still_step
  still_step
  still_step
  still_call HB.out
  still_step
  still_step
  refine wpStill_nil ?_
  go_wp2
  go_ret
  exact ⟨rfl, HA.out, (HT.out.2.more (B := [g]) (by simp)).setCell (.inl (by simp)) _⟩
set_option maxRecDepth 100000 in
set_option maxHeartbeats 1000000 in
theorem drop_there (b g bound : Nat) (ws : List Nat) (n : Nat) (w : World) (h : SetAt w b g bound ws) (hn : n < bound) (hh : has ws n = true) :
    Calls Tryd.prog 12 #[.pointer (some ⟨b, 0, none⟩), .int .i64 n] w (Turned g b bound w true (fun m => has ws m && m != n)) := by
  have H2 := has_yes b _ bound ws n w h.rd hn
  rw [hh] at H2
  have H2 := Lib.hid H2
  have hL := Lib.hid (show ws.length = (bound + 63) / 64 ∧ bound ≤ 2048 from ⟨h.ok.len, h.ok.le⟩)
  have HA := Lib.hid (h.ok.drop hn)
  have hlt := Lib.hid (word_lt h.ok (k := n / 64) (by rw [h.ok.len]; omega))
  have HH := Lib.hid h
  have hn' := Lib.hid hn
  clear hn h hh
  go_enter Tryd.func12, Tryd.ntmps12
  go_wp2_with fail
  refine H2.out.mono ?_
  rintro e w1 ⟨rfl, k, rfl⟩
  have hs : SetAt (w.drewN k) b g bound ws := HH.out.turn (F := []) ((Turn.refl _ _).drewN _) (by simp) (by simp)
  have ht : Turn [] w (w.drewN k) := (Turn.refl _ _).drewN _
  have HT := Lib.hid (⟨hs, ht⟩ : _ ∧ _)
  clear hs ht
  generalize w.drewN k = w1 at HT ⊢
  go_wp2
  refine wp_region_still_tail 12 (by kernel_rfl) (by kernel_rfl) ?_
  simp only [List.take_succ_cons, List.take_zero, List.drop_succ_cons, List.drop_zero]
  change wpStill _ _ w1.drew (fun a' => wpList _ _ _ _ a' w1.drew) _ _
  have hs : SetAt w1.drew b g bound ws := HT.out.1.turn (F := []) ((Turn.refl _ _).drew) (by simp) (by simp)
  have ht : Turn [] w w1.drew := HT.out.2.drew
  have HT := Lib.hid (⟨hs, ht⟩ : _ ∧ _)
  clear ht
  generalize w1.drew = w2 at hs HT ⊢
  have c0 := hs.rd.c0
  have c1 := row_cell hs.row (i := n / 64) (by rw [hL.out.1]; have := hn'.out; omega)
  have f1 := hs.row.frozen (n / 64)
  have hk : n / 64 < ws.length := by rw [hL.out.1]; have := hn'.out; omega
  have hk0 : ws.length ≤ 32 := by rw [hL.out.1]; have := hL.out.2; omega
  have E := u64_andNot_nat (ws[n / 64]?.getD 0) (2 ^ (n % 64)) hlt.out (Nat.pow_lt_pow_right (n := 64) (by decide) (by omega))
  have HB := bit_any n (by have := hn'.out; have := hL.out.2; omega) w2
  have hq : (n : Int) / 64 = ((n / 64 : Nat) : Int) := by omega
  have hn2 : (n : Int) ≤ 2048 := by have := hn'.out; have := hL.out.2; omega
  clear hs H2
  have HA2 := Lib.hid (show SetIs (w2.setCell ⟨g, n / 64, none⟩ (.int .u64 ((ws[n / 64]?.getD 0 &&& (18446744073709551615 - 2 ^ (n % 64)) : Nat) : Int))) b g bound (fun m => has ws m && m != n) from
    ⟨_, HT.out.1.set (n / 64) (ws[n / 64]?.getD 0 &&& (18446744073709551615 - 2 ^ (n % 64))) HA.out.1, HA.out.2⟩)
  clear hlt HA
  revert HA2 E HB c1 f1 hk hq
  generalize ws[n / 64]?.getD 0 &&& (18446744073709551615 - 2 ^ (n % 64)) = y
  generalize ws[n / 64]?.getD 0 = x
  generalize 2 ^ (n % 64) = p
  generalize n / 64 = q
  intro c1 f1 hk E HB hq HA
  have hw : IntKind.i64.wrap (q : Int) = (q : Int) := by rw [IntKind.wrap_i64]; omega
  have HB := Lib.hid (HB.mono (R' := fun e w' => e = .returned (.int .u64 p) ∧ w' = w2) (fun e w' h => ⟨h.1, h.2.symm⟩))
  still_step
  still_step
  still_step
  still_step
  still_step
  still_step
  still_step
  still_step
  still_step
  still_call HB.out
  still_step
  still_step
  refine wpStill_nil ?_
  go_wp2
  go_ret
  exact ⟨rfl, HA.out, (HT.out.2.more (B := [g]) (by simp)).setCell (.inl (by simp)) _⟩
set_option maxRecDepth 100000 in
set_option maxHeartbeats 1000000 in
theorem drop_no (b : Nat) (A : Option Addr) (bound : Nat) (ws : List Nat) (n : Int) (w : World) (h : SetR w b A bound ws) (hh : hasI bound ws n = false) :
    Calls Tryd.prog 12 #[.pointer (some ⟨b, 0, none⟩), .int .i64 n] w fun e w' => e = .returned (.bool false) ∧ ∃ k, w' = w.drewN k := by
  have H2 := has_any b A bound ws n w h
  rw [hh] at H2
  have H2 := Lib.hid H2
  clear h hh
  go_enter Tryd.func12, Tryd.ntmps12
  go_wp2_with fail
  refine H2.out.mono ?_
  rintro e w1 ⟨rfl, k, rfl⟩
  go_wp2
  go_ret
  exact ⟨rfl, _, rfl⟩
set_option maxRecDepth 100000 in
theorem drop_none (n : Int) (w : World) :
    Calls Tryd.prog 12 #[.pointer none, .int .i64 n] w fun e w' => e = .returned (.bool false) ∧ ∃ k, w' = w.drewN k := by
  have H2 := Lib.hid (hasNone n w)
  go_enter Tryd.func12, Tryd.ntmps12
  go_wp2_with fail
  refine H2.out.mono ?_
  rintro e w1 ⟨rfl, k, rfl⟩
  go_wp2
  go_ret
  exact ⟨rfl, _, rfl⟩
set_option maxRecDepth 100000 in
theorem add_none (n : Int) (w : World) :
    Calls Tryd.prog 10 #[.pointer none, .int .i64 n] w fun e w' => e = .returned (.bool false) ∧ w = w' := by
  have H2 := Lib.hid (takes_none n w)
  go_enter Tryd.func10, Tryd.ntmps10
  go_wp2_with fail
  refine H2.out.mono ?_
  rintro e w1 ⟨rfl, rfl⟩
  go_wp2
  go_ret
  exact ⟨rfl, rfl⟩
/-- Is n one of the numbers of the set? -/
def inI (bound : Nat) (f : Nat → Bool) (n : Int) : Bool := inB bound n && f n.toNat
/-- The numbers behind an addition, and behind a drop. -/
def plus (bound : Nat) (f : Nat → Bool) (n : Int) (m : Nat) : Bool := f m || (inB bound n && decide ((m : Int) = n))
def minus (f : Nat → Bool) (n : Int) (m : Nat) : Bool := f m && !decide ((m : Int) = n)
theorem SetIs.congr {w : World} {b g bound : Nat} {f k : Nat → Bool} (h : SetIs w b g bound f) (e : ∀ m, f m = k m) : SetIs w b g bound k := by
  obtain ⟨ws, h1, h2⟩ := h
  exact ⟨ws, h1, fun m => (h2 m).trans (e m)⟩
theorem SetIs.le {w : World} {b g bound : Nat} {f : Nat → Bool} (h : SetIs w b g bound f) : bound ≤ 2048 ∧ (∀ m, bound ≤ m → f m = false) ∧ b < w.heap.size ∧ g < w.heap.size ∧ b ≠ g := by
  obtain ⟨ws, h1, h2⟩ := h
  exact ⟨h1.ok.le, fun m hm => (h2 m).symm.trans (h1.ok.top m hm), h1.blk.lt, h1.row.lt, h1.ne⟩
/-- Add, of any number. -/
theorem add_any (b g bound : Nat) (f : Nat → Bool) (n : Int) (w : World) (h : SetIs w b g bound f) :
    Calls Tryd.prog 10 #[.pointer (some ⟨b, 0, none⟩), .int .i64 n] w (Turned g b bound w (inB bound n && !f n.toNat) (plus bound f n)) := by
  obtain ⟨ws, h1, h2⟩ := h
  by_cases hb : inB bound n = true
  · have h3 : 0 ≤ n ∧ n < bound := by simpa [inB] using hb
    obtain ⟨m, rfl⟩ : ∃ m : Nat, n = m := ⟨n.toNat, by omega⟩
    have h4 : m < bound := by omega
    rw [hb, Int.toNat_natCast, Bool.true_and]
    have hp : ∀ j, plus bound f (m : Int) j = (f j || j == m) := fun j => by
      unfold plus; rw [hb, Bool.true_and]
      congr 1
      by_cases e : j = m
      · subst e; simp
      · have : ¬ ((j : Int) = (m : Int)) := by omega
        simp [e, this]
    cases hf : f m
    · refine (add_new b g bound ws m w h1 h4 ((h2 m).trans hf)).mono fun e w' ⟨e1, e2, e3⟩ => ⟨e1, e2.congr fun j => ?_, e3⟩
      rw [hp, h2]
    · refine (add_there b g bound ws m w h1 h4 ((h2 m).trans hf)).mono fun e w' ⟨e1, k, e2⟩ => ⟨e1, ⟨ws, ?_, fun j => ?_⟩, ?_⟩
      · rw [e2]; exact h1.turn (F := []) ((Turn.refl _ _).drewN _) (by simp) (by simp)
      · rw [hp, h2]
        by_cases e : j = m
        · subst e; simp [hf]
        · simp [e]
      · rw [e2]; exact (Turn.refl _ _).drewN _
  · have hb' : inB bound n = false := by simpa using hb
    rw [hb', Bool.false_and]
    refine (add_out b g bound ws n w h1 hb').mono fun e w' ⟨e1, e2⟩ => ⟨e1, ⟨ws, ?_, fun j => ?_⟩, ?_⟩
    · rw [← e2]; exact h1
    · unfold plus; rw [hb', h2]; simp
    · rw [← e2]; exact Turn.refl _ _
/-- Drop, of any number. -/
theorem drop_any (b g bound : Nat) (f : Nat → Bool) (n : Int) (w : World) (h : SetIs w b g bound f) :
    Calls Tryd.prog 12 #[.pointer (some ⟨b, 0, none⟩), .int .i64 n] w (Turned g b bound w (inI bound f n) (minus f n)) := by
  obtain ⟨ws, h1, h2⟩ := h
  by_cases hb : hasI bound ws n = true
  · have h3 : (0 ≤ n ∧ n < bound) ∧ has ws n.toNat = true := by simpa [hasI, inB] using hb
    obtain ⟨m, rfl⟩ : ∃ m : Nat, n = m := ⟨n.toNat, by omega⟩
    have h4 : m < bound := by omega
    have hi : inI bound f (m : Int) = true := by
      have : f m = true := (h2 m).symm.trans (by simpa using h3.2)
      simp [inI, inB, this]; omega
    rw [hi]
    refine (drop_there b g bound ws m w h1 h4 (by simpa using h3.2)).mono fun e w' ⟨e1, e2, e3⟩ => ⟨e1, e2.congr fun j => ?_, e3⟩
    unfold minus
    rw [h2]
    by_cases e : j = m
    · subst e; simp
    · have : ¬ ((j : Int) = (m : Int)) := by omega
      simp [e, this]
  · have hb' : hasI bound ws n = false := by simpa using hb
    have hi : inI bound f n = false := by unfold inI hasI at *; rw [← h2]; exact hb'
    rw [hi]
    refine (drop_no b _ bound ws n w h1.rd hb').mono fun e w' ⟨e1, k, e2⟩ => ⟨e1, ⟨ws, ?_, fun j => ?_⟩, ?_⟩
    · rw [e2]; exact h1.turn (F := []) ((Turn.refl _ _).drewN _) (by simp) (by simp)
    · unfold minus
      rw [h2]
      by_cases e : (j : Int) = n
      · subst e
        unfold inI at hi
        by_cases hj : j < bound
        · have : inB bound (j : Int) = true := by simp [inB]; omega
          rw [this] at hi
          have hf : f j = false := by simpa using hi
          simp [hf]
        · rw [← h2, h1.ok.top j (by omega)]; rfl
      · simp [e]
    · rw [e2]; exact (Turn.refl _ _).drewN _
/-- Has, of any number. -/
theorem hasF_any (b g bound : Nat) (f : Nat → Bool) (n : Int) (w : World) (h : SetIs w b g bound f) :
    Calls Tryd.prog 14 #[.pointer (some ⟨b, 0, none⟩), .int .i64 n] w fun e w' => e = .returned (.bool (inI bound f n)) ∧ ∃ k, w' = w.drewN k := by
  obtain ⟨ws, h1, h2⟩ := h
  have := has_any b _ bound ws n w h1.rd
  unfold hasI at this
  rw [h2] at this
  exact this
end Go.Proofs.YtgcclijdkcomiaaDoor
