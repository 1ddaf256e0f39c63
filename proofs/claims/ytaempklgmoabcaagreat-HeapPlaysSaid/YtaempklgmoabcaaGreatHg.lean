/- The walks of the heap's methods. -/
import Derived.Test.YtaempklgmoabcaaGreatHf
import Derived.BigQuiet
namespace Go.Proofs.YtaempklgmoabcaaGreat
open Go.Shelf Go.RowKit Go.Lib
open Go.Sort hiding Below
set_option linter.unusedVariables false
/-- A heap in block b (and the blocks F in all), for so many hits, that keeps ys, the nearest first. -/
def HeapIs (w : World) (b : Nat) (F : List Nat) (most : Nat) (ys : HL) : Prop := ∃ fm v n L, HeapAt w b fm most v n L ∧ F = foot b fm v ∧ srt L = ys ∧ 0 < most
theorem HeapIs.turn {A F : List Nat} {w w' : World} {b most : Nat} {ys : HL} (h : HeapIs w b F most ys) (k : Turn A w w') (hd : ∀ f ∈ F, f ∉ A) : HeapIs w' b F most ys := by
  obtain ⟨fm, v, n, L, h1, rfl, h3, h4⟩ := h
  exact ⟨fm, v, n, L, h1.turn k hd, rfl, h3, h4⟩
theorem HeapIs.lt {F : List Nat} {w : World} {b most : Nat} {ys : HL} (h : HeapIs w b F most ys) : ∀ f ∈ F, f < w.heap.size := by
  obtain ⟨fm, v, n, L, h1, rfl, h3, h4⟩ := h
  exact h1.lt
theorem HeapIs.facts {F : List Nat} {w : World} {b most : Nat} {ys : HL} (h : HeapIs w b F most ys) : (ids ys).Nodup ∧ (∀ x ∈ ys, HitOk x) ∧ ys.length ≤ most ∧ most ≤ 256 ∧ 0 < most ∧ Up ys ∧ b ∈ F := by
  obtain ⟨fm, v, n, L, h1, rfl, rfl, h4⟩ := h
  refine ⟨((srt_perm L).map (·.1)).nodup_iff.2 h1.nd, fun x hx => h1.wf x ((srt_perm L).subset hx), ?_, h1.cap, h4, up_srt L, by simp [foot]⟩
  rw [srt_len, ← h1.at_.len]; exact h1.le
theorem there_any (b : Nat) (v m : Value) (most : Int) (w : World) (hb : Whole w b 36 #[v, m, .int .i64 most]) :
    Calls Tryz.prog 20 #[.pointer (some ⟨b, 0, none⟩)] w fun e w' => e = .returned (.bool (decide (0 < most))) ∧ w' = w := by
  have c2 : w.cell? ⟨b, 2, none⟩ = some (.int .i64 most) := hb.cell 2
  go_enter Tryz.func20, Tryz.ntmps20
  go_wp2
  go_ret
  exact ⟨rfl, rfl⟩
theorem there_none (w : World) : Calls Tryz.prog 20 #[.pointer none] w fun e w' => e = .returned (.bool false) ∧ w' = w := by
  go_enter Tryz.func20, Tryz.ntmps20
  go_wp2
  go_ret
  exact ⟨rfl, rfl⟩
theorem hLen_any (b : Nat) (F : List Nat) (most : Nat) (ys : HL) (w : World) (h : HeapIs w b F most ys) :
    Calls Tryz.prog 12 #[.pointer (some ⟨b, 0, none⟩)] w fun e w' => e = .returned (.int .i64 (ys.length : Int)) ∧ w' = w := by
  obtain ⟨fm, v, n, L, h1, rfl, rfl, h4⟩ := h
  obtain ⟨A, q, c, rfl⟩ := own_form h1.at_.row
  have hq : q = n := by
    rcases h1.at_.row.2 with ⟨hv, h0⟩ | ⟨g, cap, cur, hv, _⟩
    · injection hv with _ q2 _; omega
    · injection hv
  have E := Lib.hid (show ((srt L).length : Int) = (q : Int) by rw [srt_len, hq, h1.at_.len])
  have c0 : w.cell? ⟨b, 0, none⟩ = some (.slice A q c) := h1.at_.blk.cell 0
  have H1 := Lib.hid (there_any b _ _ _ w h1.at_.blk)
  have z : decide ((0 : Int) < (most : Int)) = true := decide_eq_true (by omega)
  clear h1 hq
  go_enter Tryz.func12, Tryz.ntmps12
  go_wp2_with fail
  refine H1.out.mono ?_
  rintro e w1 ⟨rfl, rfl⟩
  go_wp2
  go_ret
  exact ⟨by rw [E.out]; rfl, rfl⟩
/-- A slice of hits of the call's own, in a new block. -/
def HitsYes (ys : HL) (w : World) (e : Ending) (w' : World) : Prop := ∃ g, e = .returned (.slice (some ⟨g, 0, none⟩) ys.length ys.length) ∧ Whole w' g 53 (flatH ys).toArray ∧ w.heap.size ≤ g ∧ Turn [] w w'
theorem own_read {w : World} {A : Option Addr} {q c : Nat} {L : HL} (h : w.ownsRow 0 53 2 (.slice A q c) q (flatH L)) : RdH w w.heap.size A L := by
  obtain ⟨A', c', hv, hn, hr⟩ := own_sliceH h
  injection hv with q1 q2 q3
  subst q1
  exact hr
set_option maxRecDepth 100000 in
theorem hHits_any (b : Nat) (F : List Nat) (most : Nat) (ys : HL) (w : World) (h : HeapIs w b F most ys) :
    Calls Tryz.prog 14 #[.pointer (some ⟨b, 0, none⟩)] w (HitsYes ys w) := by
  obtain ⟨fm, v, n, L, h1, rfl, rfl, h4⟩ := h
  obtain ⟨A, q, c, rfl⟩ := own_form h1.at_.row
  obtain rfl : q = n := by
    rcases h1.at_.row.2 with ⟨hv, h0⟩ | ⟨g, cap, cur, hv, _⟩
    · injection hv with _ q2 _; omega
    · injection hv
  have E := Lib.hid (show (srt L).length = q by rw [srt_len, h1.at_.len])
  have c0 : w.cell? ⟨b, 0, none⟩ = some (.slice A q c) := h1.at_.blk.cell 0
  have H1 := Lib.hid (there_any b _ _ _ w h1.at_.blk)
  have z : decide ((0 : Int) < (most : Int)) = true := decide_eq_true (by omega)
  have H2 := Lib.hid (sort_any A c L q h1.at_.len w (own_read h1.at_.row) (by rw [← h1.at_.len]; have := h1.le; have := h1.cap; omega))
  clear h1
  go_enter Tryz.func14, Tryz.ntmps14
  go_wp2_with fail
  refine H1.out.mono ?_
  rintro e w1 ⟨rfl, rfl⟩
  go_wp2_with fail
  refine H2.out.mono ?_
  intro e w2 h2
  obtain ⟨g, rfl, hw, hg, hb⟩ := h2
  go_wp2
  go_ret
  refine ⟨g, ?_, hw, hg, Turn.of_below hb⟩
  rw [E.out]; rfl
theorem results_ct {fn : Func} {p u : Tmp} {ty : TypeId} (h : fn.results = #[.cell p ty, .tmp u]) (tmps : Array Value) (P : Program) (w : World) :
    (results fn tmps).run P w =
      ((asAddr (tmps.getD p undef)).run P w).andThen fun a w₁ => ((loadVar ty a).run P w₁).andThen fun v w₂ => .ok (.tuple #[v, tmps.getD u undef]) w₂ := by
  simp only [results, h]
  simp [Sem.run_bind, Result.andThen]
def hitV (x : Int × Int) : Value := .agg #[.int .u64 x.1, .int .i64 x.2]
set_option maxRecDepth 100000 in
theorem hWorst_no (b : Nat) (F : List Nat) (most : Nat) (w : World) (h : HeapIs w b F most []) :
    Calls Tryz.prog 10 #[.pointer (some ⟨b, 0, none⟩)] w fun e w' => e = .returned (.tuple #[.agg #[.int .u64 0, .int .i64 0], .bool false]) ∧ Turn [] w w' := by
  have t0 : Turn [] w (w.alloc (.cells #[.int .u64 0, .int .i64 0] 53)) := (Turn.refl _ _).alloc _
  have W0 := Whole.new w 53 #[.int .u64 0, .int .i64 0]
  have H1 := Lib.hid (hLen_any b F most [] _ (h.turn t0 (fun f _ => by simp)))
  clear h
  go_enter Tryz.func10, Tryz.ntmps10
  go_wp2_with fail
  generalize w.alloc (.cells #[.int .u64 0, .int .i64 0] 53) = w0 at t0 W0 H1 ⊢
  generalize hp : w.heap.size = p at W0 ⊢
  have HP := Lib.hid (show w.heap.size ≤ p by omega)
  clear hp
  have d1 : w0.cell? ⟨p, 0, none⟩ = some (.int .u64 0) := W0.cell 0
  have d2 : w0.cell? ⟨p, 1, none⟩ = some (.int .i64 0) := W0.cell 1
  have f1 := W0.frozen 0
  have f2 := W0.frozen 1
  refine H1.out.mono ?_
  rintro e w1 ⟨rfl, rfl⟩
  go_wp2
  (try simp only [Exit.inBlock, Exit.then])
  refine bodyPost_ret (v := .tuple #[.agg #[.int .u64 0, .int .i64 0], .bool false]) (by rw [results_ct rfl]; go_simp) rfl ?_
  exact ⟨rfl, (t0.setCell (p := ⟨p, 0, none⟩) (.inr HP.out) _).setCell (p := ⟨p, 1, none⟩) (.inr HP.out) _⟩
theorem HeapIs.some {F : List Nat} {w : World} {b most : Nat} {ys : HL} (h : HeapIs w b F most ys) (hl : 0 < ys.length) :
    ∃ fm g c q L, HeapAt w b fm most (.slice (some ⟨g, 0, none⟩) (q + 1) c) (q + 1) L ∧ F = [b, fm, g] ∧ srt L = ys ∧ lastH ys = top L ∧ ys.length = q + 1 := by
  obtain ⟨fm, v, n, L, h1, rfl, rfl, h4⟩ := h
  have hL := h1.at_.len
  rw [srt_len] at hl
  obtain ⟨q, rfl⟩ : ∃ q, n = q + 1 := ⟨n - 1, by omega⟩
  obtain ⟨g, c, rfl, _⟩ := h1.at_.row.form (by omega)
  exact ⟨fm, g, c, q, L, h1, by simp [foot, Value.ownBlock], rfl, last_top hl (by rw [← hL]; exact h1.at_.hp), by rw [srt_len, ← hL]⟩
set_option maxRecDepth 100000 in
theorem hWorst_yes (b : Nat) (F : List Nat) (most : Nat) (ys : HL) (w : World) (h : HeapIs w b F most ys) (hl : 0 < ys.length) :
    Calls Tryz.prog 10 #[.pointer (some ⟨b, 0, none⟩)] w fun e w' => e = .returned (.tuple #[hitV (lastH ys), .bool true]) ∧ Turn [] w w' := by
  have t0 : Turn [] w (w.alloc (.cells #[.int .u64 0, .int .i64 0] 53)) := (Turn.refl _ _).alloc _
  have W0 := Whole.new w 53 #[.int .u64 0, .int .i64 0]
  have h0 := h.turn t0 (fun f _ => by simp)
  have H1 := Lib.hid (hLen_any b F most ys _ h0)
  obtain ⟨fm, g, c, q, L, hA, _, _, h4, h5⟩ := h0.some hl
  have H2 := Lib.hid (worst_any b most _ g c q L _ hA.at_)
  have E := Lib.hid h4
  have z : ((ys.length : Int) == 0) = false := beq_false_of_ne (by omega)
  clear h h0 hA h4 h5
  go_enter Tryz.func10, Tryz.ntmps10
  go_wp2_with fail
  generalize w.alloc (.cells #[.int .u64 0, .int .i64 0] 53) = w0 at t0 W0 H1 H2 ⊢
  generalize hp : w.heap.size = p at W0 ⊢
  have HP := Lib.hid (show w.heap.size ≤ p by omega)
  clear hp
  refine H1.out.mono ?_
  rintro e w1 ⟨rfl, rfl⟩
  go_wp2_with fail
  refine H2.out.mono ?_
  rintro e w2 ⟨rfl, q2, os2, rfl⟩
  have t2 := turn_grow w1 q2 os2
  have W2 := W0.turn t2 (by simp)
  clear W0
  have t3 := t0.trans t2 (fun a ha => by simp at ha)
  generalize grow (w1.drewN q2) os2 = w2 at W2 t3 ⊢
  have d1 : w2.cell? ⟨p, 0, none⟩ = some (.int .u64 0) := W2.cell 0
  have d2 : w2.cell? ⟨p, 1, none⟩ = some (.int .i64 0) := W2.cell 1
  have f1 := W2.frozen 0
  have f2 := W2.frozen 1
  go_wp2
  (try simp only [Exit.inBlock, Exit.then])
  refine bodyPost_ret (v := .tuple #[.agg #[.int .u64 (top L).1, .int .i64 (top L).2], .bool true]) (by rw [results_ct rfl]; go_simp) rfl ?_
  exact ⟨by rw [E.out]; rfl, (t3.setCell (p := ⟨p, 0, none⟩) (.inr HP.out) _).setCell (p := ⟨p, 1, none⟩) (.inr HP.out) _⟩
set_option maxRecDepth 100000 in
theorem hPopM_no (b : Nat) (F : List Nat) (most : Nat) (w : World) (h : HeapIs w b F most []) :
    Calls Tryz.prog 6 #[.pointer (some ⟨b, 0, none⟩)] w fun e w' => e = .returned (.tuple #[.agg #[.int .u64 0, .int .i64 0], .bool false]) ∧ Turn [] w w' := by
  have t0 : Turn [] w (w.alloc (.cells #[.int .u64 0, .int .i64 0] 53)) := (Turn.refl _ _).alloc _
  have W0 := Whole.new w 53 #[.int .u64 0, .int .i64 0]
  have H1 := Lib.hid (hLen_any b F most [] _ (h.turn t0 (fun f _ => by simp)))
  clear h
  go_enter Tryz.func6, Tryz.ntmps6
  go_wp2_with fail
  generalize w.alloc (.cells #[.int .u64 0, .int .i64 0] 53) = w0 at t0 W0 H1 ⊢
  generalize hp : w.heap.size = p at W0 ⊢
  have HP := Lib.hid (show w.heap.size ≤ p by omega)
  clear hp
  have d1 : w0.cell? ⟨p, 0, none⟩ = some (.int .u64 0) := W0.cell 0
  have d2 : w0.cell? ⟨p, 1, none⟩ = some (.int .i64 0) := W0.cell 1
  have f1 := W0.frozen 0
  have f2 := W0.frozen 1
  refine H1.out.mono ?_
  rintro e w1 ⟨rfl, rfl⟩
  go_wp2
  (try simp only [Exit.inBlock, Exit.then])
  refine bodyPost_ret (v := .tuple #[.agg #[.int .u64 0, .int .i64 0], .bool false]) (by rw [results_ct rfl]; go_simp) rfl ?_
  exact ⟨rfl, (t0.setCell (p := ⟨p, 0, none⟩) (.inr HP.out) _).setCell (p := ⟨p, 1, none⟩) (.inr HP.out) _⟩
set_option maxRecDepth 100000 in
theorem hPopM_yes (b : Nat) (F : List Nat) (most : Nat) (ys : HL) (w : World) (h : HeapIs w b F most ys) (hl : 0 < ys.length) :
    Calls Tryz.prog 6 #[.pointer (some ⟨b, 0, none⟩)] w fun e w' => e = .returned (.tuple #[hitV (lastH ys), .bool true]) ∧ HeapIs w' b F most ys.dropLast ∧ Turn F w w' := by
  have t0 : Turn [] w (w.alloc (.cells #[.int .u64 0, .int .i64 0] 53)) := (Turn.refl _ _).alloc _
  have W0 := Whole.new w 53 #[.int .u64 0, .int .i64 0]
  have h0 := h.turn t0 (fun f _ => by simp)
  have H1 := Lib.hid (hLen_any b F most ys _ h0)
  obtain ⟨fm, g, c, q, L, hA, rfl, hs, h4, h5⟩ := h0.some hl
  have H2 := Lib.hid (drop_any b fm most g c q L _ hA)
  have HA := Lib.hid (⟨h4, hs, hA.at_.len, hA.at_.hp, h.facts.2.2.2.2.1, h.lt⟩ : _ ∧ _ ∧ _ ∧ _ ∧ _ ∧ _)
  have z : ((ys.length : Int) == 0) = false := beq_false_of_ne (by omega)
  clear h h0 hA h4 h5 hs
  go_enter Tryz.func6, Tryz.ntmps6
  go_wp2_with fail
  generalize w.alloc (.cells #[.int .u64 0, .int .i64 0] 53) = w0 at t0 W0 H1 H2 ⊢
  generalize hp : w.heap.size = p at W0 ⊢
  have HP := Lib.hid (show w.heap.size = p by omega)
  clear hp
  refine H1.out.mono ?_
  rintro e w1 ⟨rfl, rfl⟩
  go_wp2_with fail
  refine H2.out.mono ?_
  rintro e w2 ⟨rfl, L', hA', hpm, t2⟩
  obtain ⟨h4, hs, hlen, hp0, hm, hlt⟩ := HA.out
  have hpn : p ∉ [b, fm, g] := fun hm => by have := hlt p hm; have := HP.out; omega
  have W2 := W0.turn t2 hpn
  have t3 := (t0.more (B := [b, fm, g]) (fun a ha => by simp at ha)).trans t2 (fun a ha => .inl ha)
  have hI : HeapIs w2 b [b, fm, g] most ys.dropLast := ⟨fm, _, q, L', hA', by simp [foot, Value.ownBlock], by rw [← hs]; exact srt_drop (by omega) (by rw [← hlen]; exact hp0) hpm, hm⟩
  have HE := Lib.hid (⟨hI, t3, hpn, h4⟩ : _ ∧ _ ∧ _ ∧ _)
  have d1 : w2.cell? ⟨p, 0, none⟩ = some (.int .u64 0) := W2.cell 0
  have d2 : w2.cell? ⟨p, 1, none⟩ = some (.int .i64 0) := W2.cell 1
  have f1 := W2.frozen 0
  have f2 := W2.frozen 1
  clear W0 h4 hs hlen hp0 hm hlt hpn W2 t3 hI t2 hpm hA'
  go_wp2
  (try simp only [Exit.inBlock, Exit.then])
  refine bodyPost_ret (v := .tuple #[.agg #[.int .u64 (top L).1, .int .i64 (top L).2], .bool true]) (by rw [results_ct rfl]; go_simp) rfl ?_
  obtain ⟨hI, t3, hpn, h4⟩ := HE.out
  have t5 : Turn [p] w2 ((w2.setCell ⟨p, 0, none⟩ (.int .u64 (top L).1)).setCell ⟨p, 1, none⟩ (.int .i64 (top L).2)) := ((Turn.refl _ _).setCell (p := ⟨p, 0, none⟩) (.inl (by simp)) _).setCell (p := ⟨p, 1, none⟩) (.inl (by simp)) _
  exact ⟨by rw [h4]; rfl, hI.turn t5 (fun f hf => by simp; exact fun e => hpn (e ▸ hf)), t3.trans t5 (fun a ha => .inr (by simp at ha; rw [ha, HP.out]; exact Nat.le_refl _))⟩
theorem foot3 (b fm g : Nat) (c q : Nat) : foot b fm (.slice (some ⟨g, 0, none⟩) q c) = [b, fm, g] := by simp [foot, Value.ownBlock]
set_option maxRecDepth 100000 in
/-- New, of a number that may not be. -/
theorem hNew_no (n : Int) (w : World) (hn : n < 1 ∨ 256 < n) : Calls Tryz.prog 4 #[.int .i64 n] w fun e w' => e = .returned (.tuple #[.pointer none, .int .i64 1]) ∧ w' = w := by
  by_cases h : n < 1
  · go_enter Tryz.func4, Tryz.ntmps4
    go_wp2
    go_ret2
    exact ⟨rfl, rfl⟩
  · have h2 : 256 < n := by omega
    go_enter Tryz.func4, Tryz.ntmps4
    go_wp2
    go_ret2
    exact ⟨rfl, rfl⟩
theorem heap_made (w : World) (n : Nat) (h1 : 1 ≤ n) (h2 : n ≤ 256) :
    HeapIs ((w.alloc (.map #[] 0)).alloc (.cells #[.slice none 0 0, .map (some w.heap.size), .int .i64 n] 36)) (w.heap.size + 1) [w.heap.size + 1, w.heap.size] n [] := by
  have e : (w.alloc (.map #[] 0)).heap.size = w.heap.size + 1 := by simp
  have hb := Whole.new (w.alloc (.map #[] 0)) 36 #[.slice none 0 0, .map (some w.heap.size), .int .i64 n]
  rw [e] at hb
  refine ⟨w.heap.size, .slice none 0 0, 0, [], ⟨⟨hb, World.ownsRow_nil _ _ _ _, fun k h1 h2 => by omega⟩, ?_, by simp, by simp, by omega, h2⟩, by simp [foot, Value.ownBlock], List.eq_nil_of_length_eq_zero (by rw [srt_len]; rfl), by omega⟩
  exact (MapIs.made w).turn ((Turn.refl [] _).alloc _) (by simp)
def NewYes (n : Nat) (w : World) (e : Ending) (w' : World) : Prop := ∃ b F, e = .returned (.tuple #[.pointer (some ⟨b, 0, none⟩), .int .i64 0]) ∧ HeapIs w' b F n [] ∧ (∀ f ∈ F, w.heap.size ≤ f) ∧ Turn [] w w'
set_option maxRecDepth 100000 in
theorem hNew_yes (n : Nat) (w : World) (h1 : 1 ≤ n) (h2 : n ≤ 256) : Calls Tryz.prog 4 #[.int .i64 n] w (NewYes n w) := by
  have h3 : ¬ (n : Int) < 1 := by omega
  have h4 : ¬ (256 : Int) < (n : Int) := by omega
  have hmm := @run_makeMap Tryz.prog
  have HM := Lib.hid (heap_made w n h1 h2)
  go_enter Tryz.func4, Tryz.ntmps4
  go_wp2
  go_ret2
  exact ⟨_, [w.heap.size + 1, w.heap.size], rfl, HM.out, fun f hf => by simp at hf; omega, ((Turn.refl _ _).alloc _).alloc _⟩
def PushedH (b : Nat) (F : List Nat) (most : Nat) (ys : HL) (z : Int × Int) (w : World) (e : Ending) (w' : World) : Prop :=
  e = .returned (.bool (tookH most ys z)) ∧ ∃ F', HeapIs w' b F' most (pushH most ys z) ∧ Turn F w w' ∧ ∀ f ∈ F', f ∈ F ∨ w.heap.size ≤ f
theorem cell_grow {w : World} {p : Addr} {v : Value} (h : w.cell? p = some v) (n : Nat) (os : Array Obj) : (grow (w.drewN n) os).cell? p = some v := by
  have hl := World.block_lt_of_cell? w p h
  rw [cell?_grow _ _ _ (show p.block < (w.drewN n).heap.size from hl)]
  exact h
theorem fr_grow {w : World} {p : Addr} (hl : p.block < w.heap.size) (h : w.frozen? p = false) (n : Nat) (os : Array Obj) : (grow (w.drewN n) os).frozen? p = false := by
  rw [frozen?_grow _ _ _ (show p.block < (w.drewN n).heap.size from hl)]
  exact h
theorem grow_zero (w : World) : w = grow (w.drewN 0) #[] := by rw [grow_empty]; rfl
set_option maxRecDepth 100000 in
set_option maxHeartbeats 1000000 in
/-- Push, of a hit whose ID is kept. -/
theorem hPush_dup (b : Nat) (F : List Nat) (most : Nat) (ys : HL) (x y : Int) (w : World) (h : HeapIs w b F most ys) (hx : HitOk (x, y)) (hd : x ∈ ids ys) :
    Calls Tryz.prog 8 #[.pointer (some ⟨b, 0, none⟩), .agg #[.int .u64 x, .int .i64 y]] w (PushedH b F most ys (x, y) w) := by
  have mixed : Tryz.prog.follows .mixedOrders = true := by kernel_rfl
  have t0 : Turn [] w (w.alloc (.cells #[.int .u64 x, .int .i64 y] 53)) := (Turn.refl _ _).alloc _
  have W0 := Whole.new w 53 #[.int .u64 x, .int .i64 y]
  have h0 := h.turn t0 (fun f _ => by simp)
  have E := Lib.hid (show tookH most ys (x, y) = false by unfold tookH; simp [hd])
  have E2 := Lib.hid (show pushH most ys (x, y) = ys by unfold pushH; rw [E.out]; rfl)
  have HH := Lib.hid h
  clear h
  go_enter Tryz.func8, Tryz.ntmps8
  go_wp2
  generalize w.alloc (.cells #[.int .u64 x, .int .i64 y] 53) = w0 at t0 W0 h0 ⊢
  generalize w.heap.size = p at W0 ⊢
  have d1 := fun n os => cell_grow (p := ⟨p, 0, none⟩) (v := .int .u64 x) (W0.cell 0) n os
  have hI := Lib.hid h0
  obtain ⟨fm, v, n, L, h1, rfl, h3, h4⟩ := h0
  have HT : Hid (∀ n' os', Calls Tryz.prog 20 #[.pointer (some ⟨b, 0, none⟩)] (grow (w0.drewN n') os') fun e w' => e = .returned (.bool true) ∧ ∃ q os'', w' = grow ((grow (w0.drewN n') os').drewN q) os'') := fun n' os' => by
    have := there_any b _ _ _ _ (h1.turn (turn_grow w0 n' os') (fun f _ => by simp)).at_.blk
    rw [show decide ((0 : Int) < (most : Int)) = true from decide_eq_true (by omega)] at this
    exact this.mono fun e w' hh => ⟨hh.1, 0, #[], by rw [hh.2]; exact grow_zero _⟩
  have HA : Hid (∀ n' os', Calls Tryz.prog 21 #[.pointer (some ⟨b, 0, none⟩), .int .u64 x] (grow (w0.drewN n') os') fun e w' => e = .returned (.bool true) ∧ ∃ q os'', w' = grow ((grow (w0.drewN n') os').drewN q) os'') := fun n' os' => by
    have := has_any b fm most v n L x _ (h1.turn (turn_grow w0 n' os') (fun f _ => by simp)) hx.1
    rw [show decide (x ∈ L.map (·.1)) = true by rw [ids_perm' ((srt_perm L).symm.trans (by rw [h3]))]; exact decide_eq_true hd] at this
    exact this
  clear h1 h3 hd
  refine wp_region_quiet_grown mixed (by kernel_rfl) ?_
  repeat (go_big_quiet_step (first | (go_at_call 20; with_reducible refine Calls.grown_of (HT.out _ _)) | (go_at_call 21; with_reducible refine Calls.grown_of (HA.out _ _))))
  refine wpQuiet_nil ?_
  intro _ hw'
  obtain ⟨⟨nq', osq⟩, hw''⟩ := hw'
  subst hw''
  go_wp2
  go_ret
  have t2 := t0.trans (turn_grow w0 nq' osq) (fun a ha => by simp at ha)
  refine ⟨by rw [E.out]; rfl, _, ?_, t2.more (fun a ha => by simp at ha), fun f hf => .inl hf⟩
  rw [E2.out]
  exact HH.out.turn t2 (fun f _ => by simp)
end Go.Proofs.YtaempklgmoabcaaGreat
