/- Several texts in one. -/
import Derived.Test.YtkmngbkghgelfaaGreatHm
import Derived.BigQuiet
/- The walks of the heap's methods. -/
namespace Go.Proofs.YtkmngbkghgelfaaGreat
open Go.Shelf Go.RowKit Go.Lib
open Go.Sort hiding Below
set_option linter.unusedVariables false
/-- A heap in block b (and the blocks F in all), for so many hits, that keeps ys, the nearest first. -/
def HeapIs (w : World) (b : Nat) (F : List Nat) (most : Nat) (ys : HL) : Prop := ∃ fm v n L, HeapAt w b fm most v n L ∧ F = foot b fm v ∧ srt L = ys ∧ 0 < most
theorem HeapIs.turn {A F : List Nat} {w w' : World} {b most : Nat} {ys : HL} (h : HeapIs w b F most ys) (k : Turn A w w') (hd : ∀ f ∈ F, f ∉ A) : HeapIs w' b F most ys := by
  obtain ⟨fm, v, n, L, h1, rfl, h3, h4⟩ := h
  exact ⟨fm, v, n, L, h1.turn k hd, rfl, h3, h4⟩
theorem HeapIs.lt {F : List Nat} {w : World} {b most : Nat} {ys : HL} (h : HeapIs w b F most ys) : ∀ f ∈ F, f < w.heap.size := by
  obtain ⟨fm, v, n, L, h1, rfl, h3, h4⟩ := h
  exact h1.lt
theorem HeapIs.facts {F : List Nat} {w : World} {b most : Nat} {ys : HL} (h : HeapIs w b F most ys) : (ids ys).Nodup ∧ (∀ x ∈ ys, HitOk x) ∧ ys.length ≤ most ∧ most ≤ 256 ∧ 0 < most ∧ Up ys ∧ b ∈ F := by
  obtain ⟨fm, v, n, L, h1, rfl, rfl, h4⟩ := h
  refine ⟨((srt_perm L).map (·.1)).nodup_iff.2 h1.nd, fun x hx => h1.wf x ((srt_perm L).subset hx), ?_, h1.cap, h4, up_srt L, by simp [foot]⟩
  rw [srt_len, ← h1.at_.len]; exact h1.le
theorem there_any (b : Nat) (v m : Value) (most : Int) (w : World) (hb : Whole w b 105 #[v, m, .int .i64 most]) :
    Calls Tryz.prog 82 #[.pointer (some ⟨b, 0, none⟩)] w fun e w' => e = .returned (.bool (decide (0 < most))) ∧ w' = w := by
  have c2 : w.cell? ⟨b, 2, none⟩ = some (.int .i64 most) := hb.cell 2
  go_enter Tryz.func82, Tryz.ntmps82
  go_wp2
  go_ret
  exact ⟨rfl, rfl⟩
theorem there_none (w : World) : Calls Tryz.prog 82 #[.pointer none] w fun e w' => e = .returned (.bool false) ∧ w' = w := by
  go_enter Tryz.func82, Tryz.ntmps82
  go_wp2
  go_ret
  exact ⟨rfl, rfl⟩
theorem hLen_any (b : Nat) (F : List Nat) (most : Nat) (ys : HL) (w : World) (h : HeapIs w b F most ys) :
    Calls Tryz.prog 167 #[.pointer (some ⟨b, 0, none⟩)] w fun e w' => e = .returned (.int .i64 (ys.length : Int)) ∧ w' = w := by
  obtain ⟨fm, v, n, L, h1, rfl, rfl, h4⟩ := h
  obtain ⟨A, q, c, rfl⟩ := own_form h1.at_.row
  have hq : q = n := by
    rcases h1.at_.row.2 with ⟨hv, h0⟩ | ⟨g, cap, cur, hv, _⟩
    · injection hv with _ q2 _; omega
    · injection hv
  have E := Lib.hid (show ((srt L).length : Int) = (q : Int) by rw [srt_len, hq, h1.at_.len])
  have c0 : w.cell? ⟨b, 0, none⟩ = some (.slice A q c) := h1.at_.blk.cell 0
  have H1 := Lib.hid (there_any b _ _ _ w h1.at_.blk)
  have z : decide ((0 : Int) < (most : Int)) = true := decide_eq_true (by omega)
  clear h1 hq
  go_enter Tryz.func167, Tryz.ntmps167
  go_wp2_with fail
  refine H1.out.mono ?_
  rintro e w1 ⟨rfl, rfl⟩
  go_wp2
  go_ret
  exact ⟨by rw [E.out]; rfl, rfl⟩
/-- A slice of hits of the call's own, in a new block. -/
def HitsYes (ys : HL) (w : World) (e : Ending) (w' : World) : Prop := ∃ g, e = .returned (.slice (some ⟨g, 0, none⟩) ys.length ys.length) ∧ Whole w' g 78 (flatH ys).toArray ∧ w.heap.size ≤ g ∧ Turn [] w w'
theorem own_read {w : World} {A : Option Addr} {q c : Nat} {L : HL} (h : w.ownsRow 0 78 2 (.slice A q c) q (flatH L)) : RdH w w.heap.size A L := by
  obtain ⟨A', c', hv, hn, hr⟩ := own_sliceH h
  injection hv with q1 q2 q3
  subst q1
  exact hr
set_option maxRecDepth 100000 in
theorem hHits_any (b : Nat) (F : List Nat) (most : Nat) (ys : HL) (w : World) (h : HeapIs w b F most ys) :
    Calls Tryz.prog 26 #[.pointer (some ⟨b, 0, none⟩)] w (HitsYes ys w) := by
  obtain ⟨fm, v, n, L, h1, rfl, rfl, h4⟩ := h
  obtain ⟨A, q, c, rfl⟩ := own_form h1.at_.row
  obtain rfl : q = n := by
    rcases h1.at_.row.2 with ⟨hv, h0⟩ | ⟨g, cap, cur, hv, _⟩
    · injection hv with _ q2 _; omega
    · injection hv
  have E := Lib.hid (show (srt L).length = q by rw [srt_len, h1.at_.len])
  have c0 : w.cell? ⟨b, 0, none⟩ = some (.slice A q c) := h1.at_.blk.cell 0
  have H1 := Lib.hid (there_any b _ _ _ w h1.at_.blk)
  have z : decide ((0 : Int) < (most : Int)) = true := decide_eq_true (by omega)
  have H2 := Lib.hid (sort_any A c L q h1.at_.len w (own_read h1.at_.row) (by rw [← h1.at_.len]; have := h1.le; have := h1.cap; omega))
  clear h1
  go_enter Tryz.func26, Tryz.ntmps26
  go_wp2_with fail
  refine H1.out.mono ?_
  rintro e w1 ⟨rfl, rfl⟩
  go_wp2_with fail
  refine H2.out.mono ?_
  intro e w2 h2
  obtain ⟨g, rfl, hw, hg, hb⟩ := h2
  go_wp2
  go_ret
  refine ⟨g, ?_, hw, hg, Turn.of_below hb⟩
  rw [E.out]; rfl
theorem results_ct {fn : Func} {p u : Tmp} {ty : TypeId} (h : fn.results = #[.cell p ty, .tmp u]) (tmps : Array Value) (P : Program) (w : World) :
    (results fn tmps).run P w =
      ((asAddr (tmps.getD p undef)).run P w).andThen fun a w₁ => ((loadVar ty a).run P w₁).andThen fun v w₂ => .ok (.tuple #[v, tmps.getD u undef]) w₂ := by
  simp only [results, h]
  simp [Sem.run_bind, Result.andThen]
def hitV (x : Int × Int) : Value := .agg #[.int .u64 x.1, .int .i64 x.2]
theorem HeapIs.some {F : List Nat} {w : World} {b most : Nat} {ys : HL} (h : HeapIs w b F most ys) (hl : 0 < ys.length) :
    ∃ fm g c q L, HeapAt w b fm most (.slice (some ⟨g, 0, none⟩) (q + 1) c) (q + 1) L ∧ F = [b, fm, g] ∧ srt L = ys ∧ lastH ys = top L ∧ ys.length = q + 1 := by
  obtain ⟨fm, v, n, L, h1, rfl, rfl, h4⟩ := h
  have hL := h1.at_.len
  rw [srt_len] at hl
  obtain ⟨q, rfl⟩ : ∃ q, n = q + 1 := ⟨n - 1, by omega⟩
  obtain ⟨g, c, rfl, _⟩ := h1.at_.row.form (by omega)
  exact ⟨fm, g, c, q, L, h1, by simp [foot, Value.ownBlock], rfl, last_top hl (by rw [← hL]; exact h1.at_.hp), by rw [srt_len, ← hL]⟩
set_option maxRecDepth 100000 in
theorem hPopM_no (b : Nat) (F : List Nat) (most : Nat) (w : World) (h : HeapIs w b F most []) :
    Calls Tryz.prog 168 #[.pointer (some ⟨b, 0, none⟩)] w fun e w' => e = .returned (.tuple #[.agg #[.int .u64 0, .int .i64 0], .bool false]) ∧ Turn [] w w' := by
  have t0 : Turn [] w (w.alloc (.cells #[.int .u64 0, .int .i64 0] 78)) := (Turn.refl _ _).alloc _
  have W0 := Whole.new w 78 #[.int .u64 0, .int .i64 0]
  have H1 := Lib.hid (hLen_any b F most [] _ (h.turn t0 (fun f _ => by simp)))
  clear h
  go_enter Tryz.func168, Tryz.ntmps168
  go_wp2_with fail
  generalize w.alloc (.cells #[.int .u64 0, .int .i64 0] 78) = w0 at t0 W0 H1 ⊢
  generalize hp : w.heap.size = p at W0 ⊢
  have HP := Lib.hid (show w.heap.size ≤ p by omega)
  clear hp
  have d1 : w0.cell? ⟨p, 0, none⟩ = some (.int .u64 0) := W0.cell 0
  have d2 : w0.cell? ⟨p, 1, none⟩ = some (.int .i64 0) := W0.cell 1
  have f1 := W0.frozen 0
  have f2 := W0.frozen 1
  refine H1.out.mono ?_
  rintro e w1 ⟨rfl, rfl⟩
  go_wp2
  (try simp only [Exit.inBlock, Exit.then])
  refine bodyPost_ret (v := .tuple #[.agg #[.int .u64 0, .int .i64 0], .bool false]) (by rw [results_ct rfl]; go_simp) rfl ?_
  exact ⟨rfl, (t0.setCell (p := ⟨p, 0, none⟩) (.inr HP.out) _).setCell (p := ⟨p, 1, none⟩) (.inr HP.out) _⟩
set_option maxRecDepth 100000 in
theorem hPopM_yes (b : Nat) (F : List Nat) (most : Nat) (ys : HL) (w : World) (h : HeapIs w b F most ys) (hl : 0 < ys.length) :
    Calls Tryz.prog 168 #[.pointer (some ⟨b, 0, none⟩)] w fun e w' => e = .returned (.tuple #[hitV (lastH ys), .bool true]) ∧ HeapIs w' b F most ys.dropLast ∧ Turn F w w' := by
  have t0 : Turn [] w (w.alloc (.cells #[.int .u64 0, .int .i64 0] 78)) := (Turn.refl _ _).alloc _
  have W0 := Whole.new w 78 #[.int .u64 0, .int .i64 0]
  have h0 := h.turn t0 (fun f _ => by simp)
  have H1 := Lib.hid (hLen_any b F most ys _ h0)
  obtain ⟨fm, g, c, q, L, hA, rfl, hs, h4, h5⟩ := h0.some hl
  have H2 := Lib.hid (hpDrop_any b fm most g c q L _ hA)
  have HA := Lib.hid (⟨h4, hs, hA.at_.len, hA.at_.hp, h.facts.2.2.2.2.1, h.lt⟩ : _ ∧ _ ∧ _ ∧ _ ∧ _ ∧ _)
  have z : ((ys.length : Int) == 0) = false := beq_false_of_ne (by omega)
  clear h h0 hA h4 h5 hs
  go_enter Tryz.func168, Tryz.ntmps168
  go_wp2_with fail
  generalize w.alloc (.cells #[.int .u64 0, .int .i64 0] 78) = w0 at t0 W0 H1 H2 ⊢
  generalize hp : w.heap.size = p at W0 ⊢
  have HP := Lib.hid (show w.heap.size = p by omega)
  clear hp
  refine H1.out.mono ?_
  rintro e w1 ⟨rfl, rfl⟩
  go_wp2_with fail
  refine H2.out.mono ?_
  rintro e w2 ⟨rfl, L', hA', hpm, t2⟩
  obtain ⟨h4, hs, hlen, hp0, hm, hlt⟩ := HA.out
  have hpn : p ∉ [b, fm, g] := fun hm => by have := hlt p hm; have := HP.out; omega
  have W2 := W0.turn t2 hpn
  have t3 := (t0.more (B := [b, fm, g]) (fun a ha => by simp at ha)).trans t2 (fun a ha => .inl ha)
  have hI : HeapIs w2 b [b, fm, g] most ys.dropLast := ⟨fm, _, q, L', hA', by simp [foot, Value.ownBlock], by rw [← hs]; exact srt_drop (by omega) (by rw [← hlen]; exact hp0) hpm, hm⟩
  have HE := Lib.hid (⟨hI, t3, hpn, h4⟩ : _ ∧ _ ∧ _ ∧ _)
  have d1 : w2.cell? ⟨p, 0, none⟩ = some (.int .u64 0) := W2.cell 0
  have d2 : w2.cell? ⟨p, 1, none⟩ = some (.int .i64 0) := W2.cell 1
  have f1 := W2.frozen 0
  have f2 := W2.frozen 1
  clear W0 h4 hs hlen hp0 hm hlt hpn W2 t3 hI t2 hpm hA'
  go_wp2
  (try simp only [Exit.inBlock, Exit.then])
  refine bodyPost_ret (v := .tuple #[.agg #[.int .u64 (top L).1, .int .i64 (top L).2], .bool true]) (by rw [results_ct rfl]; go_simp) rfl ?_
  obtain ⟨hI, t3, hpn, h4⟩ := HE.out
  have t5 : Turn [p] w2 ((w2.setCell ⟨p, 0, none⟩ (.int .u64 (top L).1)).setCell ⟨p, 1, none⟩ (.int .i64 (top L).2)) := ((Turn.refl _ _).setCell (p := ⟨p, 0, none⟩) (.inl (by simp)) _).setCell (p := ⟨p, 1, none⟩) (.inl (by simp)) _
  exact ⟨by rw [h4]; rfl, hI.turn t5 (fun f hf => by simp; exact fun e => hpn (e ▸ hf)), t3.trans t5 (fun a ha => .inr (by simp at ha; rw [ha, HP.out]; exact Nat.le_refl _))⟩
theorem foot3 (b fm g : Nat) (c q : Nat) : foot b fm (.slice (some ⟨g, 0, none⟩) q c) = [b, fm, g] := by simp [foot, Value.ownBlock]
set_option maxRecDepth 100000 in
/-- New, of a number that may not be. -/
theorem hNew_no (n : Int) (w : World) (hn : n < 1 ∨ 256 < n) : Calls Tryz.prog 74 #[.int .i64 n] w fun e w' => e = .returned (.tuple #[.pointer none, .int .i64 1]) ∧ w' = w := by
  by_cases h : n < 1
  · go_enter Tryz.func74, Tryz.ntmps74
    go_wp2
    go_ret2
    exact ⟨rfl, rfl⟩
  · have h2 : 256 < n := by omega
    go_enter Tryz.func74, Tryz.ntmps74
    go_wp2
    go_ret2
    exact ⟨rfl, rfl⟩
theorem heap_made (w : World) (n : Nat) (h1 : 1 ≤ n) (h2 : n ≤ 256) :
    HeapIs ((w.alloc (.map #[] 0)).alloc (.cells #[.slice none 0 0, .map (some w.heap.size), .int .i64 n] 105)) (w.heap.size + 1) [w.heap.size + 1, w.heap.size] n [] := by
  have e : (w.alloc (.map #[] 0)).heap.size = w.heap.size + 1 := by simp
  have hb := Whole.new (w.alloc (.map #[] 0)) 105 #[.slice none 0 0, .map (some w.heap.size), .int .i64 n]
  rw [e] at hb
  refine ⟨w.heap.size, .slice none 0 0, 0, [], ⟨⟨hb, World.ownsRow_nil _ _ _ _, fun k h1 h2 => by omega⟩, ?_, by simp, by simp, by omega, h2⟩, by simp [foot, Value.ownBlock], List.eq_nil_of_length_eq_zero (by rw [srt_len]; rfl), by omega⟩
  exact (MapIs.made w).turn ((Turn.refl [] _).alloc _) (by simp)
def HpNew (n : Nat) (w : World) (e : Ending) (w' : World) : Prop := ∃ b F, e = .returned (.tuple #[.pointer (some ⟨b, 0, none⟩), .int .i64 0]) ∧ HeapIs w' b F n [] ∧ (∀ f ∈ F, w.heap.size ≤ f) ∧ Turn [] w w'
set_option maxRecDepth 100000 in
theorem hNew_yes (n : Nat) (w : World) (h1 : 1 ≤ n) (h2 : n ≤ 256) : Calls Tryz.prog 74 #[.int .i64 n] w (HpNew n w) := by
  have h3 : ¬ (n : Int) < 1 := by omega
  have h4 : ¬ (256 : Int) < (n : Int) := by omega
  have hmm := @run_makeMap Tryz.prog
  have HM := Lib.hid (heap_made w n h1 h2)
  go_enter Tryz.func74, Tryz.ntmps74
  go_wp2
  go_ret2
  exact ⟨_, [w.heap.size + 1, w.heap.size], rfl, HM.out, fun f hf => by simp at hf; omega, ((Turn.refl _ _).alloc _).alloc _⟩
def PushedH (b : Nat) (F : List Nat) (most : Nat) (ys : HL) (z : Int × Int) (w : World) (e : Ending) (w' : World) : Prop :=
  e = .returned (.bool (tookH most ys z)) ∧ ∃ F', HeapIs w' b F' most (pushH most ys z) ∧ Turn F w w' ∧ ∀ f ∈ F', f ∈ F ∨ w.heap.size ≤ f
theorem cell_grow {w : World} {p : Addr} {v : Value} (h : w.cell? p = some v) (n : Nat) (os : Array Obj) : (grow (w.drewN n) os).cell? p = some v := by
  have hl := World.block_lt_of_cell? w p h
  rw [cell?_grow _ _ _ (show p.block < (w.drewN n).heap.size from hl)]
  exact h
theorem fr_grow {w : World} {p : Addr} (hl : p.block < w.heap.size) (h : w.frozen? p = false) (n : Nat) (os : Array Obj) : (grow (w.drewN n) os).frozen? p = false := by
  rw [frozen?_grow _ _ _ (show p.block < (w.drewN n).heap.size from hl)]
  exact h
theorem grow_zero (w : World) : w = grow (w.drewN 0) #[] := by rw [grow_empty]; rfl
set_option maxRecDepth 100000 in
set_option maxHeartbeats 1000000 in
/-- Push, of a hit whose ID is kept. -/
theorem hPush_dup (b : Nat) (F : List Nat) (most : Nat) (ys : HL) (x y : Int) (w : World) (h : HeapIs w b F most ys) (hx : HitOk (x, y)) (hd : x ∈ ids ys) :
    Calls Tryz.prog 81 #[.pointer (some ⟨b, 0, none⟩), .agg #[.int .u64 x, .int .i64 y]] w (PushedH b F most ys (x, y) w) := by
  have mixed : Tryz.prog.follows .mixedOrders = true := by kernel_rfl
  have t0 : Turn [] w (w.alloc (.cells #[.int .u64 x, .int .i64 y] 78)) := (Turn.refl _ _).alloc _
  have W0 := Whole.new w 78 #[.int .u64 x, .int .i64 y]
  have h0 := h.turn t0 (fun f _ => by simp)
  have E := Lib.hid (show tookH most ys (x, y) = false by unfold tookH; simp [hd])
  have E2 := Lib.hid (show pushH most ys (x, y) = ys by unfold pushH; rw [E.out]; rfl)
  have HH := Lib.hid h
  clear h
  go_enter Tryz.func81, Tryz.ntmps81
  go_wp2
  generalize w.alloc (.cells #[.int .u64 x, .int .i64 y] 78) = w0 at t0 W0 h0 ⊢
  generalize w.heap.size = p at W0 ⊢
  have d1 := fun n os => cell_grow (p := ⟨p, 0, none⟩) (v := .int .u64 x) (W0.cell 0) n os
  have hI := Lib.hid h0
  obtain ⟨fm, v, n, L, h1, rfl, h3, h4⟩ := h0
  have HT : Hid (∀ n' os', Calls Tryz.prog 82 #[.pointer (some ⟨b, 0, none⟩)] (grow (w0.drewN n') os') fun e w' => e = .returned (.bool true) ∧ ∃ q os'', w' = grow ((grow (w0.drewN n') os').drewN q) os'') := fun n' os' => by
    have := there_any b _ _ _ _ (h1.turn (turn_grow w0 n' os') (fun f _ => by simp)).at_.blk
    rw [show decide ((0 : Int) < (most : Int)) = true from decide_eq_true (by omega)] at this
    exact this.mono fun e w' hh => ⟨hh.1, 0, #[], by rw [hh.2]; exact grow_zero _⟩
  have HA : Hid (∀ n' os', Calls Tryz.prog 125 #[.pointer (some ⟨b, 0, none⟩), .int .u64 x] (grow (w0.drewN n') os') fun e w' => e = .returned (.bool true) ∧ ∃ q os'', w' = grow ((grow (w0.drewN n') os').drewN q) os'') := fun n' os' => by
    have := hpHas_any b fm most v n L x _ (h1.turn (turn_grow w0 n' os') (fun f _ => by simp)) hx.1
    rw [show decide (x ∈ L.map (·.1)) = true by rw [ids_perm' ((srt_perm L).symm.trans (by rw [h3]))]; exact decide_eq_true hd] at this
    exact this
  clear h1 h3 hd
  refine wp_region_quiet_grown mixed (by kernel_rfl) ?_
  repeat (go_big_quiet_step (first | (go_at_call 82; with_reducible refine Calls.grown_of (HT.out _ _)) | (go_at_call 125; with_reducible refine Calls.grown_of (HA.out _ _))))
  refine wpQuiet_nil ?_
  intro _ hw'
  obtain ⟨⟨nq', osq⟩, hw''⟩ := hw'
  subst hw''
  go_wp2
  go_ret
  have t2 := t0.trans (turn_grow w0 nq' osq) (fun a ha => by simp at ha)
  refine ⟨by rw [E.out]; rfl, _, ?_, t2.more (fun a ha => by simp at ha), fun f hf => .inl hf⟩
  rw [E2.out]
  exact HH.out.turn t2 (fun f _ => by simp)
end Go.Proofs.YtkmngbkghgelfaaGreat
/- The walk of a heap's Push, of a hit whose ID is not kept. -/
namespace Go.Proofs.YtkmngbkghgelfaaGreat
open Go.Shelf Go.RowKit Go.Lib
open Go.Sort hiding Below
set_option linter.unusedVariables false
theorem less_grown' (x y : Int × Int) (w : World) (n : Nat) (os : Array Obj) :
    Calls Tryz.prog 126 #[.agg #[.int .u64 x.1, .int .i64 x.2], .agg #[.int .u64 y.1, .int .i64 y.2]] (grow (w.drewN n) os) fun e w' => e = .returned (.bool (ltH x y)) ∧ ∃ q os', w' = grow ((grow (w.drewN n) os).drewN q) os' := less_grown x y w n os
set_option maxRecDepth 100000 in
set_option maxHeartbeats 2000000 in
theorem hPush_room (b : Nat) (F : List Nat) (most : Nat) (ys : HL) (x y : Int) (w : World) (h : HeapIs w b F most ys) (hx : HitOk (x, y)) (hd : ¬ x ∈ ids ys) (hl : ys.length ≠ most) :
    Calls Tryz.prog 81 #[.pointer (some ⟨b, 0, none⟩), .agg #[.int .u64 x, .int .i64 y]] w (PushedH b F most ys (x, y) w) := by
  have mixed : Tryz.prog.follows .mixedOrders = true := by kernel_rfl
  have t0 : Turn [] w (w.alloc (.cells #[.int .u64 x, .int .i64 y] 78)) := (Turn.refl _ _).alloc _
  have W0 := Whole.new w 78 #[.int .u64 x, .int .i64 y]
  have h0 := h.turn t0 (fun f _ => by simp)
  have E : Hid (tookH most ys (x, y) = true) := by show _ = _; unfold tookH; simp only [ids] at hd; simp [hd, hl]
  have HH := Lib.hid h
  have HF := Lib.hid h.facts
  clear h
  go_enter Tryz.func81, Tryz.ntmps81
  go_wp2
  generalize w.alloc (.cells #[.int .u64 x, .int .i64 y] 78) = w0 at t0 W0 h0 ⊢
  generalize hp : w.heap.size = p at W0 ⊢
  have HP := Lib.hid hp
  clear hp
  have d1 := fun n os => cell_grow (p := ⟨p, 0, none⟩) (v := .int .u64 x) (W0.cell 0) n os
  have HI := Lib.hid h0
  obtain ⟨fm, v, n, L, h1, rfl, h3, h4⟩ := h0
  have HT : Hid (∀ n' os', Calls Tryz.prog 82 #[.pointer (some ⟨b, 0, none⟩)] (grow (w0.drewN n') os') fun e w' => e = .returned (.bool true) ∧ ∃ q os'', w' = grow ((grow (w0.drewN n') os').drewN q) os'') := fun n' os' => by
    have := there_any b _ _ _ _ (h1.turn (turn_grow w0 n' os') (fun f _ => by simp)).at_.blk
    rw [show decide ((0 : Int) < (most : Int)) = true from decide_eq_true (by omega)] at this
    exact this.mono fun e w' hh => ⟨hh.1, 0, #[], by rw [hh.2]; exact grow_zero _⟩
  have HA : Hid (∀ n' os', Calls Tryz.prog 125 #[.pointer (some ⟨b, 0, none⟩), .int .u64 x] (grow (w0.drewN n') os') fun e w' => e = .returned (.bool false) ∧ ∃ q os'', w' = grow ((grow (w0.drewN n') os').drewN q) os'') := fun n' os' => by
    have := hpHas_any b fm most v n L x _ (h1.turn (turn_grow w0 n' os') (fun f _ => by simp)) hx.1
    rw [show decide (x ∈ L.map (·.1)) = false by rw [ids_perm' ((srt_perm L).symm.trans (by rw [h3]))]; exact decide_eq_false hd] at this
    exact this
  have H1 := Lib.hid (⟨h1, h3, h4⟩ : _ ∧ _ ∧ _)
  clear h1 h3 hd h4
  refine wp_region_quiet_grown mixed (by kernel_rfl) ?_
  repeat (go_big_quiet_step (first | (go_at_call 82; with_reducible refine Calls.grown_of (HT.out _ _)) | (go_at_call 125; with_reducible refine Calls.grown_of (HA.out _ _))))
  refine wpQuiet_nil ?_
  intro _ hw'
  obtain ⟨⟨nq', osq⟩, hw''⟩ := hw'
  subst hw''
  have t1 := turn_grow w0 nq' osq
  have t2 := t0.trans t1 (fun a ha => by simp at ha)
  have W1 := W0.turn t1 (by simp)
  obtain ⟨h1, h3, h4⟩ := H1.out
  have h2 := h1.turn t1 (fun f _ => by simp)
  clear d1 HT HA HI t1 t0 W0 h1 H1
  generalize grow (w0.drewN nq') osq = w1 at t2 W1 h2 ⊢
  obtain ⟨A, q, c, rfl⟩ := own_form h2.at_.row
  obtain rfl : q = n := by
    rcases h2.at_.row.2 with ⟨hv, h0⟩ | ⟨g, cap, cur, hv, _⟩
    · injection hv with _ q2 _; omega
    · injection hv
  have hlen : L.length = q := h2.at_.len.symm
  have HY := Lib.hid (show ys.length = q by rw [← h3, srt_len]; exact hlen)
  have c0 : w1.cell? ⟨b, 0, none⟩ = some (.slice A q c) := h2.at_.blk.cell 0
  have c2 : w1.cell? ⟨b, 2, none⟩ = some (.int .i64 most) := h2.at_.blk.cell 2
  have H2 := Lib.hid (⟨h2, h3, hlen⟩ : _ ∧ _ ∧ _)
  have HT2 := Lib.hid t2
  have HW := Lib.hid W1
  clear h2 h3 hlen t2 W1
  go_wp2
  have z : ((q : Int) == (most : Int)) = false := beq_false_of_ne (by have := HY.out; omega)
  go_quiet (fail)
  have HW3 := HW.out.turn ((Turn.refl [] w1).drewN nq) (by simp)
  have h3 := H2.out.1.turn ((Turn.refl [] w1).drewN nq) (fun f _ => by simp)
  have T3 := HT2.out.drewN nq
  clear c0 c2 z
  generalize w1.drewN nq = w3 at HW3 h3 T3 ⊢
  have HX := Lib.hid hx
  have HD : Hid (¬ x ∈ L.map (·.1)) := fun hm => by
    have := E.out; unfold tookH at this
    rw [← H2.out.2.1] at this
    simp only [ids, ((srt_perm L).map (·.1)).mem_iff] at this
    rw [decide_eq_true hm] at this
    simp at this
  go_wp2
  refine wp_region_still_tail 4 (by kernel_rfl) (by kernel_rfl) ?_
  simp only [List.take_succ_cons, List.take_zero, List.drop_succ_cons, List.drop_zero]
  have t6 : Turn [] w w3.drew := T3.drew
  have k1 : w3.drew.cell? ⟨p, 0, none⟩ = some (.int .u64 x) := HW3.cell 0
  have k2 : w3.drew.cell? ⟨p, 1, none⟩ = some (.int .i64 y) := HW3.cell 1
  have h6 : HeapAt w3.drew b fm most (.slice A q c) q L := h3.turn (A := []) ((Turn.refl _ w3).drew) (fun f _ => by simp)
  change wpStill _ _ w3.drew (fun a' => wpList _ _ _ _ a' w3.drew) _ _
  generalize w3.drew = w6 at t6 k1 k2 h6 ⊢
  have H6 := Lib.hid (hpKeep_any b fm most (.slice A q c) q L x y w6 h6 HX.out HD.out (by have := HY.out; have := H2.out.1.le; omega))
  have HT6 := Lib.hid t6
  clear h6 t6
  still_step
  still_step
  still_step
  still_step
  refine wpStill_nil ?_
  go_wp2_with fail
  refine H6.out.mono ?_
  rintro e w7 ⟨rfl, g7, c7, L7, h7, p7, t7, a7⟩
  have HE7 := Lib.hid (⟨h7, p7, t7, a7⟩ : _ ∧ _ ∧ _ ∧ _)
  clear h7 p7 t7 a7 k1 k2
  go_wp2
  go_ret
  obtain ⟨h7, p7, t7, a7⟩ := HE7.out
  have hp : pushH most ys (x, y) = srt (ys ++ [(x, y)]) := by unfold pushH; rw [E.out, if_pos rfl, if_neg hl]
  refine ⟨by rw [E.out]; rfl, _, ⟨fm, _, _, L7, h7, rfl, ?_, h4⟩, (HT6.out.more (fun a ha => by simp at ha)).trans t7 (fun a ha => .inl ha), fun f hf => ?_⟩
  · rw [hp, ← H2.out.2.1]
    exact srt_of_perm (p7.trans ((srt_perm L).symm.append_right _))
  · have hs := HT6.out.size
    simp only [foot, List.mem_cons, Option.mem_toList] at hf ⊢
    rcases hf with h | h | h
    · exact .inl (.inl h)
    · exact .inl (.inr (.inl h))
    · simp [Value.ownBlock] at h
      subst h
      rcases a7 with h | h
      · exact .inl (.inr (.inr h))
      · exact .inr (by omega)
set_option maxRecDepth 100000 in
set_option maxHeartbeats 2000000 in
theorem hPush_far (b : Nat) (F : List Nat) (most : Nat) (ys : HL) (x y : Int) (w : World) (h : HeapIs w b F most ys) (hx : HitOk (x, y)) (hd : ¬ x ∈ ids ys) (hl : ys.length = most) (hlt : ltH (x, y) (lastH ys) = false) :
    Calls Tryz.prog 81 #[.pointer (some ⟨b, 0, none⟩), .agg #[.int .u64 x, .int .i64 y]] w (PushedH b F most ys (x, y) w) := by
  have mixed : Tryz.prog.follows .mixedOrders = true := by kernel_rfl
  have t0 : Turn [] w (w.alloc (.cells #[.int .u64 x, .int .i64 y] 78)) := (Turn.refl _ _).alloc _
  have W0 := Whole.new w 78 #[.int .u64 x, .int .i64 y]
  have h0 := h.turn t0 (fun f _ => by simp)
  have E : Hid (tookH most ys (x, y) = false) := by show _ = _; unfold tookH; simp [hd, hl, hlt]
  have HNX : Hid (∀ L : HL, srt L = ys → ¬ x ∈ L.map (·.1)) := fun L e hm => hd (by
    have := ((srt_perm L).map (·.1)).mem_iff (a := x)
    rw [e] at this
    exact this.2 hm)
  have HH := Lib.hid h
  have HF := Lib.hid h.facts
  clear h
  go_enter Tryz.func81, Tryz.ntmps81
  go_wp2
  generalize w.alloc (.cells #[.int .u64 x, .int .i64 y] 78) = w0 at t0 W0 h0 ⊢
  generalize hp : w.heap.size = p at W0 ⊢
  have HP := Lib.hid hp
  clear hp
  have d1 := fun n os => cell_grow (p := ⟨p, 0, none⟩) (v := .int .u64 x) (W0.cell 0) n os
  have HI := Lib.hid h0
  obtain ⟨fm, v, n, L, h1, rfl, h3, h4⟩ := h0
  have HT : Hid (∀ n' os', Calls Tryz.prog 82 #[.pointer (some ⟨b, 0, none⟩)] (grow (w0.drewN n') os') fun e w' => e = .returned (.bool true) ∧ ∃ q os'', w' = grow ((grow (w0.drewN n') os').drewN q) os'') := fun n' os' => by
    have := there_any b _ _ _ _ (h1.turn (turn_grow w0 n' os') (fun f _ => by simp)).at_.blk
    rw [show decide ((0 : Int) < (most : Int)) = true from decide_eq_true (by omega)] at this
    exact this.mono fun e w' hh => ⟨hh.1, 0, #[], by rw [hh.2]; exact grow_zero _⟩
  have HA : Hid (∀ n' os', Calls Tryz.prog 125 #[.pointer (some ⟨b, 0, none⟩), .int .u64 x] (grow (w0.drewN n') os') fun e w' => e = .returned (.bool false) ∧ ∃ q os'', w' = grow ((grow (w0.drewN n') os').drewN q) os'') := fun n' os' => by
    have := hpHas_any b fm most v n L x _ (h1.turn (turn_grow w0 n' os') (fun f _ => by simp)) hx.1
    rw [show decide (x ∈ L.map (·.1)) = false by rw [ids_perm' ((srt_perm L).symm.trans (by rw [h3]))]; exact decide_eq_false hd] at this
    exact this
  have H1 := Lib.hid (⟨h1, h3, h4⟩ : _ ∧ _ ∧ _)
  clear h1 h3 hd h4
  refine wp_region_quiet_grown mixed (by kernel_rfl) ?_
  repeat (go_big_quiet_step (first | (go_at_call 82; with_reducible refine Calls.grown_of (HT.out _ _)) | (go_at_call 125; with_reducible refine Calls.grown_of (HA.out _ _))))
  refine wpQuiet_nil ?_
  intro _ hw'
  obtain ⟨⟨nq', osq⟩, hw''⟩ := hw'
  subst hw''
  have t1 := turn_grow w0 nq' osq
  have t2 := t0.trans t1 (fun a ha => by simp at ha)
  have W1 := W0.turn t1 (by simp)
  obtain ⟨h1, h3, h4⟩ := H1.out
  have h2 := h1.turn t1 (fun f _ => by simp)
  clear d1 HT HA HI t1 t0 W0 h1 H1
  generalize grow (w0.drewN nq') osq = w1 at t2 W1 h2 ⊢
  obtain ⟨A, q, c, rfl⟩ := own_form h2.at_.row
  obtain rfl : q = n := by
    rcases h2.at_.row.2 with ⟨hv, h0⟩ | ⟨g, cap, cur, hv, _⟩
    · injection hv with _ q2 _; omega
    · injection hv
  have hlen : L.length = q := h2.at_.len.symm
  have HY := Lib.hid (show ys.length = q by rw [← h3, srt_len]; exact hlen)
  have c0 : w1.cell? ⟨b, 0, none⟩ = some (.slice A q c) := h2.at_.blk.cell 0
  have c2 : w1.cell? ⟨b, 2, none⟩ = some (.int .i64 most) := h2.at_.blk.cell 2
  have H2 := Lib.hid (⟨h2, h3, hlen⟩ : _ ∧ _ ∧ _)
  have HT2 := Lib.hid t2
  have HW := Lib.hid W1
  clear h2 h3 hlen t2 W1
  go_wp2
  have z : ((q : Int) == (most : Int)) = true := beq_iff_eq.2 (by have := HY.out; omega)
  go_quiet (fail)
  have HW3 := HW.out.turn ((Turn.refl [] w1).drewN nq) (by simp)
  have h3 := H2.out.1.turn ((Turn.refl [] w1).drewN nq) (fun f _ => by simp)
  have T3 := HT2.out.drewN nq
  clear c0 c2 z
  generalize w1.drewN nq = w3 at HW3 h3 T3 ⊢
  have HX := Lib.hid hx
  have HD : Hid (¬ x ∈ L.map (·.1)) := HNX.out L H2.out.2.1
  obtain ⟨r, rfl⟩ : ∃ r, q = r + 1 := ⟨q - 1, by have := HY.out; omega⟩
  obtain ⟨g, c', hv, _⟩ := h3.at_.row.form (by omega)
  obtain ⟨rfl, _, rfl⟩ : A = some ⟨g, 0, none⟩ ∧ r + 1 = r + 1 ∧ c = c' := by injection hv with q1 q2 q3; exact ⟨q1, q2, q3⟩
  have htop : lastH ys = top L := by
    rw [← H2.out.2.1]
    exact last_top (by have := H2.out.2.2; omega) (by rw [H2.out.2.2]; exact h3.at_.hp)
  have HTOP := Lib.hid htop
  have e1 := fun n os => cell_grow (p := ⟨p, 0, none⟩) (v := .int .u64 x) (HW3.cell 0) n os
  have e2 := fun n os => cell_grow (p := ⟨p, 1, none⟩) (v := .int .i64 y) (HW3.cell 1) n os
  have HWO : Hid (∀ n' os', Calls Tryz.prog 127 #[.pointer (some ⟨b, 0, none⟩)] (grow (w3.drewN n') os') fun e w' => e = .returned (.agg #[.int .u64 (top L).1, .int .i64 (top L).2]) ∧ ∃ q os'', w' = grow ((grow (w3.drewN n') os').drewN q) os'') := fun n' os' =>
    worst_any b most _ g c r L _ (h3.turn (turn_grow w3 n' os') (fun f _ => by simp)).at_
  have HLE : Hid (∀ n' os', Calls Tryz.prog 126 #[.agg #[.int .u64 x, .int .i64 y], .agg #[.int .u64 (top L).1, .int .i64 (top L).2]] (grow (w3.drewN n') os') fun e w' => e = .returned (.bool (ltH (x, y) (top L))) ∧ ∃ q os'', w' = grow ((grow (w3.drewN n') os').drewN q) os'') := fun n' os' => less_grown (x, y) (top L) w3 n' os'
  rw [← htop, hlt] at HLE
  rw [← htop] at HWO
  clear hv htop
  have H3 := Lib.hid (⟨h3, HW3, T3⟩ : _ ∧ _ ∧ _)
  clear h3 HW3 T3
  go_wp2
  refine wp_region_quiet_grown mixed (by kernel_rfl) ?_
  repeat (go_big_quiet_step (first | (go_at_call 127; with_reducible refine Calls.grown_of (HWO.out _ _)) | (go_at_call 126; with_reducible refine Calls.grown_of (HLE.out _ _))))
  refine wpQuiet_nil ?_
  intro _ hw'
  obtain ⟨⟨nq2, osq2⟩, hw''⟩ := hw'
  subst hw''
  obtain ⟨h3, HW3, T3⟩ := H3.out
  have t4 := turn_grow w3 nq2 osq2
  have HW4 := HW3.turn t4 (by simp)
  have h4' := h3.turn t4 (fun f _ => by simp)
  have T4 := T3.trans t4 (fun a ha => by simp at ha)
  clear e1 e2 HWO HLE h3 HW3 T3 t4 H3
  generalize grow (w3.drewN nq2) osq2 = w4 at HW4 h4' T4 ⊢
  have HE := Lib.hid (⟨h4', T4⟩ : _ ∧ _)
  clear h4' T4 HW4
  go_wp2
  go_ret
  obtain ⟨h5, T5⟩ := HE.out
  refine ⟨by rw [E.out]; rfl, _, ⟨fm, _, _, L, h5, rfl, ?_, h4⟩, T5.more (fun a ha => by simp at ha), fun f hf => .inl hf⟩
  unfold pushH
  rw [E.out]
  exact H2.out.2.1
set_option maxRecDepth 100000 in
set_option maxHeartbeats 2000000 in
theorem hPush_in (b : Nat) (F : List Nat) (most : Nat) (ys : HL) (x y : Int) (w : World) (h : HeapIs w b F most ys) (hx : HitOk (x, y)) (hd : ¬ x ∈ ids ys) (hl : ys.length = most) (hlt : ltH (x, y) (lastH ys) = true) :
    Calls Tryz.prog 81 #[.pointer (some ⟨b, 0, none⟩), .agg #[.int .u64 x, .int .i64 y]] w (PushedH b F most ys (x, y) w) := by
  have mixed : Tryz.prog.follows .mixedOrders = true := by kernel_rfl
  have t0 : Turn [] w (w.alloc (.cells #[.int .u64 x, .int .i64 y] 78)) := (Turn.refl _ _).alloc _
  have W0 := Whole.new w 78 #[.int .u64 x, .int .i64 y]
  have h0 := h.turn t0 (fun f _ => by simp)
  have E : Hid (tookH most ys (x, y) = true) := by show _ = _; unfold tookH; simp [hd, hl, hlt]
  have HNX : Hid (∀ L : HL, srt L = ys → ¬ x ∈ L.map (·.1)) := fun L e hm => hd (by
    have := ((srt_perm L).map (·.1)).mem_iff (a := x)
    rw [e] at this
    exact this.2 hm)
  have HH := Lib.hid h
  have HF := Lib.hid h.facts
  clear h
  go_enter Tryz.func81, Tryz.ntmps81
  go_wp2
  generalize w.alloc (.cells #[.int .u64 x, .int .i64 y] 78) = w0 at t0 W0 h0 ⊢
  generalize hp : w.heap.size = p at W0 ⊢
  have HP := Lib.hid hp
  clear hp
  have d1 := fun n os => cell_grow (p := ⟨p, 0, none⟩) (v := .int .u64 x) (W0.cell 0) n os
  have HI := Lib.hid h0
  obtain ⟨fm, v, n, L, h1, rfl, h3, h4⟩ := h0
  have HT : Hid (∀ n' os', Calls Tryz.prog 82 #[.pointer (some ⟨b, 0, none⟩)] (grow (w0.drewN n') os') fun e w' => e = .returned (.bool true) ∧ ∃ q os'', w' = grow ((grow (w0.drewN n') os').drewN q) os'') := fun n' os' => by
    have := there_any b _ _ _ _ (h1.turn (turn_grow w0 n' os') (fun f _ => by simp)).at_.blk
    rw [show decide ((0 : Int) < (most : Int)) = true from decide_eq_true (by omega)] at this
    exact this.mono fun e w' hh => ⟨hh.1, 0, #[], by rw [hh.2]; exact grow_zero _⟩
  have HA : Hid (∀ n' os', Calls Tryz.prog 125 #[.pointer (some ⟨b, 0, none⟩), .int .u64 x] (grow (w0.drewN n') os') fun e w' => e = .returned (.bool false) ∧ ∃ q os'', w' = grow ((grow (w0.drewN n') os').drewN q) os'') := fun n' os' => by
    have := hpHas_any b fm most v n L x _ (h1.turn (turn_grow w0 n' os') (fun f _ => by simp)) hx.1
    rw [show decide (x ∈ L.map (·.1)) = false by rw [ids_perm' ((srt_perm L).symm.trans (by rw [h3]))]; exact decide_eq_false hd] at this
    exact this
  have H1 := Lib.hid (⟨h1, h3, h4⟩ : _ ∧ _ ∧ _)
  clear h1 h3 hd h4
  refine wp_region_quiet_grown mixed (by kernel_rfl) ?_
  repeat (go_big_quiet_step (first | (go_at_call 82; with_reducible refine Calls.grown_of (HT.out _ _)) | (go_at_call 125; with_reducible refine Calls.grown_of (HA.out _ _))))
  refine wpQuiet_nil ?_
  intro _ hw'
  obtain ⟨⟨nq', osq⟩, hw''⟩ := hw'
  subst hw''
  have t1 := turn_grow w0 nq' osq
  have t2 := t0.trans t1 (fun a ha => by simp at ha)
  have W1 := W0.turn t1 (by simp)
  obtain ⟨h1, h3, h4⟩ := H1.out
  have h2 := h1.turn t1 (fun f _ => by simp)
  clear d1 HT HA HI t1 t0 W0 h1 H1
  generalize grow (w0.drewN nq') osq = w1 at t2 W1 h2 ⊢
  obtain ⟨A, q, c, rfl⟩ := own_form h2.at_.row
  obtain rfl : q = n := by
    rcases h2.at_.row.2 with ⟨hv, h0⟩ | ⟨g, cap, cur, hv, _⟩
    · injection hv with _ q2 _; omega
    · injection hv
  have hlen : L.length = q := h2.at_.len.symm
  have HY := Lib.hid (show ys.length = q by rw [← h3, srt_len]; exact hlen)
  have c0 : w1.cell? ⟨b, 0, none⟩ = some (.slice A q c) := h2.at_.blk.cell 0
  have c2 : w1.cell? ⟨b, 2, none⟩ = some (.int .i64 most) := h2.at_.blk.cell 2
  have H2 := Lib.hid (⟨h2, h3, hlen⟩ : _ ∧ _ ∧ _)
  have HT2 := Lib.hid t2
  have HW := Lib.hid W1
  clear h2 h3 hlen t2 W1
  go_wp2
  have z : ((q : Int) == (most : Int)) = true := beq_iff_eq.2 (by have := HY.out; omega)
  go_quiet (fail)
  have HW3 := HW.out.turn ((Turn.refl [] w1).drewN nq) (by simp)
  have h3 := H2.out.1.turn ((Turn.refl [] w1).drewN nq) (fun f _ => by simp)
  have T3 := HT2.out.drewN nq
  clear c0 c2 z
  generalize w1.drewN nq = w3 at HW3 h3 T3 ⊢
  have HX := Lib.hid hx
  have HD : Hid (¬ x ∈ L.map (·.1)) := HNX.out L H2.out.2.1
  obtain ⟨r, rfl⟩ : ∃ r, q = r + 1 := ⟨q - 1, by have := HY.out; omega⟩
  obtain ⟨g, c', hv, _⟩ := h3.at_.row.form (by omega)
  obtain ⟨rfl, _, rfl⟩ : A = some ⟨g, 0, none⟩ ∧ r + 1 = r + 1 ∧ c = c' := by injection hv with q1 q2 q3; exact ⟨q1, q2, q3⟩
  have htop : lastH ys = top L := by
    rw [← H2.out.2.1]
    exact last_top (by have := H2.out.2.2; omega) (by rw [H2.out.2.2]; exact h3.at_.hp)
  have HTOP := Lib.hid htop
  have HFT : Hid ([b, fm, g] = foot b fm (.slice (some ⟨g, 0, none⟩) (r + 1) c)) := (foot3 b fm g c (r + 1)).symm
  have e1 := fun n os => cell_grow (p := ⟨p, 0, none⟩) (v := .int .u64 x) (HW3.cell 0) n os
  have e2 := fun n os => cell_grow (p := ⟨p, 1, none⟩) (v := .int .i64 y) (HW3.cell 1) n os
  have HWO : Hid (∀ n' os', Calls Tryz.prog 127 #[.pointer (some ⟨b, 0, none⟩)] (grow (w3.drewN n') os') fun e w' => e = .returned (.agg #[.int .u64 (top L).1, .int .i64 (top L).2]) ∧ ∃ q os'', w' = grow ((grow (w3.drewN n') os').drewN q) os'') := fun n' os' =>
    worst_any b most _ g c r L _ (h3.turn (turn_grow w3 n' os') (fun f _ => by simp)).at_
  have HLE : Hid (∀ n' os', Calls Tryz.prog 126 #[.agg #[.int .u64 x, .int .i64 y], .agg #[.int .u64 (top L).1, .int .i64 (top L).2]] (grow (w3.drewN n') os') fun e w' => e = .returned (.bool (ltH (x, y) (top L))) ∧ ∃ q os'', w' = grow ((grow (w3.drewN n') os').drewN q) os'') := fun n' os' => less_grown (x, y) (top L) w3 n' os'
  rw [← htop, hlt] at HLE
  rw [← htop] at HWO
  clear hv htop
  have H3 := Lib.hid (⟨h3, HW3, T3⟩ : _ ∧ _ ∧ _)
  clear h3 HW3 T3
  go_wp2
  refine wp_region_quiet_grown mixed (by kernel_rfl) ?_
  repeat (go_big_quiet_step (first | (go_at_call 127; with_reducible refine Calls.grown_of (HWO.out _ _)) | (go_at_call 126; with_reducible refine Calls.grown_of (HLE.out _ _))))
  refine wpQuiet_nil ?_
  intro _ hw'
  obtain ⟨⟨nq2, osq2⟩, hw''⟩ := hw'
  subst hw''
  obtain ⟨h3, HW3, T3⟩ := H3.out
  have t4 := turn_grow w3 nq2 osq2
  have HW4 := HW3.turn t4 (by simp)
  have h4' := h3.turn t4 (fun f _ => by simp)
  have T4 := T3.trans t4 (fun a ha => by simp at ha)
  clear e1 e2 HWO HLE h3 HW3 T3 t4 H3
  generalize grow (w3.drewN nq2) osq2 = w4 at HW4 h4' T4 ⊢
  have H5 := Lib.hid (hpDrop_any b fm most g c r L w4 h4')
  have HE := Lib.hid (⟨h4', T4, HW4⟩ : _ ∧ _ ∧ _)
  clear h4' T4 HW4
  go_wp2_with fail
  refine H5.out.mono ?_
  rintro e w5 ⟨rfl, L5, h5, hpm, t5⟩
  obtain ⟨h4', T4, HW4⟩ := HE.out
  have hpn : p ∉ [b, fm, g] := fun hm => by
    have := HH.out.lt p (HFT.out ▸ hm)
    have := HP.out; omega
  have HW5 := HW4.turn t5 hpn
  have T5 := (T4.more (B := [b, fm, g]) (fun a ha => by simp at ha)).trans t5 (fun a ha => .inl ha)
  have HD5 : Hid (¬ x ∈ L5.map (·.1)) := fun hm => HD.out ((hpm.map (·.1)).subset (List.mem_cons_of_mem _ hm))
  have HPM := Lib.hid hpm
  have HLT := Lib.hid HH.out.lt
  clear h4' T4 HW4 hpn t5 hpm H5 HE
  go_wp2
  refine wp_region_still_tail 4 (by kernel_rfl) (by kernel_rfl) ?_
  simp only [List.take_succ_cons, List.take_zero, List.drop_succ_cons, List.drop_zero]
  have t6 : Turn [b, fm, g] w w5.drew := T5.drew
  have k1 : w5.drew.cell? ⟨p, 0, none⟩ = some (.int .u64 x) := HW5.cell 0
  have k2 : w5.drew.cell? ⟨p, 1, none⟩ = some (.int .i64 y) := HW5.cell 1
  have h6 : HeapAt w5.drew b fm most (.slice (some ⟨g, 0, none⟩) r c) r L5 := h5.turn (A := []) ((Turn.refl _ w5).drew) (fun f _ => by simp)
  change wpStill _ _ w5.drew (fun a' => wpList _ _ _ _ a' w5.drew) _ _
  generalize w5.drew = w6 at t6 k1 k2 h6 ⊢
  have H6 := Lib.hid (hpKeep_any b fm most (.slice (some ⟨g, 0, none⟩) r c) r L5 x y w6 h6 HX.out HD5.out (by have := HY.out; omega))
  have HT6 := Lib.hid t6
  clear h6 t6
  still_step
  still_step
  still_step
  still_step
  refine wpStill_nil ?_
  go_wp2_with fail
  refine H6.out.mono ?_
  rintro e w7 ⟨rfl, g7, c7, L7, h7, p7, t7, a7⟩
  have HE7 := Lib.hid (⟨h7, p7, t7, a7⟩ : _ ∧ _ ∧ _ ∧ _)
  clear h7 p7 t7 a7 k1 k2
  go_wp2
  go_ret
  obtain ⟨h7, p7, t7, a7⟩ := HE7.out
  have hp : pushH most ys (x, y) = srt (ys.dropLast ++ [(x, y)]) := by unfold pushH; rw [E.out, if_pos rfl, if_pos hl]
  refine ⟨by rw [E.out]; rfl, _, ⟨fm, _, _, L7, h7, rfl, ?_, h4⟩, ?_, fun f hf => ?_⟩
  · rw [hp]
    refine srt_of_perm (p7.trans (List.Perm.append_right _ ?_))
    have hd5 := srt_drop (by have := H2.out.2.2; omega) (by rw [H2.out.2.2]; exact H2.out.1.at_.hp) HPM.out
    rw [H2.out.2.1] at hd5
    rw [← hd5]
    exact (srt_perm L5).symm
  · rw [foot3] at t7 ⊢
    exact HT6.out.trans t7 (fun a ha => .inl ha)
  · have hs := HT6.out.size
    simp only [foot, Value.ownBlock, List.mem_cons, Option.mem_toList] at hf ⊢
    rcases hf with h | h | h
    · exact .inl (.inl h)
    · exact .inl (.inr (.inl h))
    · simp at h
      subst h
      rcases a7 with h | h
      · simp [Value.ownBlock] at h
        subst h
        exact .inl (.inr (.inr rfl))
      · exact .inr (by omega)
/-- Push, of any hit. -/
theorem hPushM_any (b : Nat) (F : List Nat) (most : Nat) (ys : HL) (x y : Int) (w : World) (h : HeapIs w b F most ys) (hx : HitOk (x, y)) :
    Calls Tryz.prog 81 #[.pointer (some ⟨b, 0, none⟩), .agg #[.int .u64 x, .int .i64 y]] w (PushedH b F most ys (x, y) w) := by
  by_cases hd : x ∈ ids ys
  · exact hPush_dup b F most ys x y w h hx hd
  · by_cases hl : ys.length = most
    · cases hlt : ltH (x, y) (lastH ys) with
      | false => exact hPush_far b F most ys x y w h hx hd hl hlt
      | true => exact hPush_in b F most ys x y w h hx hd hl hlt
    · exact hPush_room b F most ys x y w h hx hd hl
end Go.Proofs.YtkmngbkghgelfaaGreat
