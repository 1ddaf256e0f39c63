/- The document's heap: Worst, Pop, Hits. -/
import Derived.Test.YtaempklgmoabcaaGreatPb
import Derived.Test.YtaempklgmoabcaaGreatGh
import Derived.BigRegion
namespace Go.Proofs.YtaempklgmoabcaaGreat
open Go.Shelf Go.RowKit Go.Lib
open Go.Sort hiding Below
set_option linter.unusedVariables false
set_option maxRecDepth 100000 in
theorem rWorst_none (w : World) : Calls Tryz.prog 11 #[.pointer none] w fun e w' => e = .returned (outV []) ∧ Turn [] w w' := by
  rw [outV_nil]
  have t0 : Turn [] w (w.alloc (.cells #[.int .u64 0, .int .i64 0] 53)) := (Turn.refl _ _).alloc _
  have W0 := Whole.new w 53 #[.int .u64 0, .int .i64 0]
  go_enter Tryz.func11, Tryz.ntmps11
  go_wp2
  (try simp only [Exit.inBlock, Exit.then])
  refine bodyPost_ret (v := .tuple #[.agg #[.int .u64 0, .int .i64 0], .bool false]) (by rw [results_ct rfl]; go_simp) rfl ?_
  exact ⟨rfl, t0⟩
set_option maxRecDepth 100000 in
theorem rWorst_empty (b n : Nat) (most : Int) (A : Option Addr) (c : Nat) (w : World) (hb : Whole w b 66 #[.int .i64 most, .slice A 0 c]) :
    Calls Tryz.prog 11 #[.pointer (some ⟨b, 0, none⟩)] w fun e w' => e = .returned (outV []) ∧ Turn [] w w' := by
  rw [outV_nil]
  have t0 : Turn [] w (w.alloc (.cells #[.int .u64 0, .int .i64 0] 53)) := (Turn.refl _ _).alloc _
  have c1 : w.cell? ⟨b, 1, none⟩ = some (.slice A 0 c) := hb.cell 1
  have hl := hb.lt
  clear hb
  go_enter Tryz.func11, Tryz.ntmps11
  go_wp2
  (try simp only [Exit.inBlock, Exit.then])
  refine bodyPost_ret (v := .tuple #[.agg #[.int .u64 0, .int .i64 0], .bool false]) (by rw [results_ct rfl]; go_simp) rfl ?_
  exact ⟨rfl, t0⟩
set_option maxRecDepth 100000 in
theorem rWorst_some (b g q : Nat) (most : Int) (c : Nat) (ys : HL) (w : World) (hb : Whole w b 66 #[.int .i64 most, .slice (some ⟨g, 0, none⟩) (q + 1) c]) (ho : w.ownsRow 0 53 2 (.slice (some ⟨g, 0, none⟩) (q + 1) c) (q + 1) (flatH ys)) (hq : ys.length = q + 1) (hs : q < 1000000) :
    Calls Tryz.prog 11 #[.pointer (some ⟨b, 0, none⟩)] w fun e w' => e = .returned (outV ys) ∧ Turn [] w w' := by
  rw [outV_pos (by omega)]
  have t0 : Turn [] w (w.alloc (.cells #[.int .u64 0, .int .i64 0] 53)) := (Turn.refl _ _).alloc _
  obtain ⟨R, hn', hcc⟩ := own_rowK ho
  have k := cellsH R.hH (i := q) (by simp; omega)
  have e : ys.toArray[q]! = lastH ys := by
    have h1 := split_last (ys := ys) (by omega)
    rw [getL]
    conv => lhs; rw [← h1]
    rw [List.getElem?_append_right (by rw [List.length_dropLast]; omega), List.length_dropLast]
    simp [hq]
  rw [e] at k
  obtain ⟨x1, x2, hx⟩ : ∃ x1 x2, lastH ys = (x1, x2) := ⟨_, _, rfl⟩
  rw [hx] at k ⊢
  have c1 : w.cell? ⟨b, 1, none⟩ = some (.slice (some ⟨g, 0, none⟩) (q + 1) c) := hb.cell 1
  have k1 := k.1
  have k2 := k.2
  have hbl := hb.lt
  have hgl : g < w.heap.size := World.block_lt_of_cell? w _ k1
  have z0 : ((q : Int) + 1 == 0) = false := beq_false_of_ne (by omega)
  have bz : (q : Int) < (q : Int) + 1 := by omega
  clear e hx R ho hb k hq hn'
  go_enter Tryz.func11, Tryz.ntmps11
  go_wp2
  go_region
  go_wp2
  (try simp only [Exit.inBlock, Exit.then])
  refine bodyPost_ret (v := .tuple #[hitV (x1, x2), .bool true]) (by rw [results_ct rfl]; go_simp; rfl) rfl ?_
  exact ⟨rfl, ((Turn.refl [] w).alloc _).drew⟩
theorem rWorst (rv : Value) (G : List Nat) (most : Nat) (ys : HL) (w : World) (h : RG w rv G most ys) : Calls Tryz.prog 11 #[rv] w fun e w' => e = .returned (outV ys) ∧ Turn [] w w' := by
  rcases h with ⟨rfl, rfl, rfl, rfl⟩ | ⟨b, v, n, rfl, h2, h3, rfl, h5, h6, h7, h8⟩
  · exact rWorst_none w
  · obtain ⟨A, c, rfl, hn, hr⟩ := own_sliceH h3
    rcases Nat.eq_zero_or_pos n with h0 | h0
    · subst h0
      obtain rfl : ys = [] := List.eq_nil_of_length_eq_zero hn.symm
      exact rWorst_empty b 0 _ A c w h2
    · obtain ⟨q, rfl⟩ : ∃ q, n = q + 1 := ⟨n - 1, by omega⟩
      obtain ⟨g, c', hv, _⟩ := h3.form (by omega)
      injection hv with q1 q2 q3
      subst q1 q3
      exact rWorst_some b g q _ c ys w h2 h3 hn.symm (by omega)
def RPop (rv : Value) (G : List Nat) (most : Nat) (ys : HL) (w : World) (e : Ending) (w' : World) : Prop := e = .returned (outV ys) ∧ RG w' rv G most ys.dropLast ∧ Turn G w w'
set_option maxRecDepth 100000 in
theorem rPop_no (rv : Value) (G : List Nat) (most : Nat) (w : World) (h : RG w rv G most []) : Calls Tryz.prog 7 #[rv] w fun e w' => e = .returned (outV []) ∧ Turn [] w w' := by
  have t0 : Turn [] w (w.alloc (.cells #[.int .u64 0, .int .i64 0] 53)) := (Turn.refl _ _).alloc _
  have W0 := Whole.new w 53 #[.int .u64 0, .int .i64 0]
  have H1 := Lib.hid (rWorst rv G most [] _ (h.turn t0 (fun f _ => by simp)))
  rw [outV_nil] at H1 ⊢
  clear h
  go_enter Tryz.func7, Tryz.ntmps7
  go_wp2_with fail
  generalize w.alloc (.cells #[.int .u64 0, .int .i64 0] 53) = w0 at t0 W0 H1 ⊢
  generalize hp : w.heap.size = p at W0 ⊢
  have HP := Lib.hid (show w.heap.size ≤ p by omega)
  clear hp
  refine H1.out.mono ?_
  rintro e w1 ⟨rfl, t1⟩
  have W1 := W0.turn t1 (by simp)
  have d1 : w1.cell? ⟨p, 0, none⟩ = some (.int .u64 0) := W1.cell 0
  have d2 : w1.cell? ⟨p, 1, none⟩ = some (.int .i64 0) := W1.cell 1
  have f1 := W1.frozen 0
  have f2 := W1.frozen 1
  have hpl := W1.lt
  have t2 := t0.trans t1 (fun a ha => by simp at ha)
  clear H1 W0 W1 t0 t1
  go_wp2
  (try simp only [Exit.inBlock, Exit.then])
  refine bodyPost_ret (v := .tuple #[.agg #[.int .u64 0, .int .i64 0], .bool false]) (by rw [results_ct rfl]; go_simp) rfl ?_
  exact ⟨rfl, ((t2.setCell (p := ⟨p, 0, none⟩) (.inr HP.out) _).setCell (p := ⟨p, 1, none⟩) (.inr HP.out) _).alloc _⟩
set_option maxRecDepth 100000 in
set_option maxHeartbeats 1000000 in
theorem rPop_some (b g q most : Nat) (c : Nat) (ys : HL) (w : World) (hb : Whole w b 66 #[.int .i64 most, .slice (some ⟨g, 0, none⟩) (q + 1) c]) (ho : w.ownsRow 0 53 2 (.slice (some ⟨g, 0, none⟩) (q + 1) c) (q + 1) (flatH ys)) (hq : ys.length = q + 1) (hu : Up ys) (h6 : ys.length ≤ most) (h7 : 0 < most) (h8 : most ≤ 256) :
    Calls Tryz.prog 7 #[.pointer (some ⟨b, 0, none⟩)] w (RPop (.pointer (some ⟨b, 0, none⟩)) [b, g] most ys w) := by
  have t0 : Turn [] w (w.alloc (.cells #[.int .u64 0, .int .i64 0] 53)) := (Turn.refl _ _).alloc _
  have W0 := Whole.new w 53 #[.int .u64 0, .int .i64 0]
  have hb0 := hb.turn t0 (by simp)
  have ho0 := own_turn ho t0 (fun _ _ => by simp)
  have h1 := rWorst_some b g q most c ys _ hb0 ho0 hq (by omega)
  obtain ⟨hR', hn', hcc⟩ := own_rowK ho
  clear hR' hn'
  obtain ⟨x1, x2, hx⟩ : ∃ x1 x2, lastH ys = (x1, x2) := ⟨_, _, rfl⟩
  have HO : Hid (outV ys = .tuple #[.agg #[.int .u64 x1, .int .i64 x2], .bool true]) := by show _ = _; rw [outV_pos (by omega), hx]; rfl
  rw [HO.out] at h1
  have H1 := Lib.hid h1
  have HB := Lib.hid (⟨hb.lt, (ho.lt g rfl).2, hb, ho, hq, hu, h6⟩ : _ ∧ _ ∧ _ ∧ _ ∧ _ ∧ _ ∧ _)
  clear h1 hx hq hu h6 hb ho
  go_enter Tryz.func7, Tryz.ntmps7
  go_wp2_with fail
  generalize w.alloc (.cells #[.int .u64 0, .int .i64 0] 53) = w0 at t0 W0 H1 hb0 ho0 ⊢
  generalize hp : w.heap.size = p at W0 ⊢
  have HP := Lib.hid hp
  clear hp
  refine H1.out.mono ?_
  rintro e w1 ⟨rfl, t1⟩
  have W1 := W0.turn t1 (by simp)
  have hb1 := hb0.turn t1 (by simp)
  have ho1 := own_turn ho0 t1 (fun _ _ => by simp)
  have T1 := t0.trans t1 (fun a ha => by simp at ha)
  have c1 : w1.cell? ⟨b, 1, none⟩ = some (.slice (some ⟨g, 0, none⟩) (q + 1) c) := hb1.cell 1
  have fb1 := hb1.frozen 1
  have d1 : w1.cell? ⟨p, 0, none⟩ = some (.int .u64 0) := W1.cell 0
  have d2 : w1.cell? ⟨p, 1, none⟩ = some (.int .i64 0) := W1.cell 1
  have f1 := W1.frozen 0
  have f2 := W1.frozen 1
  have hpl := W1.lt
  have hbl := hb1.lt
  have hpb : p ≠ b := by have := HB.out.1; have := HP.out; omega
  have HE := Lib.hid (⟨hb1, ho1, T1⟩ : _ ∧ _ ∧ _)
  have hq256 : q < 256 := by have := HB.out.2.2.2.2.1; have := HB.out.2.2.2.2.2.2; omega
  have hwp : IntKind.i64.wrap (q : Int) = (q : Int) := by rw [IntKind.wrap_i64]; omega
  have hqc : (q : Int) ≤ (c : Int) := by omega
  have hq0 : (0 : Int) ≤ (q : Int) := by omega
  clear H1 W0 W1 t0 t1 hb0 ho0 hb1 ho1 T1
  go_wp2
  go_region
  all_goals go_wp2
  (try simp only [Exit.inBlock, Exit.then])
  refine bodyPost_ret (v := .tuple #[.agg #[.int .u64 x1, .int .i64 x2], .bool true]) (by rw [results_ct rfl]; go_simp) rfl ?_
  clear c1 fb1 d1 d2 f1 f2
  obtain ⟨hb1, ho1, T1⟩ := HE.out
  obtain ⟨hbl0, hgl0, _, _, hq, hu, h6⟩ := HB.out
  have hgb : g ≠ b := fun e => own_apart ho1 hb1 (by decide) (by rw [e]; rfl)
  have hpg : p ≠ g := by have := HP.out; omega
  have t2 : Turn [b] w1 (w1.setCell ⟨b, 1, none⟩ (.slice (some ⟨g, 0, none⟩) q c)) := (Turn.refl _ _).setCell (p := ⟨b, 1, none⟩) (.inl (by simp)) _
  have hb2 : Whole (w1.setCell ⟨b, 1, none⟩ (.slice (some ⟨g, 0, none⟩) q c)) b 66 #[.int .i64 most, .slice (some ⟨g, 0, none⟩) q c] := by simpa using hb1.set 1 (.slice (some ⟨g, 0, none⟩) q c)
  have ho2 := own_turn (own_shrink (c := q) (by omega) ho1) t2 (fun g' hg' => by simp [Value.ownBlock] at hg'; subst hg'; simpa using hgb)
  rw [flatH_take] at ho2
  have hdl : ys.take q = ys.dropLast := by rw [List.dropLast_eq_take, hq]; rfl
  rw [hdl] at ho2
  have t3 : Turn [p] (w1.setCell ⟨b, 1, none⟩ (.slice (some ⟨g, 0, none⟩) q c)) ((((w1.setCell ⟨b, 1, none⟩ (.slice (some ⟨g, 0, none⟩) q c)).setCell ⟨p, 0, none⟩ (.int .u64 x1)).setCell ⟨p, 1, none⟩ (.int .i64 x2)).alloc (.cells #[.int .u64 x1, .int .i64 x2] 53)).drew :=
    ((((Turn.refl _ _).setCell (p := ⟨p, 0, none⟩) (.inl (by simp)) _).setCell (p := ⟨p, 1, none⟩) (.inl (by simp)) _).alloc _).drew
  refine ⟨by rw [HO.out], .inr ⟨b, _, q, rfl, hb2.turn t3 (by simpa using Ne.symm hpb), own_turn ho2 t3 (fun g' hg' => by simp [Value.ownBlock] at hg'; subst hg'; simpa using Ne.symm hpg), by simp [Value.ownBlock], hu.sublist (List.dropLast_sublist _), by rw [List.length_dropLast]; omega, h7, h8⟩, ?_⟩
  exact ((T1.more (B := [b, g]) (fun a ha => by simp at ha)).trans t2 (fun a ha => .inl (by simp at ha; simp [ha]))).trans t3 (fun a ha => .inr (by simp at ha; rw [ha, HP.out]; exact Nat.le_refl _))
theorem rPop (rv : Value) (G : List Nat) (most : Nat) (ys : HL) (w : World) (h : RG w rv G most ys) : Calls Tryz.prog 7 #[rv] w (RPop rv G most ys w) := by
  rcases Nat.eq_zero_or_pos ys.length with h0 | h0
  · obtain rfl := List.eq_nil_of_length_eq_zero h0
    exact (rPop_no rv G most w h).mono fun e w' hh => ⟨hh.1, h.turn hh.2 (fun f _ => by simp), hh.2.more (fun a ha => by simp at ha)⟩
  · rcases h with ⟨rfl, rfl, rfl, rfl⟩ | ⟨b, v, n, rfl, h2, h3, rfl, h5, h6, h7, h8⟩
    · simp at h0
    · obtain ⟨A, c, rfl, hn, hr⟩ := own_sliceH h3
      obtain ⟨q, rfl⟩ : ∃ q, n = q + 1 := ⟨n - 1, by omega⟩
      obtain ⟨g, c', hv, _⟩ := h3.form (by omega)
      injection hv with q1 q2 q3
      subst q1 q3
      exact rPop_some b g q most c ys w h2 h3 hn.symm h5 h6 h7 h8
/-- What the document's Hits answers: a slice that reads as ys. -/
def RHits (ys : HL) (w : World) (e : Ending) (w' : World) : Prop := ∃ A c, e = .returned (.slice A ys.length c) ∧ RdH w' w'.heap.size A ys ∧ Turn [] w w'
set_option maxRecDepth 100000 in
theorem rHits (rv : Value) (G : List Nat) (most : Nat) (ys : HL) (w : World) (h : RG w rv G most ys) : Calls Tryz.prog 16 #[rv] w (RHits ys w) := by
  rcases h with ⟨rfl, rfl, rfl, rfl⟩ | ⟨b, v, n, rfl, h2, h3, rfl, h5, h6, h7, h8⟩
  · go_enter Tryz.func16, Tryz.ntmps16
    go_wp2
    go_ret
    exact ⟨none, 0, rfl, fun h => by simp at h, Turn.refl _ _⟩
  · obtain ⟨A, c, rfl, hn, hr⟩ := own_sliceH h3
    have hA : A = none → c = 0 := fun e => by
      subst e
      rcases h3.2 with ⟨hv, _⟩ | ⟨g, cap, cur, hv, _⟩
      · injection hv
      · cases hv
    have c1 : w.cell? ⟨b, 1, none⟩ = some (.slice A n c) := h2.cell 1
    obtain ⟨i0, hi, hz0, hz1, hz2⟩ := info_parts Tryz.info53k
    have hnl : n ≤ 256 := by omega
    have HN := Lib.hid hn
    clear h2 h3 h5 h6 h7 hn
    go_enter Tryz.func16, Tryz.ntmps16
    go_wp2_with (first | (at_builtin; refine wpList_appH _ rfl (.tmp 6) (.tmp 10) 30 rfl w.heap.size 53 i0 (.agg #[.int .u64 0, .int .i64 0]) 16 Tryz.underlying30 hi hz0 hz1 hz2 rfl (.slice none 0 0) 0 [] rfl (own_nilH _ _ _) A n c ys w.heap.size rfl HN.out hr hA (by unfold maxLen; omega) (by omega) (Nat.le_refl _) ?_; intro v2 w2 hown2 hgrow2))
    go_ret
    obtain ⟨A2, c2, hv2, hn2, hr2⟩ := own_sliceH hown2
    rw [List.nil_append] at hn2 hr2
    refine ⟨A2, c2, ?_, hr2, ?_⟩
    · rw [hv2, hn2]
      rfl
    · exact (Turn.of_grown hgrow2).more (fun a ha => by simp [Value.ownBlock] at ha)
end Go.Proofs.YtaempklgmoabcaaGreat
