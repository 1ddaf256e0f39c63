/- The document's heap: Push. -/
import Derived.Test.YtaempklgmoabcaaGreatPc
import Derived.Deep.LoopGhost
namespace Go.Proofs.YtaempklgmoabcaaGreat
open Go.Shelf Go.RowKit Go.Lib
open Go.Sort hiding Below
set_option linter.unusedVariables false
theorem idAt {xs : HL} {i : Nat} {x y : Int} (h : xs[i]? = some (x, y)) : (ids xs)[i]? = some x := by simp [ids, h]
theorem own_base {w : World} {base n size : Nat} {e : TypeId} {v : Value} {xs : List Value} (h : w.ownsRow base e size v n xs) : w.ownsRow 0 e size v n xs := by
  refine ⟨h.1, ?_⟩
  rcases h.2 with h0 | ⟨g, cap, cur, hv, hb, r⟩
  · exact .inl h0
  · exact .inr ⟨g, cap, cur, hv, Nat.zero_le _, r⟩
theorem refLess_grown (x y : Int × Int) (w : World) (n : Nat) (os : Array Obj) :
    Calls Tryz.prog 25 #[.agg #[.int .u64 x.1, .int .i64 x.2], .agg #[.int .u64 y.1, .int .i64 y.2]] (grow (w.drewN n) os) fun e w' => e = .returned (.bool (ltH x y)) ∧ ∃ q os', w' = grow ((grow (w.drewN n) os).drewN q) os' :=
  (refLess_any x.1 x.2 y.1 y.2 _).mono fun e w' h => ⟨h.1, 0, _, h.2.trans (grow2o _ _ _)⟩
/-- What the document's Push leaves. -/
theorem ref_push {m : Nat} {ys : HL} {x : Int × Int} (hx : x.1 ∉ ids ys) (hu : Up ys) (hl : ys.length ≤ m) (hm : 0 < m) : (srt (ys ++ [x])).take m = pushH m ys x := by
  rw [pushH_ins hx hu hl hm, srt_insL, srt_self hu]
set_option maxRecDepth 100000 in
theorem rPush_none (x y : Int) (w : World) : Calls Tryz.prog 9 #[.pointer none, .agg #[.int .u64 x, .int .i64 y]] w fun e w' => e = .returned (.bool false) ∧ Turn [] w w' := by
  go_enter Tryz.func9, Tryz.ntmps9
  go_wp2
  go_ret
  exact ⟨rfl, (Turn.refl _ _).alloc _⟩
def RPushed (b most : Nat) (v : Value) (ys : HL) (z : Int × Int) (w : World) (e : Ending) (w' : World) : Prop :=
  e = .returned (.bool (tookH most ys z)) ∧ ∃ v' n', Whole w' b 66 #[.int .i64 most, v'] ∧ w'.ownsRow 0 53 2 v' n' (flatH (pushH most ys z)) ∧ Turn (b :: v.ownBlock.toList) w w' ∧ ∀ g, v'.ownBlock = some g → v.ownBlock = some g ∨ w.heap.size ≤ g
theorem rpush_end {b n gs cs most : Nat} {v : Value} {zs : HL} {w2 w3 w4 : World} {X : Obj} (hb : Whole w2 b 66 #[.int .i64 most, v]) (hne : v.ownBlock ≠ some b) (hg : (w2.alloc X).drew.grownBy w3 v.ownBlock) (hB : Below w3.heap.size w3 w4) (hgs : w3.heap.size ≤ gs)
    (hS : w4.ownsRow 0 53 2 (.slice (some ⟨gs, 0, none⟩) n cs) n (flatH zs)) :
    Whole (w4.setCell ⟨b, 1, none⟩ (.slice (some ⟨gs, 0, none⟩) n cs)) b 66 #[.int .i64 most, .slice (some ⟨gs, 0, none⟩) n cs] ∧ (w4.setCell ⟨b, 1, none⟩ (.slice (some ⟨gs, 0, none⟩) n cs)).ownsRow 0 53 2 (.slice (some ⟨gs, 0, none⟩) n cs) n (flatH zs) ∧
      Turn (b :: v.ownBlock.toList) w2 (w4.setCell ⟨b, 1, none⟩ (.slice (some ⟨gs, 0, none⟩) n cs)) ∧ w2.heap.size ≤ gs := by
  have t1 : Turn v.ownBlock.toList w2 w3 := (((Turn.refl _ w2).alloc X).drew).trans (Turn.of_grown hg) (fun k hk => .inl hk)
  have t2 := t1.trans (Turn.of_below hB) (fun a ha => by simp at ha)
  have hb4 := hb.turn t2 (fun h => by simp at h; exact hne h)
  have hsz : w2.heap.size ≤ gs := Nat.le_trans t1.size hgs
  have hgb : gs ≠ b := by have := hb.lt; omega
  refine ⟨by simpa using hb4.set 1 _, own_turn hS ((Turn.refl [b] w4).setCell (p := ⟨b, 1, none⟩) (.inl (by simp)) _) (fun g' h => by simp [Value.ownBlock] at h; subst h; simpa using hgb), ?_, hsz⟩
  exact (t2.more (fun a h => List.mem_cons_of_mem _ h)).setCell (p := ⟨b, 1, none⟩) (.inl (by simp)) _
set_option maxRecDepth 100000 in
set_option maxHeartbeats 4000000 in
theorem rPush_live (b n most : Nat) (A : Option Addr) (c : Nat) (ys : HL) (x y : Int) (w : World) (hb : Whole w b 66 #[.int .i64 most, .slice A n c]) (ho : w.ownsRow 0 53 2 (.slice A n c) n (flatH ys)) (hr : RdH w w.heap.size A ys) (hn : n = ys.length) (hu : Up ys) (h6 : ys.length ≤ most) (h7 : 0 < most) (h8 : most ≤ 256) :
    Calls Tryz.prog 9 #[.pointer (some ⟨b, 0, none⟩), .agg #[.int .u64 x, .int .i64 y]] w (RPushed b most (.slice A n c) ys (x, y) w) := by
  have mixed : Tryz.prog.follows .mixedOrders = true := by kernel_rfl
  have t0 : Turn [] w (w.alloc (.cells #[.int .u64 x, .int .i64 y] 53)) := (Turn.refl _ _).alloc _
  have W0 := Whole.new w 53 #[.int .u64 x, .int .i64 y]
  have hb0 := hb.turn t0 (by simp)
  have hr0 := (hr.below (t0.below (B := w.heap.size) (by simp) (Nat.le_refl _)))
  have c1 : (w.alloc (.cells #[.int .u64 x, .int .i64 y] 53)).cell? ⟨b, 1, none⟩ = some (.slice A n c) := hb0.cell 1
  have c0 : (w.alloc (.cells #[.int .u64 x, .int .i64 y] 53)).cell? ⟨b, 0, none⟩ = some (.int .i64 most) := hb0.cell 0
  have HN := Lib.hid hn
  have HB := Lib.hid (⟨hb, ho, hr, hu, h6⟩ : _ ∧ _ ∧ _ ∧ _ ∧ _)
  have hn256 : n ≤ 256 := by omega
  have hb1 : b < w.heap.size := hb.lt
  clear hb ho hr hn hu h6
  go_enter Tryz.func9, Tryz.ntmps9
  go_wp2
  generalize w.alloc (.cells #[.int .u64 x, .int .i64 y] 53) = w0 at t0 W0 hb0 hr0 c1 c0 ⊢
  generalize hp : w.heap.size = p at W0 ⊢
  have HP := Lib.hid hp
  clear hp
  have HB0 := Lib.hid (⟨t0, W0, hb0, hr0⟩ : _ ∧ _ ∧ _ ∧ _)
  have px := W0.cell 0
  have px' : w0.cell? ⟨p, 0, none⟩ = some (.int .u64 x) := px
  clear t0 W0 hb0 hr0 px
  go_loopg [5] n (fun g1 s wr => ∃ i q : Nat, s = .int .i64 i ∧ i ≤ n ∧ n - i ≤ g1 ∧ wr = w0.drewN q ∧ Hid (∀ k, k < i → (ids ys)[k]? ≠ some x))
  case atStart => exact ⟨0, 0, rfl, by omega, by omega, rfl, (fun k h => absurd h (by omega) : _)⟩
  case round =>
    obtain ⟨i, q, rfl, hi, hg1, rfl, HK⟩ := hrel
    by_cases hlt : i < n
    · obtain ⟨bb, off, x1, x2, rfl, hbs, cx, cx', hv⟩ := HB0.out.2.2.2.at_ (i := i) (by have := HN.out; omega)
      have hz : (i : Int) < (n : Int) := by omega
      have hz0 : (0 : Int) ≤ (i : Int) := by omega
      by_cases he : x1 = x
      · subst he
        have hmem : x1 ∈ ids ys := List.mem_of_getElem? (idAt hv.out)
        have HTK : Hid (tookH most ys (x1, y) = false) := by show _ = _; unfold tookH; rw [decide_eq_true hmem]; rfl
        have HPU : Hid (pushH most ys (x1, y) = ys) := by show _ = _; unfold pushH; rw [HTK.out]; rfl
        have eb : (x1 == x1) = true := by simp
        clear hmem hv
        go_wp2
        go_quiet (fail)
        go_wp2
        go_ret
        have tt := HB0.out.1.trans (((Turn.refl [] w0).drewN q).drewN nq) (fun a ha => by simp at ha)
        refine ⟨by rw [HTK.out]; rfl, _, n, HB.out.1.turn tt (by simp), ?_, tt.more (fun a ha => by simp at ha), fun g hg => .inl hg⟩
        rw [HPU.out]
        exact own_turn HB.out.2.1 tt (fun _ _ => by simp)
      · have eb : (x1 == x) = false := by simpa using he
        have HK2 : Hid (∀ k, k < i + 1 → (ids ys)[k]? ≠ some x) := fun k h => by
          rcases Nat.lt_or_ge k i with h1 | h1
          · exact HK.out k h1
          · obtain rfl : k = i := by omega
            rw [idAt hv.out]
            intro e
            injection e with e
            exact he e
        clear he hv
        go_wp2
        go_quiet (fail)
        go_wp2
        go_roundg (n - (i + 1))
        case measure => omega
        case rel => exact ⟨i + 1, _, by go_num, by omega, by omega, rfl, HK2⟩
    · have hz : ¬ (i : Int) < (n : Int) := by omega
      obtain rfl : i = n := by omega
      have HNM : Hid (x ∉ ids ys) := fun hm => by
        obtain ⟨k, hk, e⟩ := List.getElem_of_mem hm
        refine HK.out k ?_ (by rw [List.getElem?_eq_getElem hk, e])
        have := HN.out
        simp [ids] at hk
        omega
      have tq := (Turn.refl [] w0).drewN q
      have HB1 := Lib.hid (⟨HB0.out.1.trans tq (fun a ha => by simp at ha), HB0.out.2.1.turn tq (by simp), HB0.out.2.2.1.turn tq (by simp)⟩ : _ ∧ _ ∧ _)
      clear HK HB0 tq c0 c1 px' hlt
      generalize w0.drewN q = w1 at HB1 ⊢
      obtain ⟨T1, W1, hb1⟩ := HB1.out
      have c1 : w1.cell? ⟨b, 1, none⟩ = some (.slice A i c) := hb1.cell 1
      have c0 : w1.cell? ⟨b, 0, none⟩ = some (.int .i64 most) := hb1.cell 0
      -- rcases_cases_here
      go_wp2
      have hs2 := HB.out.2.2.2.1
      have hl6 := HB.out.2.2.2.2
      have HU := Lib.hid (⟨hs2, hl6⟩ : _ ∧ _)
      clear hs2 hl6
      have ho1 := own_turn HB.out.2.1 T1 (fun _ _ => by simp)
      have k0 := fun n os => cell_grow c0 n os
      have k1 := fun n os => cell_grow c1 n os
      have kx := fun n os => cell_grow (p := ⟨p, 0, none⟩) (v := .int .u64 x) (W1.cell 0) n os
      have ky := fun n os => cell_grow (p := ⟨p, 1, none⟩) (v := .int .i64 y) (W1.cell 1) n os
      have HO1 := Lib.hid ho1
      clear T1 W1 hb1 c0 c1 ho1
      by_cases hfull : i = most
      · subst hfull
        obtain ⟨q, rfl⟩ : ∃ q, i = q + 1 := ⟨i - 1, by omega⟩
        obtain ⟨g, c', hv, _⟩ := HO1.out.form (by omega)
        obtain ⟨rfl, rfl⟩ : A = some ⟨g, 0, none⟩ ∧ c = c' := by injection hv with q1 q2 q3; exact ⟨q1, q3⟩
        obtain ⟨R, hn', _⟩ := own_rowK HO1.out
        have kk := cellsH R.hH (i := q) (by simp; omega)
        have el : ys.toArray[q]! = lastH ys := by
          have h1 := split_last (ys := ys) (by omega)
          rw [getL]
          conv => lhs; rw [← h1]
          rw [List.getElem?_append_right (by rw [List.length_dropLast]; omega), List.length_dropLast, ← hn']
          simp
        rw [el] at kk
        obtain ⟨z1, z2, hzl⟩ : ∃ z1 z2, lastH ys = (z1, z2) := ⟨_, _, rfl⟩
        rw [hzl] at kk
        have kz1 := fun n os => cell_grow kk.1 n os
        have kz2 := fun n os => cell_grow kk.2 n os
        have HZL := Lib.hid hzl
        clear R hn' kk el hzl hv
        have zt : ((q : Int) + 1 == (q : Int) + 1) = true := by simp
        have bq0 : (0 : Int) ≤ (q : Int) := by omega
        have bq1 : (q : Int) < (q : Int) + 1 := by omega
        have hwq : IntKind.i64.wrap (q : Int) = (q : Int) := by rw [IntKind.wrap_i64]; omega
        cases hlz : ltH (x, y) (z1, z2) with
        | false =>
          have HLS : Hid (∀ n' os', Calls Tryz.prog 25 #[.agg #[.int .u64 x, .int .i64 y], .agg #[.int .u64 z1, .int .i64 z2]] (grow (w1.drewN n') os') fun e w' => e = .returned (.bool false) ∧ ∃ q os'', w' = grow ((grow (w1.drewN n') os').drewN q) os'') := fun n' os' => by
            have := refLess_grown (x, y) (z1, z2) w1 n' os'
            rw [hlz] at this
            exact this
          have HTK : Hid (tookH (q + 1) ys (x, y) = false) := by
            show _ = _
            unfold tookH
            rw [HZL.out, hlz]
            have := HN.out
            simp [← this]
          have HPU : Hid (pushH (q + 1) ys (x, y) = ys) := by show _ = _; unfold pushH; rw [HTK.out]; rfl
          clear hlz
          refine wp_region_quiet_grown mixed (by kernel_rfl) ?_
          repeat (go_big_quiet_step (first | (go_at_call 25; with_reducible refine Calls.grown_of (HLS.out _ _))))
          refine wpQuiet_nil ?_
          intro _ hw'
          obtain ⟨⟨nq', osq⟩, hw''⟩ := hw'
          subst hw''
          go_wp2
          go_ret
          have tt := HB1.out.1.trans (turn_grow w1 nq' osq) (fun a ha => by simp at ha)
          refine ⟨by rw [HTK.out]; rfl, _, q + 1, HB.out.1.turn tt (by simp), ?_, tt.more (fun a ha => by simp at ha), fun g hg => .inl hg⟩
          rw [HPU.out]
          exact own_turn HB.out.2.1 tt (fun _ _ => by simp)
        | true =>
          have HLS : Hid (∀ n' os', Calls Tryz.prog 25 #[.agg #[.int .u64 x, .int .i64 y], .agg #[.int .u64 z1, .int .i64 z2]] (grow (w1.drewN n') os') fun e w' => e = .returned (.bool true) ∧ ∃ q os'', w' = grow ((grow (w1.drewN n') os').drewN q) os'') := fun n' os' => by
            have := refLess_grown (x, y) (z1, z2) w1 n' os'
            rw [hlz] at this
            exact this
          have HTK : Hid (tookH (q + 1) ys (x, y) = true) := by
            show _ = _
            unfold tookH
            rw [HZL.out, hlz, decide_eq_false HNM.out]
            simp
          clear hlz
          refine wp_region_quiet_grown mixed (by kernel_rfl) ?_
          repeat (go_big_quiet_step (first | (go_at_call 25; with_reducible refine Calls.grown_of (HLS.out _ _))))
          refine wpQuiet_nil ?_
          intro _ hw'
          obtain ⟨⟨nq', osq⟩, hw''⟩ := hw'
          subst hw''
          clear k0 k1 kx ky kz1 kz2 HLS hwq zt
          have t2 := turn_grow w1 nq' osq
          have T2 := HB1.out.1.trans t2 (fun a ha => by simp at ha)
          have W2 := HB1.out.2.1.turn t2 (by simp)
          have hb2 := HB1.out.2.2.turn t2 (by simp)
          have ho2 := own_turn HO1.out t2 (fun _ _ => by simp)
          clear t2
          generalize grow (w1.drewN nq') osq = w2 at T2 W2 hb2 ho2 ⊢
          obtain ⟨i0, hi0, hz0, hz1, hz2⟩ := info_parts Tryz.info53k
          have hlt2 := hb2.lt
          have c0 : w2.cell? ⟨b, 1, none⟩ = some (.slice (some ⟨g, 0, none⟩) (q + 1) c) := hb2.cell 1
          have f0 := hb2.frozen 1
          have e0 : w2.cell? ⟨p, 0, none⟩ = some (.int .u64 x) := W2.cell 0
          have e0' : w2.cell? ⟨p, 1, none⟩ = some (.int .i64 y) := W2.cell 1
          have hrow : (Value.slice (some ⟨g, 0, none⟩) (q + 1) c).ownBlock ≠ some b := own_apart ho2 hb2 (by decide)
          have K1 : Hid (∀ X, (w2.alloc X).drew.cell? ⟨b, 1, none⟩ = some (.slice (some ⟨g, 0, none⟩) (q + 1) c) ∧ (w2.alloc X).drew.frozen? ⟨b, 1, none⟩ = false) := fun X =>
            ⟨(World.cell?_alloc_lt w2 X ⟨b, 1, none⟩ hlt2).trans c0, (World.frozen?_of_block (w := w2) (w' := w2.alloc X) (Below.heap_alloc w2 X b hlt2)).trans f0⟩
          have hpl := W2.lt
          have HSO : Hid (∀ (w3 : World) gg gcap, w3.ownsRow 0 53 2 (.slice (some ⟨gg, 0, none⟩) ((q + 1) + 1) gcap) ((q + 1) + 1) (flatH ys ++ [.int .u64 x, .int .i64 y]) →
              Calls Tryz.prog 26 #[.slice (some ⟨gg, 0, none⟩) ((q + 1) + 1) gcap] w3 fun e w' => ∃ gs cs, e = .returned (.slice (some ⟨gs, 0, none⟩) ((q + 1) + 1) cs) ∧ w'.ownsRow 0 53 2 (.slice (some ⟨gs, 0, none⟩) ((q + 1) + 1) cs) ((q + 1) + 1) (flatH (srt (ys ++ [(x, y)]))) ∧ w3.heap.size ≤ gs ∧ Below w3.heap.size w3 w') := fun w3 gg gcap h => by
            have h' : w3.ownsRow 0 53 2 (.slice (some ⟨gg, 0, none⟩) ((q + 1) + 1) gcap) ((q + 1) + 1) (flatH (ys ++ [(x, y)])) := by rw [flatH_app]; exact h
            refine (refSort_any (some ⟨gg, 0, none⟩) gcap (ys ++ [(x, y)]) ((q + 1) + 1) (by have := HN.out; simp; omega) w3 (rdH_own h') (by have := HN.out; simp; omega)).mono ?_
            rintro e w' ⟨S, rfl, hS, hB⟩
            obtain ⟨gs, cs, rfl, hgs, _⟩ := hS.form (by omega)
            exact ⟨gs, cs, rfl, own_base hS, hgs, hB⟩
          have HB2 := Lib.hid (⟨T2, hb2, ho2⟩ : _ ∧ _ ∧ _)
          clear T2 W2 hb2
          go_wp2
          go_region_law
            (first
              | (refine step_append_lies _ (by rfl) _ _ _ (by rfl) 0 53 i0 _ 2 16 Tryz.underlying30 hi0 hz0 hz1 hz2 rfl (by omega) (.slice (some ⟨g, 0, none⟩) (q + 1) c) (q + 1) (flatH ys) (by rfl) ((ho2.alloc _).drew)
                  ⟨w2.heap.size, 0, none⟩ 1 1 [.int .u64 x, .int .i64 y] (by rfl) (by rfl) (World.news_of_block (cs := #[.int .u64 x, .int .i64 y]) (t := 53) (fr := (0, 0)) (heap_alloc_new w2 _)) (by simp [Value.oneCell'])
                  (by omega) (by unfold maxLen; omega) (by omega) (by simp) (w2.heap.size + 1) (by simp) ?_; intro gg gcap w3 hown3 hgrow3 hat3 hlt3; have hs3 : b < w3.heap.size := Nat.lt_of_lt_of_le (show b < (w2.alloc _).drew.heap.size by simp; omega) hgrow3.size; have e1 := (hgrow3.cell_far (a := ⟨b, 1, none⟩) (by simp; omega) (Ne.symm hrow)).trans (K1.out _).1; have e2 := (hgrow3.frozen_far (a := ⟨b, 1, none⟩) (by simp; omega) (Ne.symm hrow)).trans (K1.out _).2)
              | (go_simp; go_at_call 26; refine (HSO.out _ _ _ hown3).mono ?_; rintro e w4 ⟨gs, cs, rfl, hS, hgs, hB4⟩; have e3 := (hB4.cell (p := ⟨b, 1, none⟩) hs3).trans e1; have e4 := (hB4.frozen (p := ⟨b, 1, none⟩) hs3).trans e2))
          all_goals
            obtain ⟨hb5, ho5, t5, hg5⟩ := rpush_end HB2.out.2.1 hrow hgrow3 hB4 hgs hS
            have T5 := (HB2.out.1.more (B := b :: (Value.slice (some ⟨g, 0, none⟩) (q + 1) c).ownBlock.toList) (fun a ha => by simp at ha)).trans t5 (fun a ha => .inl ha)
            have HE := Lib.hid (⟨hb5, ho5, T5, Nat.le_trans HB2.out.1.size hg5⟩ : _ ∧ _ ∧ _ ∧ _)
            have c0 : (w4.setCell ⟨b, 1, none⟩ (.slice (some ⟨gs, 0, none⟩) ((q + 1) + 1) cs)).cell? ⟨b, 0, none⟩ = some (.int .i64 ((q + 1 : Nat) : Int)) := hb5.cell 0
            have c1 : (w4.setCell ⟨b, 1, none⟩ (.slice (some ⟨gs, 0, none⟩) ((q + 1) + 1) cs)).cell? ⟨b, 1, none⟩ = some (.slice (some ⟨gs, 0, none⟩) ((q + 1) + 1) cs) := hb5.cell 1
            have f1 := hb5.frozen 1
            have hlc := (own_rowK ho5).2.2
            clear hb5 ho5 t5 hg5 T5 hown3 hgrow3 hat3 hlt3 hs3 e1 e2 hS hgs hB4 e3 e4 K1 HSO ho2 hrow hi0 hz0 hz1 hz2
            generalize w4.setCell ⟨b, 1, none⟩ (.slice (some ⟨gs, 0, none⟩) ((q + 1) + 1) cs) = w5 at HE c0 c1 f1 ⊢
            clear e0 e0' f0 hpl hlt2
            have zz : decide ((q : Int) + 1 < (q : Int) + 1 + 1) = true := decide_eq_true (by omega)
            have z1 : (0 : Int) ≤ (q : Int) + 1 := by omega
            have z2 : (q : Int) + 1 ≤ (cs : Int) := by omega
            have z3 : ((q : Int) + 1).toNat = q + 1 := by omega
            go_wp2
            go_quiet (fail)
            have t6 := (Turn.refl [] w5).drewN nq
            have HE6 := Lib.hid (⟨HE.out.1.turn t6 (by simp), own_turn HE.out.2.1 t6 (fun _ _ => by simp), HE.out.2.2.1.trans t6 (fun a ha => by simp at ha), HE.out.2.2.2⟩ : _ ∧ _ ∧ _ ∧ _)
            clear t6 HE c0 c1 f1
            generalize w5.drewN nq = w6 at HE6 ⊢
            have c0 : w6.cell? ⟨b, 0, none⟩ = some (.int .i64 ((q + 1 : Nat) : Int)) := HE6.out.1.cell 0
            have c1 : w6.cell? ⟨b, 1, none⟩ = some (.slice (some ⟨gs, 0, none⟩) (q + 1 + 1) cs) := HE6.out.1.cell 1
            have f1 := HE6.out.1.frozen 1
            rw [show ((q + 1 : Nat) : Int) = (q : Int) + 1 from rfl] at c0
            go_wp2
            go_region
            go_wp2
            go_ret
            obtain ⟨hb6, ho6, T6, hg6⟩ := HE6.out
            have hgb : gs ≠ b := by omega
            have t7 : Turn [b] w6 (w6.setCell ⟨b, 1, none⟩ (.slice (some ⟨gs, 0, none⟩) (q + 1) cs)).drew := ((Turn.refl _ _).setCell (p := ⟨b, 1, none⟩) (.inl (by simp)) _).drew
            have hb7 : Whole (w6.setCell ⟨b, 1, none⟩ (.slice (some ⟨gs, 0, none⟩) (q + 1) cs)).drew b 66 #[.int .i64 ((q + 1 : Nat) : Int), .slice (some ⟨gs, 0, none⟩) (q + 1) cs] := by
              have := hb6.set 1 (.slice (some ⟨gs, 0, none⟩) (q + 1) cs)
              show Whole (w6.setCell ⟨b, 1, none⟩ (.slice (some ⟨gs, 0, none⟩) (q + 1) cs)) b 66 _
              simpa using this
            have ho7 := own_turn (own_shrink (c := q + 1) (by omega) ho6) t7 (fun g' hg' => by simp [Value.ownBlock] at hg'; subst hg'; simpa using hgb)
            rw [flatH_take, ref_push HNM.out HU.out.1 HU.out.2 h7] at ho7
            refine ⟨by rw [HTK.out]; rfl, _, q + 1, hb7, ho7, T6.trans t7 (fun a ha => .inl (by simp at ha; simp [ha])), fun g' hg' => ?_⟩
            simp [Value.ownBlock] at hg'
            subst hg'
            exact .inr hg6
      · have HTK : Hid (tookH most ys (x, y) = true) := by
          show _ = _
          unfold tookH
          rw [decide_eq_false HNM.out]
          have := HN.out
          simp [← this, hfull]
        have zt : ((i : Int) == (most : Int)) = false := beq_false_of_ne (by omega)
        refine wp_region_quiet_grown mixed (by kernel_rfl) ?_
        repeat (go_big_quiet_step (fail))
        refine wpQuiet_nil ?_
        intro _ hw'
        obtain ⟨⟨nq', osq⟩, hw''⟩ := hw'
        subst hw''
        clear k0 k1 kx ky zt
        have t2 := turn_grow w1 nq' osq
        have T2 := HB1.out.1.trans t2 (fun a ha => by simp at ha)
        have W2 := HB1.out.2.1.turn t2 (by simp)
        have hb2 := HB1.out.2.2.turn t2 (by simp)
        have ho2 := own_turn HO1.out t2 (fun _ _ => by simp)
        clear t2
        generalize grow (w1.drewN nq') osq = w2 at T2 W2 hb2 ho2 ⊢
        obtain ⟨i0, hi0, hz0, hz1, hz2⟩ := info_parts Tryz.info53k
        have hlt2 := hb2.lt
        have c0 : w2.cell? ⟨b, 1, none⟩ = some (.slice A i c) := hb2.cell 1
        have f0 := hb2.frozen 1
        have e0 : w2.cell? ⟨p, 0, none⟩ = some (.int .u64 x) := W2.cell 0
        have e0' : w2.cell? ⟨p, 1, none⟩ = some (.int .i64 y) := W2.cell 1
        have hrow : (Value.slice A i c).ownBlock ≠ some b := own_apart ho2 hb2 (by decide)
        have K1 : Hid (∀ X, (w2.alloc X).drew.cell? ⟨b, 1, none⟩ = some (.slice A i c) ∧ (w2.alloc X).drew.frozen? ⟨b, 1, none⟩ = false) := fun X =>
          ⟨(World.cell?_alloc_lt w2 X ⟨b, 1, none⟩ hlt2).trans c0, (World.frozen?_of_block (w := w2) (w' := w2.alloc X) (Below.heap_alloc w2 X b hlt2)).trans f0⟩
        have hpl := W2.lt
        have HSO : Hid (∀ (w3 : World) gg gcap, w3.ownsRow 0 53 2 (.slice (some ⟨gg, 0, none⟩) (i + 1) gcap) (i + 1) (flatH ys ++ [.int .u64 x, .int .i64 y]) →
            Calls Tryz.prog 26 #[.slice (some ⟨gg, 0, none⟩) (i + 1) gcap] w3 fun e w' => ∃ gs cs, e = .returned (.slice (some ⟨gs, 0, none⟩) (i + 1) cs) ∧ w'.ownsRow 0 53 2 (.slice (some ⟨gs, 0, none⟩) (i + 1) cs) (i + 1) (flatH (srt (ys ++ [(x, y)]))) ∧ w3.heap.size ≤ gs ∧ Below w3.heap.size w3 w') := fun w3 gg gcap h => by
          have h' : w3.ownsRow 0 53 2 (.slice (some ⟨gg, 0, none⟩) (i + 1) gcap) (i + 1) (flatH (ys ++ [(x, y)])) := by rw [flatH_app]; exact h
          refine (refSort_any (some ⟨gg, 0, none⟩) gcap (ys ++ [(x, y)]) (i + 1) (by have := HN.out; simp; omega) w3 (rdH_own h') (by have := HN.out; simp; omega)).mono ?_
          rintro e w' ⟨S, rfl, hS, hB⟩
          obtain ⟨gs, cs, rfl, hgs, _⟩ := hS.form (by omega)
          exact ⟨gs, cs, rfl, own_base hS, hgs, hB⟩
        have HB2 := Lib.hid (⟨T2, hb2, ho2⟩ : _ ∧ _ ∧ _)
        clear T2 W2 hb2
        go_wp2
        go_region_law
          (first
            | (refine step_append_lies _ (by rfl) _ _ _ (by rfl) 0 53 i0 _ 2 16 Tryz.underlying30 hi0 hz0 hz1 hz2 rfl (by omega) (.slice A i c) i (flatH ys) (by rfl) ((ho2.alloc _).drew)
                ⟨w2.heap.size, 0, none⟩ 1 1 [.int .u64 x, .int .i64 y] (by rfl) (by rfl) (World.news_of_block (cs := #[.int .u64 x, .int .i64 y]) (t := 53) (fr := (0, 0)) (heap_alloc_new w2 _)) (by simp [Value.oneCell'])
                (by omega) (by unfold maxLen; omega) (by omega) (by simp) (w2.heap.size + 1) (by simp) ?_; intro gg gcap w3 hown3 hgrow3 hat3 hlt3; have hs3 : b < w3.heap.size := Nat.lt_of_lt_of_le (show b < (w2.alloc _).drew.heap.size by simp; omega) hgrow3.size; have e1 := (hgrow3.cell_far (a := ⟨b, 1, none⟩) (by simp; omega) (Ne.symm hrow)).trans (K1.out _).1; have e2 := (hgrow3.frozen_far (a := ⟨b, 1, none⟩) (by simp; omega) (Ne.symm hrow)).trans (K1.out _).2)
            | (go_simp; go_at_call 26; refine (HSO.out _ _ _ hown3).mono ?_; rintro e w4 ⟨gs, cs, rfl, hS, hgs, hB4⟩; have e3 := (hB4.cell (p := ⟨b, 1, none⟩) hs3).trans e1; have e4 := (hB4.frozen (p := ⟨b, 1, none⟩) hs3).trans e2))
        all_goals
          obtain ⟨hb5, ho5, t5, hg5⟩ := rpush_end HB2.out.2.1 hrow hgrow3 hB4 hgs hS
          have T5 := (HB2.out.1.more (B := b :: (Value.slice A i c).ownBlock.toList) (fun a ha => by simp at ha)).trans t5 (fun a ha => .inl ha)
          have HE := Lib.hid (⟨hb5, ho5, T5, Nat.le_trans HB2.out.1.size hg5⟩ : _ ∧ _ ∧ _ ∧ _)
          have c0 : (w4.setCell ⟨b, 1, none⟩ (.slice (some ⟨gs, 0, none⟩) (i + 1) cs)).cell? ⟨b, 0, none⟩ = some (.int .i64 most) := hb5.cell 0
          have c1 : (w4.setCell ⟨b, 1, none⟩ (.slice (some ⟨gs, 0, none⟩) (i + 1) cs)).cell? ⟨b, 1, none⟩ = some (.slice (some ⟨gs, 0, none⟩) (i + 1) cs) := hb5.cell 1
          have f1 := hb5.frozen 1
          have hlc := (own_rowK ho5).2.2
          clear hb5 ho5 t5 hg5 T5 hown3 hgrow3 hat3 hlt3 hs3 e1 e2 hS hgs hB4 e3 e4 K1 HSO ho2 hrow hi0 hz0 hz1 hz2
          generalize w4.setCell ⟨b, 1, none⟩ (.slice (some ⟨gs, 0, none⟩) (i + 1) cs) = w5 at HE c0 c1 f1 ⊢
          clear e0 e0' f0 hpl hlt2
          have him : i < most := by have h1 := HU.out.2; have h2 := HN.out; omega
          have zz : decide ((most : Int) < (i : Int) + 1) = false := decide_eq_false (by omega)
          go_wp2
          go_quiet (fail)
          go_wp2
          go_ret
          have t6 := (Turn.refl [] w5).drewN nq
          have hpu : pushH most ys (x, y) = srt (ys ++ [(x, y)]) := by
            rw [← ref_push HNM.out HU.out.1 HU.out.2 h7, List.take_of_length_le (by rw [srt_len]; have := HN.out; simp; omega)]
          refine ⟨by rw [HTK.out]; rfl, _, i + 1, HE.out.1.turn t6 (by simp), ?_, HE.out.2.2.1.trans t6 (fun a ha => by simp at ha), fun g hg => ?_⟩
          · rw [hpu]
            exact own_turn HE.out.2.1 t6 (fun _ _ => by simp)
          · simp [Value.ownBlock] at hg
            subst hg
            exact .inr HE.out.2.2.2
/-- Push, of any hit, of any heap of the document's. -/
theorem rPush (rv : Value) (G : List Nat) (most : Nat) (ys : HL) (x y : Int) (w : World) (h : RG w rv G most ys) :
    Calls Tryz.prog 9 #[rv, .agg #[.int .u64 x, .int .i64 y]] w fun e w' => e = .returned (.bool (tookG most ys (x, y))) ∧ ∃ G', RG w' rv G' most (pushG most ys (x, y)) ∧ Turn G w w' ∧ ∀ f ∈ G', f ∈ G ∨ w.heap.size ≤ f := by
  rcases h with ⟨rfl, rfl, rfl, rfl⟩ | ⟨b, v, n, rfl, h2, h3, rfl, h5, h6, h7, h8⟩
  · exact (rPush_none x y w).mono fun e w' hh => ⟨hh.1, [], .inl ⟨rfl, rfl, rfl, rfl⟩, hh.2, fun f hf => by simp at hf⟩
  · obtain ⟨A, c, rfl, hn, hr⟩ := own_sliceH h3
    refine (rPush_live b n most A c ys x y w h2 h3 hr hn h5 h6 h7 h8).mono ?_
    rintro e w' ⟨k1, v', n', k2, k3, k4, k5⟩
    have hm : most ≠ 0 := by omega
    refine ⟨by rw [k1]; simp [tookG, hm], b :: v'.ownBlock.toList, .inr ⟨b, v', n', rfl, k2, by simpa [pushG, hm] using k3, rfl, ?_, ?_, h7, h8⟩, k4, fun f hf => ?_⟩
    · simp only [pushG, if_neg hm]
      unfold pushH
      split
      · exact up_srt _
      · exact h5
    · simp only [pushG, if_neg hm]
      unfold pushH
      split
      · rw [srt_len, List.length_append, List.length_singleton]
        split
        · rw [List.length_dropLast]; omega
        · omega
      · exact h6
    · simp only [List.mem_cons, Option.mem_toList] at hf ⊢
      rcases hf with rfl | hf
      · exact .inl (.inl rfl)
      · rcases k5 f hf with h | h
        · exact .inl (.inr h)
        · exact .inr h
end Go.Proofs.YtaempklgmoabcaaGreat
