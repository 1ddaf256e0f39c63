/- The walk of All. -/
import Derived.Test.YtgcclijdkcomiaaDoorSk
import Derived.Test.YtgcclijdkcomiaaDoorGa
namespace Go.Proofs.YtgcclijdkcomiaaDoor
open Go.RowKit Go.Shelf
set_option linter.unusedVariables false
attribute [local go_sem] Oper.semAt_some

theorem Tryd.info3i : (Tryd.prog.info? 3).map (fun i => (i.zero, i.size, i.bytes)) = some (some (.int .i64 0), 1, 8) := by kernel_rfl
theorem comes_zero (vs : List Nat) : comes 0 vs = onesFrom 0 vs := by
  unfold comes
  rw [List.filter_eq_self.2 (by intro a _; simp)]
  simp
def nums (l : List Nat) : List Value := l.map fun x => Value.int .i64 (x : Nat)
/-- What All answers: a slice of its own, with the numbers. -/
def AllYes (l : List Nat) (w : World) (e : Ending) (w' : World) : Prop := ∃ g, e = .returned (.slice (some ⟨g, 0, none⟩) l.length l.length) ∧ w'.ownsRow w.heap.size 3 1 (.slice (some ⟨g, 0, none⟩) l.length l.length) l.length (nums l) ∧ Below w.heap.size w w'
set_option maxRecDepth 100000 in
set_option maxHeartbeats 4000000 in
theorem all_src (p : Option Addr) (vs : List Nat) (w : World) (hs : Src (fun k _ => k ≠ w.heap.size ∧ k ≠ w.heap.size + 1) w p 0 vs) (hT : TabK (fun k _ => k ≠ w.heap.size ∧ k ≠ w.heap.size + 1) w)
    (hLen : Calls Tryd.prog 21 #[.pointer p] w fun e w' => e = .returned (.int .i64 ((onesFrom 0 vs).length : Nat)) ∧ ∃ k, w' = w.drewN k) (hle : (onesFrom 0 vs).length ≤ 2048) :
    CallsIn Fence.wide 9 Tryd.prog 18 #[.pointer p] w (AllYes (onesFrom 0 vs) w) := by
  have f30 : Fence.wide.fn 30 := trivial
  have f21 : Fence.wide.fn 21 := trivial
  have h1 : 1 ≤ 9 := by omega
  obtain ⟨i0, hi, hz0, hz1, hz2⟩ := info_parts Tryd.info3i
  obtain ⟨L, hL⟩ : ∃ L, (onesFrom 0 vs).length = L := ⟨_, rfl⟩
  rw [hL] at hLen hle
  have HL := Lib.hid hL
  clear hL
  have HLen := Lib.hid hLen
  clear hLen
  have hmk : ∀ w : World, (Instr.makeSlice 37 (.int .i64 0) (.int .i64 (L : Int))).run Tryd.prog w = .ok (.slice (some ⟨w.heap.size, 0, none⟩) 0 L) (w.alloc (.cells (madeCells #[Value.int .i64 0] L) 3)) := fun w => by
    have := run_make (P := Tryd.prog) w 37 3 i0 (.int .i64 0) Tryd.underlying37 hi hz0 .i64 .i64 0 (L : Int) (by omega) (by omega) (by rw [hz2]; omega) (by omega)
    rw [this, hz1, Nat.mul_one, Int.toNat_natCast]; rfl
  refine callsIn_of_wp_marks Tryd.func18 rfl trivial ?_ rfl
  simp only [Tryd.ntmps18, List.size_toArray, List.length_cons, List.length_nil, Nat.reduceAdd, Nat.reduceSub, Array.replicate_succ, Array.replicate_zero, List.push_toArray, List.append_toArray, List.nil_append, List.cons_append]
  gi_wp2_with (gi_at_call 21; refine (callsIn_wide.2 HLen.out).mono ?_; rintro e w3 ⟨rfl, k, rfl⟩)
  have bB := Boxed.new ((w.drewN k).alloc (.cells (madeCells #[Value.int .i64 0] L) 3)) 37 (.slice (some ⟨w.heap.size, 0, none⟩) 0 L)
  have hown := (World.ownsRow_made (base := w.heap.size) (e := 3) (size := 1) (w.drewN k) (madeCells #[Value.int .i64 0] (L * 1)) L (by simp) (by unfold maxLen; omega) (size_madeCells _ _)).alloc (.cells #[.slice (some ⟨w.heap.size, 0, none⟩) 0 L] 37)
  rw [Nat.mul_one] at hown
  have hs2 : (((w.drewN k).alloc (.cells (madeCells #[Value.int .i64 0] L) 3)).alloc (.cells #[.slice (some ⟨w.heap.size, 0, none⟩) 0 L] 37)).heap.size = w.heap.size + 2 := by simp
  have hb2 : Below w.heap.size w (((w.drewN k).alloc (.cells (madeCells #[Value.int .i64 0] L) 3)).alloc (.cells #[.slice (some ⟨w.heap.size, 0, none⟩) 0 L] 37)) := ((below_drewN (Below.refl _ _) k).alloc (by simp) _).alloc (by simp) _
  have ez : ((w.drewN k).alloc (.cells (madeCells #[Value.int .i64 0] L) 3)).heap.size = w.heap.size + 1 := by simp
  rw [ez] at bB
  have ez2 : (w.drewN k).heap.size = w.heap.size := by simp
  rw [ez2] at hown
  clear ez ez2 hmk
  revert bB hown hs2 hb2
  generalize (((w.drewN k).alloc (.cells (madeCells #[Value.int .i64 0] L) 3)).alloc (.cells #[.slice (some ⟨w.heap.size, 0, none⟩) 0 L] 37)) = W0
  intro bB hown hs2 hb2
  have HN := numbersFrom_any p 0 (by omega) W0
  rw [hs2] at HN
  refine (callsIn_wide.2 HN).mono ?_
  rintro e w3 ⟨rfl, hbx⟩
  gi_wp2
  have hB3 : Below w.heap.size w w3 := hb2.trans (hbx.2.2.2.1.mono (by omega))
  have hz3 := hbx.2.2.2.2
  have bB3 : Boxed w3 (w.heap.size + 1) 37 (.slice (some ⟨w.heap.size, 0, none⟩) 0 L) := (hbx.2.2.2.1.block _ (by omega)).trans bB
  have hown3 : w3.ownsRow w.heap.size 3 1 (.slice (some ⟨w.heap.size, 0, none⟩) 0 L) 0 [] := own_turn hown (Turn.of_below' hbx.2.2.2.1 (by omega)) (by simp)
  refine wpIn_rangeFunc_O rfl h1 (gf := 70) (lb := #[.pointer (some ⟨w.heap.size + 2, 0, none⟩), .pointer (some ⟨w.heap.size + 2 + 1, 0, none⟩), .pointer (some ⟨w.heap.size + 2 + 2, 0, none⟩)]) rfl trivial (enters_of Tryd.func70 (by kernel_rfl) rfl)
    (nums_seq (9 - 1) (fun k _ => k ≠ w.heap.size ∧ k ≠ w.heap.size + 1) p 0 vs (w.heap.size + 2) _ w3 hbx (hs.below hB3) (hT.kept (keeps_below hB3)) (by omega) (by omega) (fun k hk => by omega)) (fun h k => Keeps.trans h k) (fun W l o o' _ h hc _ => Keeps.put W l o o' h hc) (Below.refl _ _) (fun _ => rfl)
    (fun pre W => (∃ v, Boxed W (w.heap.size + 1) 37 v ∧ W.ownsRow w.heap.size 3 1 v pre.length (nums pre) ∧ v = .slice (some ⟨w.heap.size, 0, none⟩) pre.length L) ∧ Below w.heap.size w W)
    (fun _ _ _ => False)
    (OwnFrom.and (Own.from (holdsRow_own w.heap.size (w.heap.size + 1) 37 3 1 (fun pre => pre.length) (fun pre => nums pre) (fun pre v => v = .slice (some ⟨w.heap.size, 0, none⟩) pre.length L)) _) (ownFrom_below (Nat.le_refl _) (by omega)))
    (fun _ _ _ _ _ hs _ _ => hs)
    ⟨⟨_, bB3, hown3, rfl⟩, hB3⟩
    (fun x => { tmps := #[.pointer p, undef, .slice none 0 0, .pointer (some ⟨w.heap.size + 1, 0, none⟩), .int .i64 (x : Nat), .pointer p, .int .i64 L, .slice (some ⟨w.heap.size, 0, none⟩) 0 L, .pointer p, .func (.func 70) #[] #[.pointer (some ⟨w.heap.size + 2, 0, none⟩), .pointer (some ⟨w.heap.size + 2 + 1, 0, none⟩), .pointer (some ⟨w.heap.size + 2 + 2, 0, none⟩)], .int .i64 (x : Nat), undef, undef, undef, undef, undef], defers := [] }) ?assign ?body ?done ?stop
  case assign =>
    intro l x W K hK
    gi_wp2
    exact hK
  case body =>
    rintro l pre x W ⟨⟨v, hv, hrow, rfl⟩, hB⟩ hlt
    have hc := hv.cell
    have hcap : pre.length + 1 ≤ L := by have := HL.out; omega
    gi_wp2_with (gi_at_builtin; refine wpListIn_append_fits _ rfl _ _ 37 rfl w.heap.size 3 i0 1 Tryd.underlying37 hi hz1 w.heap.size pre.length L _ rfl (hrow.alloc _) ⟨W.heap.size, 0, none⟩ 1 1 [.int .i64 (x : Nat)] rfl rfl (cell_one_new _ _ _) (by simp [Value.oneCell']) hcap ?_; intro w1 hown' hgrow; have hv1 := (hv.alloc (.cells #[.int .i64 (x : Nat)] 3)).kept hgrow (by simp); have hc1 := hv1.cell; have hf1 := hv1.frozen)
    have hws := hB.size
    have t1 : Turn [w.heap.size, w.heap.size + 1] W (w1.setCell ⟨w.heap.size + 1, 0, none⟩ (.slice (some ⟨w.heap.size, 0, none⟩) (pre.length + 1) L)) :=
      ((((Turn.refl [] W).alloc _).more (B := [w.heap.size, w.heap.size + 1]) (by simp)).trans (Turn.of_grown hgrow) (fun b hb => by simp at hb; subst hb; exact .inl (by simp))).setCell (.inl (by simp)) _
    refine ⟨((KeepsOthers.alloc W _).from _).trans ((KeepsFrom.of_grownBy hgrow (fun j e => by cases e; omega)).trans ((KeepsOthers.setCell w1 _ _).from _)),
      (Keeps.alloc _ W _).trans ((Keeps.of_grown hgrow (fun r cs t fr e _ hk => by cases e; omega)).trans (Keeps.of_grown (grownBy_setCell' w1 (w.heap.size + 1) _) (fun r cs t fr e _ hk => by cases e; omega))),
      ⟨_, ?_, ?_, rfl⟩, hB.trans (t1.below (by simp) hws)⟩
    · simp [Boxed, heap_setCell_same w1 (w.heap.size + 1) 0 _ 37 _ hv1]
    · have h2 := own_turn hown' ((Turn.refl [w.heap.size + 1] w1).setCell (p := ⟨w.heap.size + 1, 0, none⟩) (.inl (by simp)) (.slice (some ⟨w.heap.size, 0, none⟩) (pre.length + 1) L)) (fun g hg => by simp [Value.ownBlock] at hg; subst hg; simp)
      simpa [nums] using h2
  case done =>
    rintro D ys W hD hys ⟨⟨v, hv, hrow, rfl⟩, hB⟩ hK
    rw [comes_zero] at hys
    subst hys
    have hc := hv.cell
    gi_wp2
    refine ⟨by simp, .inl ⟨_, _, rfl, run_takeDeferred hK, ?_⟩⟩
    obtain rfl : (onesFrom 0 vs).length = L := HL.out
    exact ⟨_, results_tmp rfl _ _ _, w.heap.size, rfl, ownsRow_putObj hrow _ hK rfl, hB.trans (belowK_b (w := w) (Nat.le_refl _) W D _ _ (by omega) hK rfl rfl)⟩
  case stop =>
    rintro D c pre W _ _ h _
    exact h.elim
/-- The numbers of a set, rising. -/
def listF (bound : Nat) (f : Nat → Bool) : List Nat := (List.range bound).filter f
theorem onesLen_bound (ws : List Nat) (h : ws.length ≤ 32) : (onesFrom 0 ws).length ≤ 2048 := by have := onesLen_le ws 0; omega
theorem lenF_any (b g bound : Nat) (f : Nat → Bool) (w : World) (h : SetIs w b g bound f) :
    Calls Tryd.prog 21 #[.pointer (some ⟨b, 0, none⟩)] w fun e w' => e = .returned (.int .i64 ((listF bound f).length : Nat)) ∧ ∃ k, w' = w.drewN k := by
  obtain ⟨ws, h1, h2⟩ := h
  have := len_any b _ bound ws w h1.rd
  rw [numbers_filter ws bound h1.ok.top, List.filter_congr (fun a _ => h2 a)] at this
  exact this
theorem all_any (b g bound : Nat) (f : Nat → Bool) (w : World) (h : SetIs w b g bound f) (hT : Tab w) :
    Calls Tryd.prog 18 #[.pointer (some ⟨b, 0, none⟩)] w (AllYes (listF bound f) w) := by
  obtain ⟨ws, h1, h2⟩ := h
  have hl : ws.length ≤ 32 := by rw [h1.ok.len]; have := h1.ok.le; omega
  have hs := src_set (fun k _ => k ≠ w.heap.size ∧ k ≠ w.heap.size + 1) w b g bound ws 0 (by omega) h1 (by have := h1.row.lt; omega)
  rw [show 0 / 64 = 0 by rfl, Nat.zero_min, List.drop_zero] at hs
  have := callsIn_wide.1 (all_src _ ws w hs (hT.tabK (fun _ => by have := hT.pos; omega)) (len_any b _ bound ws w h1.rd) (onesLen_bound ws hl))
  rw [show onesFrom 0 ws = numbers ws by rfl, numbers_filter ws bound h1.ok.top, List.filter_congr (fun a _ => h2 a)] at this
  exact this
theorem all_none (w : World) (hT : Tab w) : Calls Tryd.prog 18 #[.pointer none] w (AllYes [] w) :=
  callsIn_wide.1 (all_src _ [] w (src_none _ w _) (hT.tabK (fun _ => by have := hT.pos; omega)) (len_none w) (by simp [onesFrom]))
theorem all_empty (b : Nat) (A : Option Addr) (bound : Nat) (w : World) (h : SetR w b A bound []) (hT : Tab w) : Calls Tryd.prog 18 #[.pointer (some ⟨b, 0, none⟩)] w (AllYes [] w) :=
  callsIn_wide.1 (all_src _ [] w (src_empty _ w b A bound _ (by omega) h) (hT.tabK (fun _ => by have := hT.pos; omega)) (len_any b A bound [] w h) (by simp [onesFrom]))
end Go.Proofs.YtgcclijdkcomiaaDoor
