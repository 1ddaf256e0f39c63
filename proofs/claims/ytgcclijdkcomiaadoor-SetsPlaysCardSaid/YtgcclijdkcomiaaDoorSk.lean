/- The walks of numbersFrom and Next. -/
import Derived.Test.YtgcclijdkcomiaaDoorSj
namespace Go.Proofs.YtgcclijdkcomiaaDoor
open Go.RowKit Go.Shelf
set_option linter.unusedVariables false
attribute [local go_sem] Oper.semAt_some

/-- What wordsFrom answers of a set at p from n on: words vs that the rule K keeps. -/
structure Src (K : Nat → TypeId → Prop) (w : World) (p : Option Addr) (n : Nat) (vs : List Nat) : Prop where
  calls : ∀ W', Below w.heap.size w W' → Calls Tryd.prog 31 #[.pointer p, .int .i64 n] W' fun e w' => (∃ A', e = .returned (.slice A' vs.length vs.length) ∧ WordsAt K W' A' vs) ∧ ∃ k, w' = W'.drewN k
  lt : ∀ x ∈ vs, x < 18446744073709551616
  len : vs.length ≤ 32
  small : 0 < vs.length → n ≤ 4096
theorem Src.below {K : Nat → TypeId → Prop} {w w1 : World} {p : Option Addr} {n : Nat} {vs : List Nat} (h : Src K w p n vs) (k : Below w.heap.size w w1) : Src K w1 p n vs :=
  ⟨fun W' hW' => h.calls W' (k.trans (hW'.mono k.size)), h.lt, h.len, h.small⟩
theorem src_none (K : Nat → TypeId → Prop) (w : World) (n : Nat) : Src K w none n [] :=
  ⟨fun W' _ => (wordsFrom_none n W').mono fun e w' ⟨h1, h2⟩ => ⟨⟨none, h1, fun h => by simp at h⟩, h2⟩, fun x h => by simp at h, by simp, fun h => by simp at h⟩
theorem src_empty (K : Nat → TypeId → Prop) (w : World) (b : Nat) (A : Option Addr) (bound n : Nat) (hn : n ≤ 9223372036854775807) (h : SetR w b A bound []) : Src K w (some ⟨b, 0, none⟩) n [] :=
  ⟨fun W' hW' => (wordsFrom_any b A bound [] n W' (h.below hW') hn).mono fun e w' ⟨⟨A', h1, h3⟩, h2⟩ => ⟨⟨A', by simpa using h1, fun h => by simp at h⟩, h2⟩, fun x h => by simp at h, by simp, fun h => by simp at h⟩
theorem src_set (K : Nat → TypeId → Prop) (w : World) (b g bound : Nat) (ws : List Nat) (n : Nat) (hn : n ≤ 9223372036854775807) (h : SetAt w b g bound ws) (hK : K g 67) : Src K w (some ⟨b, 0, none⟩) n (ws.drop (min (n / 64) ws.length)) := by
  have hl : ws.length ≤ 32 := by rw [h.ok.len]; have := h.ok.le; omega
  refine ⟨fun W' hW' => ?_, fun x hx => h.ok.lt x (List.mem_of_mem_drop hx), by rw [List.length_drop]; omega, fun h1 => by rw [List.length_drop] at h1; omega⟩
  have h' : SetAt W' b g bound ws := h.turn (F := []) (Turn.of_below hW') (by simp) (by simp)
  refine (wordsFrom_any b _ bound ws n W' h'.rd hn).mono fun e w' ⟨⟨A', h1, h3⟩, h2⟩ => ⟨⟨A', h1, fun hpos => ?_⟩, h2⟩
  rw [List.length_drop] at hpos
  have hq : n / 64 < ws.length := by omega
  have hA := h3.2 hq
  have ea : (⟨g, 0, none⟩ : Addr).add (n / 64) = ⟨g, n / 64, none⟩ := by
    unfold Addr.add
    split
    · rename_i h0; rw [h0]
    · simp
  rw [Option.map_some, ea] at hA
  refine ⟨g, n / 64, rowU ws, (0, 0), hA, hK, h'.row, fun i hi => ?_⟩
  rw [List.length_drop] at hi
  have hi2 : n / 64 + i < ws.length := by omega
  have hm : min (n / 64) ws.length = n / 64 := by omega
  rw [hm, List.getElem?_drop]
  simp [rowU, List.getElem?_eq_getElem hi2]
/-- The numbers that come. -/
def comes (n : Nat) (vs : List Nat) : List Nat := ((onesFrom 0 vs).map (n / 64 * 64 + ·)).filter (fun j => decide (n ≤ j))
theorem comes_set (ws : List Nat) (n : Nat) : comes n (ws.drop (min (n / 64) ws.length)) = tailOf ws n := (tail_words ws n).symm
theorem comes_nil (n : Nat) : comes n [] = [] := rfl

/-- What numbersFrom leaves: three boxes of its own. -/
def Boxes (p : Option Addr) (n B : Nat) (w w' : World) : Prop := Boxed w' B 23 (.pointer p) ∧ Boxed w' (B + 1) 3 (.int .i64 n) ∧ Boxed w' (B + 2) 3 (.int .i64 ((n / 64 * 64 : Nat) : Int)) ∧ Below B w w' ∧ w'.heap.size = B + 3
theorem boxes_of (p : Option Addr) (n : Nat) (a c : Int) (w : World) (ha : a = n) (hc : c = ((n / 64 * 64 : Nat) : Int)) :
    Boxes p n w.heap.size w (((w.alloc (.cells #[.pointer p] 23)).alloc (.cells #[.int .i64 a] 3)).alloc (.cells #[.int .i64 c] 3)) := by
  subst ha hc
  refine ⟨((Boxed.new w 23 _).alloc _).alloc _, ?_, ?_, (((Below.refl _ w).alloc (Nat.le_refl _) _).alloc (by simp) _).alloc (by simp; omega) _, by simp⟩
  · have := (Boxed.new (w.alloc (.cells #[.pointer p] 23)) 3 (.int .i64 n)).alloc (.cells #[.int .i64 ((n / 64 * 64 : Nat) : Int)] 3)
    rw [World.size_alloc] at this
    exact this
  · have := Boxed.new ((w.alloc (.cells #[.pointer p] 23)).alloc (.cells #[.int .i64 n] 3)) 3 (.int .i64 ((n / 64 * 64 : Nat) : Int))
    rw [World.size_alloc, World.size_alloc] at this
    exact this
set_option maxRecDepth 100000 in
theorem numbersFrom_any (p : Option Addr) (n : Int) (hn : n ≤ 9223372036854775807) (w : World) :
    Calls Tryd.prog 30 #[.pointer p, .int .i64 n] w fun e w' => e = .returned (.func (.func 70) #[] #[.pointer (some ⟨w.heap.size, 0, none⟩), .pointer (some ⟨w.heap.size + 1, 0, none⟩), .pointer (some ⟨w.heap.size + 2, 0, none⟩)]) ∧ Boxes p n.toNat w.heap.size w w' := by
  go_enter Tryd.func30, Tryd.ntmps30
  go_wp2
  all_goals
    go_ret
    exact ⟨rfl, boxes_of p _ _ _ w (by omega) (by omega)⟩
/-- The iterator's contract. -/
theorem nums_seq (m : Nat) (K : Nat → TypeId → Prop) (p : Option Addr) (n : Nat) (vs : List Nat) (B : Nat) (w0 w1 : World) (hw : Boxes p n B w0 w1) (hs : Src K w1 p n vs) (hT : TabK K w1) (k2 : K (B + 1) 3) (k3 : K (B + 2) 3) (kY : ∀ k, w1.heap.size ≤ k → K k 35) :
    SeqO Fence.wide m Tryd.prog 70 #[.pointer (some ⟨B, 0, none⟩), .pointer (some ⟨B + 1, 0, none⟩), .pointer (some ⟨B + 2, 0, none⟩)] (fun x : Nat => #[Value.int .i64 (x : Nat)]) (Keeps K) (fun xs => xs = comes n vs) (fun pre => pre <+: comes n vs) (onesFrom 0 vs).length w1 :=
  fun l J Jx W hW hl hJ hJx hY h0 => callsIn_wide.2 (callsIn_wide.1 (nums1_in m l K p n vs B (B + 1) (B + 2) hs.lt hs.len hs.small _ rfl J Jx W
    (fun W' hW' => hs.calls W' (hW.trans (hW'.mono hW.size))) (hT.kept (keeps_below hW)) ((hW.block _ hw.1.lt).trans hw.1) ((hW.block _ hw.2.1.lt).trans hw.2.1) ((hW.block _ hw.2.2.1.lt).trans hw.2.2.1) k2 k3 (kY _ hW.size) hl hJ hJx hY h0))

def headOr (l : List Nat) : Int := match l with
  | [] => -1
  | x :: _ => (x : Nat)
set_option maxRecDepth 100000 in
set_option maxHeartbeats 4000000 in
theorem next_src (p : Option Addr) (n : Int) (hn : n ≤ 9223372036854775807) (vs : List Nat) (w : World) (hs : Src (fun k _ => k ≠ w.heap.size) w p n.toNat vs) (hT : TabK (fun k _ => k ≠ w.heap.size) w) :
    CallsIn Fence.wide 9 Tryd.prog 16 #[.pointer p, .int .i64 n] w fun e w' => e = .returned (.int .i64 (headOr (comes n.toNat vs))) ∧ Below w.heap.size w w' := by
  have f30 : Fence.wide.fn 30 := trivial
  have h1 : 1 ≤ 9 := by omega
  have bR := Boxed.new w 3 (.int .i64 0)
  have hB0 : Below w.heap.size w (w.alloc (.cells #[.int .i64 0] 3)) := (Below.refl _ _).alloc (Nat.le_refl _) _
  have HN := Lib.hid (numbersFrom_any p n hn (w.alloc (.cells #[.int .i64 0] 3)))
  refine callsIn_of_wp_marks Tryd.func16 rfl trivial ?_ rfl
  simp only [Tryd.ntmps16, List.size_toArray, List.length_cons, List.length_nil, Nat.reduceAdd, Nat.reduceSub, Array.replicate_succ, Array.replicate_zero, List.push_toArray, List.append_toArray, List.nil_append, List.cons_append]
  gi_wp2_with (gi_at_call 30; refine (callsIn_wide.2 HN.out).mono ?_; rintro e w3 ⟨rfl, hbx⟩)
  simp only [World.size_alloc] at hbx
  have hB3 : Below w.heap.size w w3 := hB0.trans (hbx.2.2.2.1.mono (by omega))
  have hz3 := hbx.2.2.2.2
  have bR3 : Boxed w3 w.heap.size 3 (.int .i64 0) := (hbx.2.2.2.1.block _ (by omega)).trans bR
  refine wpIn_rangeFunc_O rfl h1 (gf := 70) (lb := #[.pointer (some ⟨w.heap.size + 1, 0, none⟩), .pointer (some ⟨w.heap.size + 1 + 1, 0, none⟩), .pointer (some ⟨w.heap.size + 1 + 2, 0, none⟩)]) rfl trivial (enters_of Tryd.func70 (by kernel_rfl) rfl)
    (nums_seq (9 - 1) (fun k _ => k ≠ w.heap.size) p n.toNat vs (w.heap.size + 1) _ w3 hbx (hs.below hB3) (hT.kept (keeps_below hB3)) (by omega) (by omega) (fun k hk => by omega)) (fun h k => Keeps.trans h k) (fun W l o o' _ h hc _ => Keeps.put W l o o' h hc) (Below.refl _ _) (fun _ => rfl)
    (fun pre W => (pre = [] ∧ Boxed W w.heap.size 3 (.int .i64 0)) ∧ Below w.heap.size w W)
    (fun c pre W => (c = .ret ∧ ∃ x : Nat, pre = [x] ∧ Boxed W w.heap.size 3 (.int .i64 x)) ∧ Below w.heap.size w W)
    (OwnFrom.and (fun s X Y row hs hg hr => ⟨hs.1, hs.2.kept hg (fun e => own_ne hs.2 hr e)⟩) (ownFrom_below (Nat.le_refl _) (by omega)))
    (fun c => OwnFrom.and (fun s X Y row hs hg hr => ⟨hs.1, by obtain ⟨x, h1, h2⟩ := hs.2; exact ⟨x, h1, h2.kept hg (fun e => own_ne h2 hr e)⟩⟩) (ownFrom_below (Nat.le_refl _) (by omega)))
    ⟨⟨rfl, bR3⟩, hB3⟩
    (fun x => { tmps := #[.pointer p, .int .i64 n, undef, undef, .pointer (some ⟨w.heap.size, 0, none⟩), .int .i64 (x : Nat), .pointer p, .int .i64 n, .func (.func 70) #[] #[.pointer (some ⟨w.heap.size + 1, 0, none⟩), .pointer (some ⟨w.heap.size + 1 + 1, 0, none⟩), .pointer (some ⟨w.heap.size + 1 + 2, 0, none⟩)], .int .i64 (x : Nat), undef], defers := [] }) ?assign ?body ?done ?stop
  case assign =>
    intro l x W K hK
    gi_wp2
    exact hK
  case body =>
    rintro l pre x W ⟨⟨rfl, hb⟩, hB⟩ _
    have hc := hb.cell
    have hf := hb.frozen
    gi_wp2
    exact ⟨(KeepsOthers.setCell _ _ _).from _, ⟨rfl, x, rfl, by simp [Boxed, heap_setCell_same W w.heap.size 0 _ 3 _ hb]⟩, hB.setCell (p := ⟨w.heap.size, 0, none⟩) (Nat.le_refl _) _⟩
  case done =>
    rintro D ys W hD hys ⟨⟨rfl, hb⟩, hB⟩ hK
    have hc := hb.cell
    have hf := hb.frozen
    gi_wp2
    have hK' := (KeepsOthers.setCell W ⟨w.heap.size, 0, none⟩ (.int .i64 (-1))).same D _ hK rfl
    refine ⟨by simp, .inl ⟨_, _, rfl, run_takeDeferred hK', ?_⟩⟩
    have hc5 := cell_kept (World.cell?_setCell_same' W ⟨w.heap.size, 0, none⟩ (.int .i64 (-1)) (by rw [hc]; rfl)) (grownBy_putObj' _ D (.deferred none)) (fun r e => by cases e; exact ⟨_, hK', rfl⟩)
    refine ⟨.int .i64 (-1), ?_, by rw [← hys]; rfl, (hB.setCell (p := ⟨w.heap.size, 0, none⟩) (Nat.le_refl _) _).trans (belowK_b (w := w) (Nat.le_refl _) _ D _ _ (by omega) hK' rfl rfl)⟩
    simp [results, Tryd.f16, go_sem, hc5]
  case stop =>
    rintro D c pre W hD hpre ⟨⟨rfl, x, rfl, hb⟩, hB⟩ hK
    gi_wp2
    refine ⟨by simp, .inl ⟨_, _, rfl, run_takeDeferred hK, ?_⟩⟩
    have hc5 := cell_kept hb.cell (grownBy_putObj' _ D (.deferred none)) (fun r e => by cases e; exact ⟨_, hK, rfl⟩)
    have hx : headOr (comes n.toNat vs) = (x : Nat) := by
      obtain ⟨t, ht⟩ := hpre
      rw [← ht]; rfl
    refine ⟨.int .i64 x, ?_, by rw [hx], hB.trans (belowK_b (w := w) (Nat.le_refl _) W D _ _ (by omega) hK rfl rfl)⟩
    simp [results, Tryd.f16, go_sem, hc5]
/-- What Next answers: the first of the numbers from n on, or -1. -/
def nextF (bound : Nat) (f : Nat → Bool) (n : Int) : Int := headOr ((List.range bound).filter (fun j => f j && decide (n.toNat ≤ j)))
theorem next_any (b g bound : Nat) (f : Nat → Bool) (n : Int) (hn : n ≤ 9223372036854775807) (w : World) (h : SetIs w b g bound f) (hT : Tab w) :
    Calls Tryd.prog 16 #[.pointer (some ⟨b, 0, none⟩), .int .i64 n] w fun e w' => e = .returned (.int .i64 (nextF bound f n)) ∧ Below w.heap.size w w' := by
  obtain ⟨ws, h1, h2⟩ := h
  have := callsIn_wide.1 (next_src _ n hn _ w (src_set _ w b g bound ws n.toNat (by omega) h1 (by have := h1.row.lt; omega)) (hT.tabK (fun _ => by have := hT.pos; omega)))
  rw [comes_set] at this
  have e : tailOf ws n.toNat = (List.range bound).filter (fun j => f j && decide (n.toNat ≤ j)) := by
    unfold tailOf
    rw [numbers_filter ws bound h1.ok.top, List.filter_filter]
    apply List.filter_congr
    intro a _
    rw [h2, Bool.and_comm]
  rw [e] at this
  exact this
theorem next_none (n : Int) (hn : n ≤ 9223372036854775807) (w : World) (hT : Tab w) : Calls Tryd.prog 16 #[.pointer none, .int .i64 n] w fun e w' => e = .returned (.int .i64 (-1)) ∧ Below w.heap.size w w' :=
  callsIn_wide.1 (next_src _ n hn [] w (src_none _ w _) (hT.tabK (fun _ => by have := hT.pos; omega)))
theorem next_empty (b : Nat) (A : Option Addr) (bound : Nat) (n : Int) (hn : n ≤ 9223372036854775807) (w : World) (h : SetR w b A bound []) (hT : Tab w) : Calls Tryd.prog 16 #[.pointer (some ⟨b, 0, none⟩), .int .i64 n] w fun e w' => e = .returned (.int .i64 (-1)) ∧ Below w.heap.size w w' :=
  callsIn_wide.1 (next_src _ n hn [] w (src_empty _ w b A bound _ (by omega) h) (hT.tabK (fun _ => by have := hT.pos; omega)))
end Go.Proofs.YtgcclijdkcomiaaDoor
