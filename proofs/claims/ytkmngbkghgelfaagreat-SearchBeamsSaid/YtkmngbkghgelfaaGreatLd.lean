/- Several texts in one. -/
import Derived.Test.YtkmngbkghgelfaaGreatLb
import Derived.Test.YtkmngbkghgelfaaGreatKj
import Derived.Laws.CopyOwn
import Derived.Deep.RegionLaw
import Derived.Deep.RegionHeld3
import Derived.WalkKit
import Derived.Conc.LoneCalls
import Derived.Deep.Cut
/- The walks of math/bits.Mul and slices.Repeat at one number, as often as a graph has nodes. -/
namespace Go.Proofs.YtkmngbkghgelfaaGreat
open Go.RowKit
set_option linter.unusedVariables false
set_option maxRecDepth 100000 in
theorem mul64_any (n : Nat) (hn : n ≤ 2048) (w : World) :
    Calls Tryz.prog 147 #[.int .u64 1, .int .u64 (n : Int)] w fun e w' => e = .returned (.tuple #[.int .u64 0, .int .u64 n]) ∧ w' = w := by
  have B1 : bits BinOp.and IntKind.u64 1 4294967295 = 1 := by
    have := bits_and_u64_nat 1 4294967295 (by decide) (by decide)
    simpa using this
  have B0 : bits BinOp.and IntKind.u64 0 4294967295 = 0 := by
    have := bits_and_u64_nat 0 4294967295 (by decide) (by decide)
    simpa using this
  have B2 : bits BinOp.and IntKind.u64 (n : Int) 4294967295 = (n : Int) := by
    have := bits_and_u64_nat n 4294967295 (by omega) (by decide)
    rw [Nat.and_two_pow_sub_one_eq_mod n 32, Nat.mod_eq_of_lt (by omega)] at this
    exact this
  have D1 : (n : Int) / 4294967296 = 0 := by omega
  have W1 : IntKind.u64.wrap (n : Int) = (n : Int) := by rw [IntKind.wrap_u64]; omega
  have W0 : IntKind.u64.wrap 0 = 0 := by decide
  go_enter Tryz.func147, Tryz.ntmps147
  go_wp2
  go_ret2
  exact ⟨rfl, rfl⟩
set_option maxRecDepth 100000 in
theorem mul_any (n : Nat) (hn : n ≤ 2048) (w : World) :
    Calls Tryz.prog 140 #[.int .u64 1, .int .u64 (n : Int)] w fun e w' => e = .returned (.tuple #[.int .u64 0, .int .u64 n]) ∧ w' = w := by
  have H := Lib.hid (mul64_any n hn)
  go_enter Tryz.func140, Tryz.ntmps140
  go_wp2_with (go_at_call 147; refine (H.out _).mono ?_; rintro e w' ⟨rfl, rfl⟩)
  go_ret2
  exact ⟨rfl, rfl⟩
theorem fillK_splice {n k m : Nat} (h : k + m ≤ n) : splice ((fillK n k).map (Value.int .i64)) k ((List.replicate m (-1 : Int)).map (Value.int .i64)) = (fillK n (k + m)).map (Value.int .i64) := by
  have e1 : (fillK n k).take k = List.replicate k (-1) := by unfold fillK; rw [List.take_left' (by simp)]
  have e2 : (fillK n k).drop (k + m) = List.replicate (n - (k + m)) 0 := by
    unfold fillK
    rw [← List.drop_drop, List.drop_left' (by simp), List.drop_replicate]
    congr 1; omega
  unfold splice
  rw [← List.map_take, ← List.map_drop, List.length_map, List.length_replicate, e1, e2, ← List.map_append, ← List.map_append, ← List.append_assoc, List.replicate_append_replicate]
  rfl
set_option maxRecDepth 100000 in
set_option maxHeartbeats 4000000 in
theorem repeat_any (n : Nat) (h1 : 1 ≤ n) (hn : n ≤ 2048) (gx : Nat) (w : World) (hx : Whole w gx 3 #[.int .i64 (-1)]) :
    Calls Tryz.prog 135 #[.slice (some ⟨gx, 0, none⟩) 1 1, .int .i64 (n : Int)] w fun e w' => ∃ g, e = .returned (.slice (some ⟨g, 0, none⟩) n n) ∧ w.heap.size ≤ g ∧ Whole w' g 3 (cellsI (List.replicate n (-1))) ∧ Below w.heap.size w w' := by
  have H := Lib.hid (mul_any n hn)
  have f1 : decide ((n : Int) < 0) = false := decide_eq_false (by omega)
  have W1 : IntKind.u64.wrap (n : Int) = (n : Int) := by rw [IntKind.wrap_u64]; omega
  have W2 : IntKind.i64.wrap (n : Int) = (n : Int) := by rw [IntKind.wrap_i64]; omega
  have W3 : IntKind.u64.wrap 1 = 1 := by decide
  have f2 : decide ((9223372036854775807 : Int) < (n : Int)) = false := decide_eq_false (by omega)
  have hmk : ∀ W : World, (Instr.makeSlice 57 (.int .i64 (n : Int)) (.int .i64 (n : Int))).run Tryz.prog W = .ok (.slice (some ⟨W.heap.size, 0, none⟩) n n) (W.alloc (.cells (cellsI (List.replicate n 0)) 3)) := fun W => by
    have := run_make_row' (P := Tryz.prog) 57 3 (.int .i64 0) 8 Tryz.underlying57 Tryz.info3 (by rfl) .i64 .i64 n (by omega) (by omega) W
    rw [cellsI_made] at this
    exact this
  have hxc : w.cell? ⟨gx, 0, none⟩ = some (.int .i64 (-1)) := hx.cell 0
  have HX := Lib.hid hx
  clear hx
  go_enter Tryz.func135, Tryz.ntmps135
  obtain ⟨i0, hi, hz0, hz1, hz2⟩ := info_parts Tryz.info3
  have hsz : (Tryz.prog.info? 3).map (·.size) = some 1 := by rw [hi]; simp [hz1]
  go_wp2_with (first
    | (go_at_call 140; refine (H.out _).mono ?_; rintro e w' ⟨rfl, rfl⟩)
    | (refine wpList_copy_splice (o := ⟨some 33, .call { callee := .builtin .copy, args := #[.tmp 31, .tmp 32], argTypes := #[57, 57] }, _, _, _, _⟩) rfl (.tmp 31) (.tmp 32) 57 57 rfl 3 Tryz.underlying57 hsz (some ⟨w'.heap.size, 0, none⟩) (some ⟨gx, 0, none⟩) n n 1 1 rfl rfl w'.heap.size 0 ((fillK n 0).map (Value.int .i64)) 3 (by rw [show (fillK n 0) = List.replicate n 0 by simp [fillK]]; exact heap_alloc_new _ _) [.int .i64 (-1)] (by show 1 = Nat.min 1 n; exact (Nat.min_eq_left h1).symm) (fun _ => ⟨rfl, _, rfl, fun j v hj => by
          have hj0 : j = 0 := by rcases Nat.eq_zero_or_pos j with h | h; exact h; rw [List.getElem?_eq_none (by simp; omega)] at hj; cases hj
          subst hj0
          simp only [List.getElem?_cons_zero, Option.some.injEq] at hj
          subst hj
          exact ((HX.out.alloc _).cell 0)⟩) (by simp [fillK]; omega) (by simp [Value.oneCell']) w'.heap.size w' (below_one (Below.refl _ _) _) (Nat.le_refl _) ?_; intro w2 hg2 hb2))
  obtain ⟨g, eg⟩ : ∃ g, w'.heap.size = g := ⟨_, rfl⟩
  have HW2 : Hid (Whole w2 g 3 (cellsI (fillK n 1))) := Lib.hid (by
    have h := hg2.out
    have e := fillK_splice (n := n) (k := 0) (m := 1) (by omega)
    rw [Nat.zero_add] at e
    rw [show ([.int .i64 (-1)] : List Value) = (List.replicate 1 (-1 : Int)).map (Value.int .i64) from rfl, e] at h
    rw [← eg]; exact h)
  have HB2 := Lib.hid hb2
  have HG := Lib.hid eg
  rw [eg] at HB2 ⊢
  clear hg2 hb2 eg hxc HX hmk
  go_loopw [8] (fun i wr => ∃ k : Nat, 1 ≤ k ∧ k ≤ n ∧ i = .int .i64 k ∧ Hid (Whole wr g 3 (cellsI (fillK n k))) ∧ Hid (Below g w' wr)) (fun i _ => n - (intOf i).toNat)
  case atStart => exact ⟨1, Nat.le_refl _, h1, rfl, HW2, HB2⟩
  case round =>
    clear HW2 HB2
    obtain ⟨k, hk1, hkn, rfl, HW, HB⟩ := hrel
    by_cases hlt : k < n
    · have e1 : decide ((k : Int) < (n : Int)) = true := decide_eq_true (by omega)
      have x1 : (0 : Int) ≤ (k : Int) := by omega
      have x2 : (k : Int) ≤ (n : Int) := by omega
      have x3 : ¬ (n = k) := by omega
      go_wp2
      obtain ⟨m, em⟩ : ∃ m, Nat.min k (n - k) = m := ⟨_, rfl⟩
      have hm1 : 1 ≤ m := by rw [← em]; show 1 ≤ min k (n - k); omega
      have hm2 : k + m ≤ n := by rw [← em]; show k + min k (n - k) ≤ n; omega
      have hm3 : m ≤ k := by rw [← em]; show min k (n - k) ≤ k; omega
      have HM := Lib.hid em
      clear em
      have HWd : Hid (Whole wr.drew g 3 (cellsI (fillK n k))) := HW
      have hcl : ((List.replicate m (-1 : Int)).map (Value.int .i64)).length = m := by simp
      have HSRC : Hid (0 < ((List.replicate m (-1 : Int)).map (Value.int .i64)).length → (some ⟨g, k, none⟩ : Option Addr) = some ⟨g, k, none⟩ ∧ ∃ ad, (some ⟨g, 0, none⟩ : Option Addr) = some ad ∧ ∀ (j : Nat) (v : Value), ((List.replicate m (-1 : Int)).map (Value.int .i64))[j]? = some v → wr.drew.cell? (ad.add j) = some v) := fun _ => ⟨rfl, _, rfl, fun j v hj => by
        have hjm : j < m := by
          rcases Nat.lt_or_ge j m with h | h
          · exact h
          · rw [List.getElem?_eq_none (by simpa using h)] at hj; cases hj
        have ev : v = .int .i64 (-1) := by
          rw [List.getElem?_map, List.getElem?_replicate, if_pos hjm] at hj
          simpa using hj.symm
        have := (HWd.out.cell j).trans (cellsI_at (by rw [fillK_len hkn]; omega))
        have e3 : hAt (fillK n k) j = -1 := by
          unfold hAt fillK
          rw [List.getElem?_append_left (by simp; omega), List.getElem?_replicate, if_pos (by omega)]
          rfl
        rw [e3] at this
        rw [ev, ← this]
        by_cases h0 : j = 0
        · subst h0; rfl
        · simp [Addr.add, h0]⟩
      have HFIT : Hid (k + ((List.replicate m (-1 : Int)).map (Value.int .i64)).length ≤ ((fillK n k).map (Value.int .i64)).length) := Lib.hid (by rw [hcl, List.length_map, fillK_len hkn]; exact hm2)
      have HONE : Hid (∀ v ∈ (List.replicate m (-1 : Int)).map (Value.int .i64), v.oneCell' = true) := Lib.hid (fun v hv => by obtain ⟨x, -, rfl⟩ := List.mem_map.1 hv; rfl)
      go_region_held3 (fun _ => True) (trivial) (first | (refine step_copy_splice (o := ⟨some 45, .call { callee := .builtin .copy, args := #[.tmp 41, .tmp 44], argTypes := #[57, 57] }, _, _, _, _⟩) rfl (.tmp 41) (.tmp 44) 57 57 rfl 3 Tryz.underlying57 hsz (some ⟨g, k, none⟩) (some ⟨g, 0, none⟩) (n - k) (n - k) k n rfl rfl g k ((fillK n k).map (Value.int .i64)) 3 HWd.out ((List.replicate m (-1 : Int)).map (Value.int .i64)) (hcl.trans HM.out.symm) HSRC.out HFIT.out HONE.out g w' (HB.out.trans (Below.refl _ wr).drew) (Nat.le_refl _) ?_; intro w4 hg4 hb4) | fail)
      have hwk : IntKind.i64.wrap ((k : Int) + (m : Int)) = ((k + m : Nat) : Int) := by rw [IntKind.wrap_i64]; omega
      have HW4 : Hid (Whole w4 g 3 (cellsI (fillK n (k + m)))) := Lib.hid (by have h := hg4.out; rw [fillK_splice hm2] at h; exact h)
      have HB4 := Lib.hid hb4
      clear hg4 hb4 HSRC HFIT HONE
      rw [hwk]
      obtain ⟨gi, egi⟩ : ∃ gi, goInt (((List.replicate m (-1 : Int)).map (Value.int .i64)).length : Int) = gi := ⟨_, rfl⟩
      rw [egi]
      clear egi hwk hcl HWd
      go_roundw
      case rel => exact ⟨.int .i64 ((k + m : Nat) : Int), _, _, _, _, _, _, _, _, _, _, _, _, _, ⟨k + m, by omega, hm2, rfl, HW4, HB4⟩, rfl⟩
      case measure => simp [intOf]; omega
    · obtain rfl : k = n := by omega
      have e1 : decide ((k : Int) < (k : Int)) = false := decide_eq_false (by omega)
      go_wp2
      go_ret
      refine ⟨g, rfl, Nat.le_of_eq HG.out, ?_, ?_⟩
      · have := HW.out
        rwa [show fillK k k = List.replicate k (-1) by simp [fillK]] at this
      · rw [HG.out]; exact HB.out
end Go.Proofs.YtkmngbkghgelfaaGreat
/- Sends and receives that never wait, inside the walk of one goroutine: a law for a region that communicates, over any program. -/
namespace Go.Proofs.YtkmngbkghgelfaaGreat
open Go.Conc

/-- What is left of a region leads to Q: said of the machine's own steps. -/
def RegTo (P : Program) (ops : Array Oper) (Q : Exit → Act → World → Prop) (l : List Nat) (a : Act) (w : World) : Prop :=
  ∀ (b : Frame) (k : List Item) (cs : List Frame), ∃ e a' w', Q e a' w' ∧ Arrives P (lone (b.at a (.inRegion ops l :: k)) cs w) b k cs e a' w'

section
variable {P : Program} {ops : Array Oper} {Q : Exit → Act → World → Prop} {a : Act} {w w₁ : World} {i : Nat} {rest : List Nat} {o : Oper}
theorem RegTo.of_ops {l : List Nat} (h : wpOps P ops Q l a w) : RegTo P ops Q l a w := wp_ops l a w h
theorem RegTo.done (h : Q .normal a w) : RegTo P ops Q [] a w := wp_ops [] a w h
theorem RegTo.region {id : Nat} (h : RegTo P ops Q (List.range ops.size) a w) : (Code.region id ops false).wp P Q a w :=
  fun b k cs => let ⟨e, a', w', q, r⟩ := h b k cs; ⟨e, a', w', q, .of_steps (.one step_region) r⟩
theorem RegTo.region_draw {id : Nat} (h : ∀ t, RegTo P ops Q (Region.schedule (P.follows .mixedOrders) ops t) a { w with drawn := w.drawn + 1 }) : (Code.region id ops true).wp P Q a w :=
  fun b k cs => let ⟨e, a', w', q, r⟩ := h _ b k cs; ⟨e, a', w', q, .of_steps (.one step_region_draw) r⟩

/-- An operation that yields a value. -/
theorem RegTo.value {v : Value} (ho : ops[i]? = some o) (hw : Region.wanted o (yielded ops a.tmps) = true)
    (hr : (execOp a.eval o).run P w = .ok (.value v) w₁) (h : RegTo P ops Q rest (a.put o.dst v) w₁) : RegTo P ops Q (i :: rest) a w := by
  intro b k cs
  obtain ⟨e, a', w', hq, harr⟩ := h b k cs
  refine ⟨e, a', w', hq, .of_steps (.one (step_lone_go ?_)) harr⟩
  have hfin : (b.at a (.inRegion ops (i :: rest) :: k)).finish v = b.at (a.put o.dst v) (.inRegion ops rest :: k) := by rw [Frame.finish_at, ho]; rfl
  rw [stepG_op ho hw, ← hfin]
  simp [stepG.apply, hr]

/-- A move. -/
theorem RegTo.move {x : Operand} (ho : ops[i]? = some o) (hop : o.op = .move x) (hg : o.guard = none) (h : RegTo P ops Q rest (a.put o.dst (a.eval x)) w) : RegTo P ops Q (i :: rest) a w :=
  RegTo.value ho (by simp [Region.wanted, hg]) (by simp [execOp, hop]) h

theorem comm_of {cases : Array CommCase} {blocking : Bool} {shape : CommShape} (ho : ops[i]? = some o) (hw : Region.wanted o (yielded ops a.tmps) = true)
    (hr : (execOp a.eval o).run P w = .ok (.comm cases blocking shape) w₁) (b : Frame) (k : List Item) (cs : List Frame) :
    ∃ es, stepG P true (G (b.at a (.inRegion ops (i :: rest) :: k)) cs) w = .comm (G (b.at a (.inRegion ops (i :: rest) :: k)) cs) cases blocking shape w₁ es := by
  rw [stepG_oper ho hw]
  simp [stepG.apply, hr, G, Frame.at, GStep.after]

/-- A send into a buffer with room. -/
theorem RegTo.send {c cap s r : Nat} {buf : Array Value} {v z : Value} {tm : Bool} (ho : ops[i]? = some o) (hw : Region.wanted o (yielded ops a.tmps) = true)
    (hr : (execOp a.eval o).run P w = .ok (.comm #[scase c v z] true .send) w₁) (hc : w₁.heap[c]? = some (.chan cap buf false s r tm)) (hroom : buf.size < cap)
    (h : RegTo P ops Q rest (a.put o.dst undef) (w₁.setChan c cap (buf.push v) false (s + 1) r tm)) : RegTo P ops Q (i :: rest) a w := by
  intro b k cs
  obtain ⟨e, a', w', hq, harr⟩ := h b k cs
  obtain ⟨es, hs⟩ := comm_of (rest := rest) ho hw hr b k cs
  have h2 := step_lone_send_room hs hc hroom
  rw [Frame.finish_at, ho] at h2
  exact ⟨e, a', w', hq, .of_steps (.one h2) harr⟩

/-- A receive from a buffer that holds something. -/
theorem RegTo.recv {c cap s r : Nat} {buf : Array Value} {z : Value} {tm closed ok : Bool} (ho : ops[i]? = some o) (hw : Region.wanted o (yielded ops a.tmps) = true)
    (hr : (execOp a.eval o).run P w = .ok (.comm #[rcase c z] true (.recv ok)) w₁) (hc : w₁.heap[c]? = some (.chan cap buf closed s r tm)) (hsome : 0 < buf.size)
    (h : RegTo P ops Q rest (a.put o.dst (got ok (buf.getD 0 undef) true)) (w₁.setChan c cap (buf.extract 1 buf.size) closed s (r + 1) tm)) : RegTo P ops Q (i :: rest) a w := by
  intro b k cs
  obtain ⟨e, a', w', hq, harr⟩ := h b k cs
  obtain ⟨es, hs⟩ := comm_of (rest := rest) ho hw hr b k cs
  have h2 := step_lone_recv_buf ok hs hc hsome
  rw [Frame.finish_at, ho] at h2
  exact ⟨e, a', w', hq, .of_steps (.one h2) harr⟩

/-- A receive from a closed channel whose buffer is empty. -/
theorem RegTo.shut {c cap s r : Nat} {z : Value} {tm ok : Bool} (ho : ops[i]? = some o) (hw : Region.wanted o (yielded ops a.tmps) = true)
    (hr : (execOp a.eval o).run P w = .ok (.comm #[rcase c z] true (.recv ok)) w₁) (hc : w₁.heap[c]? = some (.chan cap #[] true s r tm))
    (h : RegTo P ops Q rest (a.put o.dst (got ok z false)) w₁) : RegTo P ops Q (i :: rest) a w := by
  intro b k cs
  obtain ⟨e, a', w', hq, harr⟩ := h b k cs
  obtain ⟨es, hs⟩ := comm_of (rest := rest) ho hw hr b k cs
  have h2 := step_lone_recv_shut ok hs hc
  rw [Frame.finish_at, ho] at h2
  exact ⟨e, a', w', hq, .of_steps (.one h2) harr⟩
end
end Go.Proofs.YtkmngbkghgelfaaGreat
/- The walk of the program's stepsFrom: nodes that are come to wait in a channel. -/
namespace Go.Proofs.YtkmngbkghgelfaaGreat
open Go.RowKit Go.Conc
set_option linter.unusedVariables false
/-- How much was taken out of a channel. -/
def takenOf (W : World) (c : Nat) : Nat := match W.heap[c]? with
  | some (.chan _ _ _ _ r _) => r
  | _ => 0
/-- The steps so far, and the channel with those that wait. -/
structure ChSt (w : World) (g c n : Nat) (H : List Int) (B : List Value) (cl : Bool) (r : Nat) (W : World) : Prop where
  bel : Below w.heap.size w W
  h : Whole W g 3 (cellsI H)
  ch : ∃ s, W.heap[c]? = some (.chan n B.toArray cl s r false)
  hl : H.length = n
  gb : w.heap.size ≤ g
  gc : g < c
theorem ChSt.taken {w W : World} {g c n r : Nat} {H : List Int} {B : List Value} {cl : Bool} (t : ChSt w g c n H B cl r W) : takenOf W c = r := by
  obtain ⟨s, h⟩ := t.ch
  unfold takenOf
  rw [h]
theorem ChSt.clt {w W : World} {g c n r : Nat} {H : List Int} {B : List Value} {cl : Bool} (t : ChSt w g c n H B cl r W) : c < W.heap.size := by
  obtain ⟨s, h⟩ := t.ch
  exact (Array.getElem?_eq_some_iff.1 h).1
theorem ChSt.setH {w W : World} {g c n r : Nat} {H : List Int} {B : List Value} {cl : Bool} (t : ChSt w g c n H B cl r W) (i : Nat) (v : Int) : ChSt w g c n (H.set i v) B cl r (W.setCell ⟨g, i, none⟩ (.int .i64 v)) := by
  obtain ⟨s, h⟩ := t.ch
  exact ⟨t.bel.setCell (p := ⟨g, i, none⟩) t.gb _, by rw [← cellsI_set]; exact t.h.set i _, ⟨s, (heap_setCell_other W ⟨g, i, none⟩ c _ (by have := t.gc; show c ≠ g; omega)).trans h⟩, by rw [List.length_set]; exact t.hl, t.gb, t.gc⟩
theorem ChSt.chan {w W : World} {g c n r r' s' : Nat} {H : List Int} {B : List Value} {cl : Bool} (t : ChSt w g c n H B cl r W) (B' : Array Value) (cl' : Bool) : ChSt w g c n H B'.toList cl' r' (W.setChan c n B' cl' s' r' false) :=
  ⟨below_setChan t.bel (by have := t.gb; have := t.gc; omega) _ _ _ _ _ _, by
    have := t.gc
    show (W.heap.setIfInBounds c _)[g]? = _
    rw [Array.getElem?_setIfInBounds_ne (by omega)]; exact t.h, ⟨s', heap_setChan W c n B' cl' s' r' false t.clt⟩, t.hl, t.gb, t.gc⟩
theorem ChSt.below {w W W' : World} {g c n r : Nat} {H : List Int} {B : List Value} {cl : Bool} (t : ChSt w g c n H B cl r W) (hb : Below W.heap.size W W') : ChSt w g c n H B cl r W' := by
  obtain ⟨s, h⟩ := t.ch
  exact ⟨t.bel.trans (hb.mono t.bel.size), t.h.below hb t.h.lt, ⟨s, (hb.block c t.clt).trans h⟩, t.hl, t.gb, t.gc⟩
theorem takenOf_drew (W : World) (c q : Nat) : takenOf (W.drewN q) c = takenOf W c := by
  have := (below_drewN (Below.refl (c + 1) W) q).block c (by omega)
  unfold takenOf; rw [this]
theorem Tryz.info3chan : ∃ i, Tryz.prog.info? 3 = some i ∧ i.bytes = 8 := by
  have h : (Tryz.prog.info? 3).map (·.bytes) = some 8 := by kernel_rfl
  obtain ⟨i, hi, hb⟩ := Option.map_eq_some_iff.1 h
  exact ⟨i, hi, hb⟩
theorem mkChan (w : World) (n : Nat) (hn : n ≤ 2048) : (Instr.makeChan 186 (.int .i64 (n : Int))).run Tryz.prog w = .ok (.chan (some w.heap.size)) (w.alloc (.chan n #[] false 0 0 false)) := by
  obtain ⟨i, hi, hb⟩ := Tryz.info3chan
  exact run_makeChan (P := Tryz.prog) (w := w) Tryz.underlying186 hi .i64 n (by omega) (by rw [hb]; omega)
/-- What slices.Repeat gives at one number below 0. -/
def RepeatSpec : Prop := ∀ (n : Nat), 1 ≤ n → n ≤ 2048 → ∀ (gx : Nat) (w : World), Whole w gx 3 #[.int .i64 (-1)] →
    Calls Tryz.prog 135 #[.slice (some ⟨gx, 0, none⟩) 1 1, .int .i64 (n : Int)] w fun e w' => ∃ g, e = .returned (.slice (some ⟨g, 0, none⟩) n n) ∧ w.heap.size ≤ g ∧ Whole w' g 3 (cellsI (List.replicate n (-1))) ∧ Below w.heap.size w w'
set_option maxRecDepth 100000 in
set_option maxHeartbeats 4000000 in
theorem steps_any (HR : RepeatSpec) (A : Option Addr) (c : Nat) (L : List Gn) (sN : Nat) (w : World) (D : Nat) (hD : D ≤ w.heap.size) (hx : RdG w D A L) (hh : holdsB (pns L) (sN : Int) = true) (hn : 0 < L.length) (hs : ∀ x ∈ pns L, x.2.2.length ≤ 20000) :
    Calls Tryz.prog 119 #[.int .i64 (sN : Int), .slice A L.length c] w fun e w' => ∃ g, e = .returned (.slice (some ⟨g, 0, none⟩) L.length L.length) ∧ w.heap.size ≤ g ∧ Whole w' g 3 (cellsI (hopsL (pns L) (sN : Int))) ∧ Below w.heap.size w w' := by
  have HH := holdsB_yes hh
  have hL : L.length ≤ 2048 := by have := HH.1; rwa [pns_len] at this
  have HXW := Lib.hid hx
  have HSM := Lib.hid hs
  have HL := Lib.hid (pns_len L)
  have HHS := Lib.hid HH
  have hst := HH.start (by rw [pns_len]; exact hn)
  rw [pns_len] at hst
  have hsN : sN < L.length := by omega
  have HRS := Lib.hid (HR L.length hn hL)
  have hmk := fun W => mkChan W L.length hL
  have x1 : (0 : Int) ≤ (sN : Int) := by omega
  have x2 : (sN : Int) < (L.length : Int) := by omega
  have B1 : Below w.heap.size w (w.alloc (.cells #[.int .i64 (-1)] 3)) := below_one (Below.refl _ _) _
  have R1 : Hid (Whole (w.alloc (.cells #[.int .i64 (-1)] 3)) w.heap.size 3 #[.int .i64 (-1)]) := Lib.hid (Whole.new w 3 _)
  have HB1 := Lib.hid B1
  clear hx hh HH hs hst B1
  go_enter Tryz.func119, Tryz.ntmps119
  go_upto_region 3 with (go_at_call 135; refine (HRS.out _ _ R1.out).mono ?_; rintro e w1 ⟨g, rfl, hg, hW, hb⟩)
  have hg0 : w.heap.size + 1 ≤ g := by rw [World.size_alloc] at hg; exact hg
  have hb1 : Below w.heap.size w w1 := HB1.out.trans (hb.mono HB1.out.size)
  have st0 : ChSt w g w1.heap.size L.length (List.replicate L.length (-1)) [] false 0 (w1.alloc (.chan L.length #[] false 0 0 false)) := ⟨below_one hb1 _, hW.alloc _, ⟨0, heap_alloc_new _ _⟩, by simp, by omega, hW.lt⟩
  obtain ⟨w2, ew2⟩ : ∃ w2, w1.alloc (.chan L.length #[] false 0 0 false) = w2 := ⟨_, rfl⟩
  obtain ⟨cc, ecc⟩ : ∃ cc, w1.heap.size = cc := ⟨_, rfl⟩
  rw [ecc, ew2] at st0
  rw [ecc, ew2]
  clear ew2 ecc hg hW hb hb1 hmk HB1 R1
  have c1 : w2.cell? ⟨g, sN, none⟩ = some (.int .i64 (hAt (List.replicate L.length (-1)) sN)) := (st0.h.cell sN).trans (cellsI_at (by simpa using hsN))
  have f1 := st0.h.frozen sN
  have n1 := st0.setH sN 0
  have HB : Hid (Bfs (pns L) sN ((List.replicate L.length (-1)).set sN 0) [sN] 0 0) := Lib.hid (by
    have := Bfs.begin_ (G := pns L) (s := sN) (by rw [HL.out]; exact hsN)
    rw [HL.out] at this
    exact this)
  have HN := Lib.hid n1
  clear n1 st0
  go_upto_region 4 with fail
  clear c1 f1
  refine RegTo.region ?_
  refine RegTo.move (o := ⟨some 21, .move (.tmp 6), _, _, _, _⟩) rfl rfl rfl ?_
  refine RegTo.move (o := ⟨some 22, .move (.tmp 0), _, _, _, _⟩) rfl rfl rfl ?_
  go_simp
  obtain ⟨w3, ew3⟩ : ∃ w3, w2.setCell ⟨g, sN, none⟩ (.int .i64 0) = w3 := ⟨_, rfl⟩
  rw [ew3] at HN ⊢
  clear ew3
  obtain ⟨s0, hs0⟩ := HN.out.ch
  refine RegTo.send (o := ⟨none, .send (.tmp 21) (.tmp 22), _, _, _, _⟩) (c := cc) (v := .int .i64 (sN : Int)) (z := .tuple #[]) (w₁ := w3) rfl rfl (by simp [execOp, scase, Act.eval]) hs0 (by simp; omega) ?_
  refine RegTo.done ?_
  have n4 := HN.out.chan (r' := 0) (s' := s0 + 1) #[.int .i64 (sN : Int)] false
  go_simp
  obtain ⟨w4, ew4⟩ : ∃ w4, w3.setChan cc L.length #[.int .i64 (sN : Int)] false (s0 + 1) 0 false = w4 := ⟨_, rfl⟩
  rw [ew4] at n4 ⊢
  have HS4 : Hid (ChSt w g cc L.length ((List.replicate L.length (-1)).set sN 0) (qv ([sN].drop 0)) false 0 w4) := Lib.hid n4
  clear ew4 n4 hs0 HN
  go_wp2
  go_loopw [7, 8, 10] (fun l _ _ wz => ∃ (at_ : Nat) (H : List Int) (Q : List Nat), at_ ≤ Q.length ∧ l = .int .i64 ((Q.length - at_ : Nat) : Int) ∧ Hid (Bfs (pns L) sN H Q at_ 0) ∧ Hid (ChSt w g cc L.length H (qv (Q.drop at_)) (decide (at_ = Q.length)) at_ wz)) (fun _ _ _ wz => L.length + 1 - takenOf wz cc)
  case atStart => exact ⟨0, _, [sN], Nat.zero_le _, rfl, HB, HS4⟩
  case round =>
    clear HB HS4
    obtain ⟨at_, H, Q, hal, rfl, HB, HS⟩ := hrel
    have hql : Q.length ≤ L.length := by have := HB.out.qlen; rwa [HL.out] at this
    by_cases hat : at_ < Q.length
    · have hcl0 : decide (at_ = Q.length) = false := decide_eq_false (by omega)
      obtain ⟨cN, ecN⟩ : ∃ cN, qAt Q at_ = cN := ⟨_, rfl⟩
      have hcN : cN < L.length := by rw [← ecN, ← HL.out]; exact HB.out.ql _ (qAt_mem hat)
      have HC := Lib.hid ecN
      have ed0 : Q.drop at_ = cN :: Q.drop (at_ + 1) := by
        rw [List.drop_eq_getElem_cons hat, ← ecN]
        unfold qAt
        simp [List.getElem?_eq_getElem hat]
      have ed : qv (Q.drop at_) = .int .i64 (cN : Int) :: qv (Q.drop (at_ + 1)) := by rw [ed0]; rfl
      clear ed0
      rw [hcl0, ed] at HS
      obtain ⟨s1, hs1⟩ := HS.out.ch
      have HS1 := Lib.hid hs1
      clear hcl0 ecN ed hs1
      go_upto_region 7 with fail
      refine RegTo.region ?_
      refine RegTo.recv (o := ⟨some 24, .recv 186 (.tmp 23) true, _, _, _, _⟩) (c := cc) (z := .int .i64 0) (ok := true) (w₁ := wr) rfl rfl (by simp [go_sem, rcase]) HS1.out (by simp) ?_
      refine RegTo.value (o := ⟨some 25, .extract (.tmp 24) 1, _, _, _, _⟩) (v := .bool true) (w₁ := wr.setChan cc L.length ((Value.int .i64 (cN : Int) :: qv (Q.drop (at_ + 1))).toArray.extract 1 (Value.int .i64 (cN : Int) :: qv (Q.drop (at_ + 1))).toArray.size) false s1 (at_ + 1) false) rfl rfl (by go_simp; simp [got]) ?_
      refine RegTo.done ?_
      have hx0 : (Value.int .i64 (cN : Int) :: qv (Q.drop (at_ + 1))).toArray.extract 1 (Value.int .i64 (cN : Int) :: qv (Q.drop (at_ + 1))).toArray.size = (qv (Q.drop (at_ + 1))).toArray := by simp
      have n5 := HS.out.chan (r' := at_ + 1) (s' := s1) (qv (Q.drop (at_ + 1))).toArray false
      rw [hx0]
      have e9 : got true ((Value.int .i64 (cN : Int) :: qv (Q.drop (at_ + 1))).toArray.getD 0 undef) true = .tuple #[.int .i64 (cN : Int), .bool true] := by simp [got]
      rw [e9]
      go_simp
      obtain ⟨w5, ew5⟩ : ∃ w5, wr.setChan cc L.length (qv (Q.drop (at_ + 1))).toArray false s1 (at_ + 1) false = w5 := ⟨_, rfl⟩
      rw [ew5] at n5 ⊢
      have HS5 : Hid (ChSt w g cc L.length H (qv (Q.drop (at_ + 1))) false (at_ + 1) w5) := Lib.hid n5
      have HTK : Hid (takenOf wr cc = at_) := Lib.hid HS.out.taken
      obtain ⟨b, off, id', a1, c1, v, a2, c2, o, rfl, hBb, h1, h2, h3, hr1, hr2, hv⟩ := HXW.out.at_ hcN
      have bW : Below D w w5 := n5.bel.mono hD
      have h3' : w5.cell? ⟨b, off + cN * 3 + 2, none⟩ = some (.slice a2 o.length c2) := (bW.cell (p := ⟨b, off + cN * 3 + 2, none⟩) hBb).trans h3
      have EO := Lib.hid (show outAt (pns L) cN = o by unfold outAt; rw [nAt_get (pns_at hv.out)])
      have HRD := Lib.hid hr2
      have hol : o.length ≤ 20000 := HSM.out _ (List.mem_of_getElem? (pns_at hv.out))
      have y3 : (0 : Int) ≤ (cN : Int) := by omega
      have y4 : (cN : Int) < (L.length : Int) := by omega
      have C0 : Hid (qAt Q at_ = cN ∧ at_ < Q.length) := Lib.hid ⟨HC.out, hat⟩
      clear ew5 n5 hx0 e9 HS1 HS hv hr1 hr2 h1 h2 h3 bW HC
      go_wp2
      clear h3'
      go_loopw [7, 10, 33] (fun l _ i wz => ∃ (k : Nat) (H : List Int) (Q : List Nat), k ≤ o.length ∧ i = .int .i64 k ∧ l = .int .i64 ((Q.length - at_ : Nat) : Int) ∧ Hid (qAt Q at_ = cN ∧ at_ < Q.length) ∧ Hid (Bfs (pns L) sN H Q at_ k) ∧ Hid (ChSt w g cc L.length H (qv (Q.drop (at_ + 1))) false (at_ + 1) wz)) (fun _ _ i _ => o.length - (intOf i).toNat)
      case atStart => exact ⟨0, H, Q, Nat.zero_le _, rfl, rfl, C0, HB, HS5⟩
      case round =>
        clear C0 HB HS5 hal hat hql
        obtain ⟨k, H, Q, hk, rfl, rfl, HC, HB, HS⟩ := hrel
        have hql : Q.length ≤ L.length := by have := HB.out.qlen; rwa [HL.out] at this
        have hat := HC.out.2
        by_cases hlt : k < o.length
        · have g1 : decide ((k : Int) < (o.length : Int)) = true := decide_eq_true (by omega)
          obtain ⟨bo, oo, t, rfl, hBo, hco, hvo⟩ := HRD.out.at_ hlt
          have et : (outAt (pns L) (qAt Q at_))[k]? = some t := by rw [HC.out.1, EO.out, ← hvo.out, List.getElem?_eq_getElem hlt]; rfl
          have htr := HHS.out.out (i := qAt Q at_) (by rw [HC.out.1, HL.out]; exact hcN) (List.mem_of_getElem? et)
          rw [HL.out] at htr
          obtain ⟨tN, rfl⟩ := Int.eq_ofNat_of_zero_le htr.1
          have htN : tN < L.length := by omega
          have bW : Below D w wr := HS.out.bel.mono hD
          have co' : wr.cell? ⟨bo, oo + k, none⟩ = some (.int .i64 (tN : Int)) := (bW.cell (p := ⟨bo, oo + k, none⟩) hBo).trans hco
          have ch : wr.cell? ⟨g, tN, none⟩ = some (.int .i64 (hAt H tN)) := (HS.out.h.cell tN).trans (cellsI_at (by rw [HS.out.hl]; exact htN))
          have z1 : (0 : Int) ≤ (k : Int) := by omega
          have z2 : (k : Int) < (o.length : Int) := by omega
          have z3 : (0 : Int) ≤ (tN : Int) := by omega
          have z4 : (tN : Int) < (L.length : Int) := by omega
          have ET := Lib.hid et
          have HT1 : Hid ((0 : Int) ≤ (tN : Int) ∧ (tN : Int) < ((pns L).length : Int)) := Lib.hid ⟨z3, by rw [HL.out]; exact z4⟩
          clear hvo hco bW et htr
          by_cases hneg : hAt H tN < 0
          · have hm1 : hAt H tN = -1 := by
              by_cases hmem : tN ∈ Q
              · obtain ⟨d, hd, -⟩ := HB.out.snd _ hmem
                omega
              · exact HB.out.no tN (by rw [HL.out]; exact htN) hmem
            have q1 : (hAt H tN == -1) = true := beq_iff_eq.2 hm1
            obtain ⟨hT, ehT⟩ : ∃ hT, hAt H tN = hT := ⟨_, rfl⟩
            have hcb := HB.out.bd _ (qAt_mem hat)
            rw [HC.out.1] at hcb
            obtain ⟨dC, hdC, -⟩ := HB.out.snd _ (qAt_mem hat)
            rw [HC.out.1] at hdC
            obtain ⟨hC, ehC⟩ : ∃ hC, hAt H cN = hC := ⟨_, rfl⟩
            have hc0 : 0 ≤ hC := by rw [← ehC, hdC]; omega
            rw [ehC] at hcb
            have wk : IntKind.i64.wrap (hC + 1) = hC + 1 := by rw [IntKind.wrap_i64]; omega
            have cl : wr.cell? ⟨g, cN, none⟩ = some (.int .i64 hC) := (HS.out.h.cell cN).trans (by rw [cellsI_at (by rw [HS.out.hl]; exact hcN), ehC])
            have fh := HS.out.h.frozen tN
            have HB2 := Lib.hid (HB.out.new hat ET.out HT1.out (by rw [Int.toNat_natCast]; exact hneg))
            rw [HC.out.1, Int.toNat_natCast, ehC] at HB2
            have n6 := HS.out.setH tN (hC + 1)
            have HN6 := Lib.hid n6
            obtain ⟨s6, hs6⟩ := n6.ch
            have HS6 := Lib.hid hs6
            have hroom : (qv (Q.drop (at_ + 1))).toArray.size < L.length := by simp [qv]; omega
            have hbuf : (qv (Q.drop (at_ + 1))).toArray.push (.int .i64 (tN : Int)) = (qv ((Q ++ [tN]).drop (at_ + 1))).toArray := by
              rw [List.drop_append_of_le_length (by omega), qv_snoc]; simp
            have HC2 : Hid (qAt (Q ++ [tN]) at_ = cN ∧ at_ < (Q ++ [tN]).length) := Lib.hid ⟨(qAt_app hat).trans HC.out.1, by rw [List.length_append]; omega⟩
            obtain ⟨lf, elf⟩ : ∃ lf : Int, ((Q.length - at_ : Nat) : Int) = lf := ⟨_, rfl⟩
            have hlf1 : 0 ≤ lf := by rw [← elf]; omega
            have hlf2 : lf ≤ 2048 := by rw [← elf]; omega
            have helf : lf + 1 = (((Q ++ [tN]).length - at_ : Nat) : Int) := by rw [← elf, List.length_append, List.length_singleton]; omega
            have HLF := Lib.hid helf
            have wk2 : IntKind.i64.wrap (lf + 1) = lf + 1 := by rw [IntKind.wrap_i64]; omega
            rw [ehT] at ch q1
            rw [elf]
            clear ehT hneg hm1 hs6 n6 ehC hdC hcb helf elf HB HS HC
            go_upto_region 14 with fail
            clear co' ch cl fh
            refine RegTo.region ?_
            refine RegTo.move (o := ⟨some 50, .move (.tmp 6), _, _, _, _⟩) rfl rfl rfl ?_
            refine RegTo.move (o := ⟨some 51, .move (.tmp 10), _, _, _, _⟩) rfl rfl rfl ?_
            go_simp
            refine RegTo.send (o := ⟨none, .send (.tmp 50) (.tmp 51), _, _, _, _⟩) (c := cc) (v := .int .i64 (tN : Int)) (z := .tuple #[]) (w₁ := wr.setCell ⟨g, tN, none⟩ (.int .i64 (hC + 1))) rfl rfl (by simp [execOp, scase, Act.eval]) HS6.out hroom ?_
            refine RegTo.done ?_
            rw [hbuf]
            have n7 := HN6.out.chan (r' := at_ + 1) (s' := s6 + 1) (qv ((Q ++ [tN]).drop (at_ + 1))).toArray false
            go_simp
            obtain ⟨w7, ew7⟩ : ∃ w7, (wr.setCell ⟨g, tN, none⟩ (.int .i64 (hC + 1))).setChan cc L.length (qv ((Q ++ [tN]).drop (at_ + 1))).toArray false (s6 + 1) (at_ + 1) false = w7 := ⟨_, rfl⟩
            rw [ew7] at n7 ⊢
            have HS7 : Hid (ChSt w g cc L.length (H.set tN (hC + 1)) (qv ((Q ++ [tN]).drop (at_ + 1))) false (at_ + 1) w7) := Lib.hid n7
            clear ew7 n7 HN6 HS6 hroom hbuf
            go_wp2
            go_roundw
            case rel => exact ⟨k + 1, _, Q ++ [tN], by omega, by go_num, by rw [HLF.out], HC2, HB2, HS7⟩
            case measure => simp [intOf]; omega
          · have q1 : (hAt H tN == -1) = false := by rw [beq_eq_false_iff_ne]; omega
            have HB2 := Lib.hid (HB.out.old HC.out.2 ET.out HT1.out (by rw [Int.toNat_natCast]; omega))
            obtain ⟨hT, ehT⟩ : ∃ hT, hAt H tN = hT := ⟨_, rfl⟩
            rw [ehT] at ch q1
            clear ehT hneg
            go_wp2
            go_roundw
            case rel => exact ⟨k + 1, H, Q, by omega, by go_num, rfl, HC, HB2, HS⟩
            case measure => simp [intOf]; omega
        · obtain rfl : k = o.length := by omega
          have g1 : decide ((o.length : Int) < (o.length : Int)) = false := decide_eq_false (by omega)
          have HB2 := Lib.hid (HB.out.next HC.out.2 (by rw [HC.out.1, EO.out]; exact Nat.le_refl _))
          have hal := HC.out.2
          obtain ⟨lf, elf⟩ : ∃ lf : Int, ((Q.length - at_ : Nat) : Int) = lf := ⟨_, rfl⟩
          have hlf1 : 1 ≤ lf := by rw [← elf]; omega
          have hlf2 : lf ≤ 2048 := by rw [← elf]; omega
          have HLF : Hid (lf - 1 = ((Q.length - (at_ + 1) : Nat) : Int)) := Lib.hid (by rw [← elf]; omega)
          have wk2 : IntKind.i64.wrap (lf - 1) = lf - 1 := by rw [IntKind.wrap_i64]; omega
          by_cases hlast : at_ + 1 = Q.length
          · have q1 : (lf - 1 == 0) = true := beq_iff_eq.2 (by rw [← elf]; omega)
            have hd : Q.drop (at_ + 1) = [] := by rw [hlast]; exact List.drop_length
            have hdc : decide (at_ + 1 = Q.length) = true := decide_eq_true hlast
            rw [hd] at HS
            obtain ⟨s8, hs8⟩ := HS.out.ch
            have hclose : ∀ ats ty, (Builtin.close_ ats ty #[.chan (some cc)]).run Tryz.prog wr = .ok (.tuple #[]) (wr.setChan cc L.length #[] true s8 (at_ + 1) false) := fun ats ty => run_close_open ats ty hs8
            have HS9 : Hid (ChSt w g cc L.length H (qv (Q.drop (at_ + 1))) (decide (at_ + 1 = Q.length)) (at_ + 1) (wr.setChan cc L.length #[] true s8 (at_ + 1) false)) := Lib.hid (by rw [hd, hdc]; exact HS.out.chan #[] true)
            rw [elf]
            clear elf hd hdc hs8 hlast HB HS HC
            go_wp2
            exact ⟨⟨at_ + 1, H, Q, by omega, by rw [HLF.out], HB2, HS9⟩, by rw [HS9.out.taken, HTK.out]; omega⟩
          · have q1 : (lf - 1 == 0) = false := by rw [beq_eq_false_iff_ne, ← elf]; omega
            have hdc : decide (at_ + 1 = Q.length) = false := decide_eq_false hlast
            rw [← hdc] at HS
            rw [elf]
            clear elf hdc hlast HB HC
            go_wp2
            exact ⟨⟨at_ + 1, H, Q, by omega, by rw [HLF.out], HB2, HS⟩, by rw [HS.out.taken, HTK.out]; omega⟩
    · obtain rfl : at_ = Q.length := by omega
      have hcl0 : decide (Q.length = Q.length) = true := decide_eq_true rfl
      rw [hcl0, List.drop_length] at HS
      obtain ⟨s1, hs1⟩ := HS.out.ch
      have HS1 : Hid (wr.heap[cc]? = some (.chan L.length #[] true s1 Q.length false)) := Lib.hid hs1
      clear hcl0 hs1
      go_upto_region 7 with fail
      refine RegTo.region ?_
      refine RegTo.shut (o := ⟨some 24, .recv 186 (.tmp 23) true, _, _, _, _⟩) (c := cc) (z := .int .i64 0) (ok := true) (w₁ := wr) rfl rfl (by simp [go_sem, rcase]) HS1.out ?_
      refine RegTo.value (o := ⟨some 25, .extract (.tmp 24) 1, _, _, _, _⟩) (v := .bool false) (w₁ := wr) rfl rfl (by go_simp; simp [got]) ?_
      refine RegTo.done ?_
      have HE := Lib.hid (show H = hopsL (pns L) (sN : Int) from HB.out.hops)
      go_wp2
      go_ret
      exact ⟨g, rfl, HS.out.gb, by rw [← HE.out]; exact HS.out.h, HS.out.bel⟩
end Go.Proofs.YtkmngbkghgelfaaGreat
