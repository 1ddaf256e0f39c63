/- The walks of layer 1 (nums) that put numbers: the iterator 'groups', appendNumber, Put. -/
import Derived.RangeFuncBox
import Derived.RangeFuncNested
import Derived.RangeFuncBound
import Derived.RangeFuncCalls
import Derived.RangeFuncLeaves
import Derived.Shelf.Abstract
import Derived.Shelf.RegionOpen
import Derived.WalkKit
import Derived.OwnWalkIn
import Derived.TacticsInMore
import Derived.LoopNIn
import Derived.LoopIn
import Derived.Maps.AppendAt
import Derived.Test.YtlkkmeeijjaeiaaProg
import Derived.Test.YtlkkmeeijjaeiaaQ
namespace Go.Proofs.Ytlkkmeeijjaeiaa
open Go.RowKit Go.Shelf
set_option linter.unusedVariables false
attribute [local go_sem] Oper.semAt_some

set_option maxRecDepth 100000 in
set_option maxHeartbeats 1000000 in
/-- The iterator tells a number's bytes, one by one, for every loop body. -/
theorem groups1_in (F : Fence) (n : Nat) (h6 : F.fn 108) (hro : F.round = none) (hn : 1 ≤ n) (l Bn n₀ N : Nat) (hN : N ≤ 4611686018427387903) (J Jx : List Int → World → Prop)
    (hY : ∀ pre x W, J pre W → pre.length < (putL N).length → YieldAt F (n - 1) Try.prog l #[.int .u8 x] W fun e W' =>
      (e = .returned (.bool true) ∧ J (pre ++ [x]) W' ∧ Below n₀ W W') ∨ (e = .returned (.bool false) ∧ Jx (pre ++ [x]) W'))
    (W : World) (hBn : W.cell? ⟨Bn, 0, none⟩ = some (.int .u64 N)) (h0 : J [] W) :
    CallsIn F n Try.prog 108 #[.func (.yield l) #[] #[], .pointer (some ⟨Bn, 0, none⟩)] W fun e W' => (∃ v, e = .returned v) ∧
      ((∃ ys, ys = putL N ∧ J ys W') ∨ (∃ pre, pre <+: putL N ∧ Jx pre W')) := by
  refine callsIn_of_wp Try.func108 rfl h6 ?_ hro
  simp only [Try.ntmps108, List.size_toArray, List.length_cons, List.length_nil, Nat.reduceAdd, Nat.reduceSub, Array.replicate_succ, Array.replicate_zero, List.push_toArray, List.append_toArray, List.nil_append, List.cons_append]
  gi_wp2
  gi_loopw [3] (fun p wr => ∃ (pre : List Int) (r : Nat), r ≤ 4611686018427387903 ∧ p = .int .u64 r ∧ Hid (putL N = pre ++ putL r) ∧ J pre wr) (fun p wr => (intOf p).toNat)
  case atStart => exact ⟨[], N, hN, rfl, rfl, h0⟩
  case round =>
    obtain ⟨pre, r, hr, rfl, hx, hJs⟩ := hrel
    have hlen : pre.length < (putL N).length := by rw [hx.out, List.length_append]; have := putL_ne r; omega
    by_cases hs : r < 128
    · obtain ⟨fn, tmps, assign, body, hy, hR⟩ := hY pre r wr hJs hlen
      gi_wp2
      refine hR.mono ?_
      rintro e W3 (⟨rfl, hJ3, hk3⟩ | ⟨rfl, hJx3⟩)
      · gi_wp2
        go_end0
        exact ⟨⟨_, rfl⟩, .inl ⟨pre ++ [(r : Int)], by rw [hx.out, putL_small hs], hJ3⟩⟩
      · gi_wp2
        go_end0
        exact ⟨⟨_, rfl⟩, .inr ⟨pre ++ [(r : Int)], by rw [hx.out, putL_small hs]; exact List.prefix_refl _, hJx3⟩⟩
    · obtain ⟨fn, tmps, assign, body, hy, hR⟩ := hY pre ((r : Int) % 128 + 128) wr hJs hlen
      have hp : Hid (putL r = ((r : Int) % 128 + 128) :: putL (r / 128)) := putL_big hs
      have hr0 : (128 : Int) ≤ (r : Int) := by omega
      gi_wp2
      refine hR.mono ?_
      rintro e W3 (⟨rfl, hJ3, hk3⟩ | ⟨rfl, hJx3⟩)
      · gi_wp2
        go_roundw
        case rel => exact ⟨pre ++ [(r : Int) % 128 + 128], r / 128, by omega, by go_num, (by rw [hx.out, hp.out]; simp : putL N = (pre ++ [(r : Int) % 128 + 128]) ++ putL (r / 128)), hJ3⟩
        case measure => simp [intOf]; omega
      · gi_wp2
        refine bodyPost_ret (results_none rfl _ _ _) rfl ?_
        exact ⟨⟨_, rfl⟩, .inr ⟨pre ++ [(r : Int) % 128 + 128], ⟨putL (r / 128), by rw [hx.out, hp.out]; simp⟩, hJx3⟩⟩

theorem groups_in (F : Fence) (n : Nat) (h5 : F.fn 80) (hro : F.round = none) (N : Int) (w : World) :
    CallsIn F n Try.prog 80 #[.int .u64 N] w fun e w' => e = .returned (.func (.func 108) #[] #[.pointer (some ⟨w.heap.size, 0, none⟩)]) ∧ w' = w.alloc (.cells #[.int .u64 N] 22) := by
  refine callsIn_of_wp Try.func80 rfl h5 ?_ hro
  simp only [Try.ntmps80, List.size_toArray, List.length_cons, List.length_nil, Nat.reduceAdd, Nat.reduceSub, Array.replicate_succ, Array.replicate_zero, List.push_toArray, List.append_toArray, List.nil_append, List.cons_append]
  gi_wp2
  go_ret
  exact ⟨rfl, rfl⟩
theorem groups_stops (F : Fence) (n : Nat) (h6 : F.fn 108) (hro : F.round = none) (hn : 1 ≤ n) (Bn n₀ N : Nat) (hN : N ≤ 4611686018427387903) (w : World) (hBn : Bn < w.heap.size)
    (hc : w.cell? ⟨Bn, 0, none⟩ = some (.int .u64 N)) :
    SeqStopsK F n Try.prog 108 #[.pointer (some ⟨Bn, 0, none⟩)] (fun x : Int => #[Value.int .u8 x]) (Below n₀) (fun ys => ys = putL N) (fun pre => pre <+: putL N) (putL N).length w := fun l J Jx W hW _ _ hY h0 =>
  groups1_in F n h6 hro hn l Bn n₀ N hN J Jx hY W ((hW.cell (p := ⟨Bn, 0, none⟩) hBn).trans hc) h0
theorem Try.info5p : (Try.prog.info? 5).map (fun i => (i.zero, i.size, i.bytes)) = some (some (.int .u8 0), 1, 1) := by kernel_rfl

set_option maxRecDepth 100000 in
set_option maxHeartbeats 2000000 in
theorem appendNumber_in (F : Fence) (n : Nat) (h3 : F.fn 35) (h4 : F.fn 80) (h5 : F.fn 108) (hro : F.round = none) (hn : 3 ≤ n) (N : Nat) (hN : N ≤ 4611686018427387903) (w : World) (base k : Nat) (v : Value) (xs : List Int)
    (hbase : base ≤ w.heap.size) (hown : w.ownsRow base 5 1 v k (xs.map (Value.int .u8))) (hk : k ≤ 1000000) :
    CallsIn F n Try.prog 35 #[v, .int .u64 N] w fun e W' => ∃ v', e = .returned v' ∧ W'.ownsRow base 5 1 v' (k + (putL N).length) ((xs ++ putL N).map (Value.int .u8)) ∧ Below base w W' := by
  have h1 : 1 ≤ n := by omega
  have h9 := putL_len9 N hN
  obtain ⟨i0, hi, hz0, hz1, hz2⟩ := info_parts Try.info5p
  refine callsIn_of_wp_marks Try.func35 rfl h3 ?_ hro
  simp only [Try.ntmps35, List.size_toArray, List.length_cons, List.length_nil, Nat.reduceAdd, Nat.reduceSub, Array.replicate_succ, Array.replicate_zero, List.push_toArray, List.append_toArray, List.nil_append, List.cons_append]
  have hsl : ∃ A len cap, v = .slice A len cap := by
    rcases hown.2 with ⟨rfl, _⟩ | ⟨g, cap, cur, rfl, _⟩
    · exact ⟨_, _, _, rfl⟩
    · exact ⟨_, _, _, rfl⟩
  obtain ⟨A, len, cap, rfl⟩ := hsl
  gi_wp2_with (gi_at_call 80; refine (groups_in F (n - 1) h4 hro _ _).mono ?_; rintro e w' ⟨rfl, rfl⟩)
  have bO := Boxed.new w 23 (.slice A len cap)
  have bN := Boxed.new (w.alloc (.cells #[.slice A len cap] 23)) 22 (.int .u64 N)
  rw [World.size_alloc] at bN
  have hB0 : Below base w ((w.alloc (.cells #[.slice A len cap] 23)).alloc (.cells #[.int .u64 N] 22)) := ((Below.refl _ w).alloc hbase _).alloc (by simp; omega) _
  refine wpIn_rangeFunc_ownG hro h1 (gf := 108) (lb := #[.pointer (some ⟨w.heap.size + 1, 0, none⟩)]) rfl h5 (enters_of Try.func108 (by kernel_rfl) rfl)
    (groups_stops F (n - 1) h5 hro (by omega) (w.heap.size + 1) base N hN _ (by simp) bN.cell) belowK_t (belowK_b (by simp; omega)) (Below.refl _ _) (fun _ => rfl)
    (fun pre W => (∃ v, Boxed W w.heap.size 23 v ∧ W.ownsRow base 5 1 v (k + pre.length) ((xs ++ pre).map (Value.int .u8)) ∧ True) ∧ Below base w W)
    (fun _ _ _ => False)
    (OwnFrom.and (Own.from (holdsRow_own base w.heap.size 23 5 1 (fun pre => k + pre.length) (fun pre => (xs ++ pre).map (Value.int .u8)) (fun pre v => True)) _) (ownFrom_below hbase (by simp; omega)))
    (fun _ _ _ _ _ hs _ _ => hs)
    ⟨⟨_, bO.alloc _, by simpa using (hown.alloc _).alloc _, trivial⟩, hB0⟩
    (fun x => { tmps := #[.slice A len cap, .int .u64 N, .pointer (some ⟨w.heap.size, 0, none⟩), undef, .slice none 0 0, .int .u8 x, .int .u64 N, .func (.func 108) #[] #[.pointer (some ⟨w.heap.size + 1, 0, none⟩)], .int .u8 x, undef, undef, undef, undef, undef], defers := [] }) ?assign ?body ?done ?stop
  case assign =>
    intro l x W K hK
    gi_wp2
    exact hK
  case body =>
    rintro l pre x W ⟨⟨v, hv, hrow, _⟩, hB⟩ hlt
    have hc := hv.cell
    gi_wp2_with (gi_at_builtin; refine wpListIn_append_own _ rfl _ _ 23 rfl base 5 i0 (.int .u8 0) 1 1 Try.underlying23 hi hz0 hz1 hz2 rfl (by decide) _ _ _ rfl (hrow.alloc _) ⟨W.heap.size, 0, none⟩ 1 1 [.int .u8 x] rfl rfl (cell_one_new _ _ _) (by simp [Value.oneCell']) (by unfold maxLen; omega) (by omega) (by have := hB.size; simp; omega) ?_; intro v' w1 hown' hgrow _; obtain ⟨g', cap', rfl⟩ := ownsRow_succ hown'; obtain ⟨hv1, hv2, hr2, hk2, hb2⟩ := hv.appended (by decide) hrow (by have := hB.size; omega) hbase hown' hgrow; have hc1 := hv1.cell; have hf1 := hv1.frozen)
    exact ⟨hk2.from _, hb2, ⟨_, hv2, by simpa [Nat.add_assoc] using hr2, trivial⟩, hB.trans hb2⟩
  case done =>
    rintro D ys W hD rfl ⟨⟨v, hv, hrow, _⟩, hB⟩ hK
    have hc := hv.cell
    gi_wp2
    refine ⟨by simp, .inl ⟨_, _, rfl, run_takeDeferred hK, ?_⟩⟩
    exact ⟨_, results_tmp rfl _ _ _, v, rfl, ownsRow_putObj hrow _ hK rfl, hB.trans (belowK_b (w := w) hbase W D _ _ (by simp at hD; omega) hK rfl rfl)⟩
  case stop =>
    rintro D c pre W _ _ h _
    exact h.elim

/-- appendNumber puts a number's bytes behind a row of the call's own (or behind nil). -/
theorem appendNumber_any (N : Nat) (hN : N ≤ 4611686018427387903) (w : World) (base k : Nat) (v : Value) (xs : List Int)
    (hbase : base ≤ w.heap.size) (hown : w.ownsRow base 5 1 v k (xs.map (Value.int .u8))) (hk : k ≤ 1000000) :
    Calls Try.prog 35 #[v, .int .u64 N] w fun e W' => ∃ v', e = .returned v' ∧ W'.ownsRow base 5 1 v' (k + (putL N).length) ((xs ++ putL N).map (Value.int .u8)) ∧ Below base w W' :=
  (callsIn_wide (n := 3)).1 (appendNumber_in _ 3 trivial trivial trivial rfl (by omega) N hN w base k v xs hbase hown hk)

set_option maxHeartbeats 400000 in
theorem put_no (N : Int) (h : 4611686018427387903 < N) (w : World) :
    Calls Try.prog 12 #[.int .u64 N] w fun e w' => e = .returned (.tuple #[.slice none 0 0, .int .i64 1]) ∧ w = w' := by
  go_enter Try.func12, Try.ntmps12
  go_wp2
  go_ret2
  exact ⟨rfl, rfl⟩
/-- What Put answers: a slice of its own memory, with the number's bytes. -/
def PutYes (w : World) (N : Nat) (e : Ending) (w' : World) : Prop :=
  ∃ g cap, e = .returned (.tuple #[.slice (some ⟨g, 0, none⟩) (putL N).length cap, .int .i64 0]) ∧ w'.ownsRow w.heap.size 5 1 (.slice (some ⟨g, 0, none⟩) (putL N).length cap) (putL N).length ((putL N).map (Value.int .u8)) ∧ Below w.heap.size w w'
set_option maxHeartbeats 400000 in
theorem put_yes (N : Nat) (h : N ≤ 4611686018427387903) (w : World) : Calls Try.prog 12 #[.int .u64 N] w (PutYes w N) := by
  have H := Lib.hid (appendNumber_any N h w w.heap.size 0 (.slice none 0 0) [] (Nat.le_refl _) (World.ownsRow_nil _ _ _ _) (by omega))
  go_enter Try.func12, Try.ntmps12
  go_wp2_with (go_at_call 35; refine H.out.mono ?_; rintro e w' ⟨v', rfl, hown, hB⟩)
  have hl := putL_ne N
  obtain ⟨m, hm⟩ : ∃ m, (putL N).length = m + 1 := ⟨(putL N).length - 1, by omega⟩
  have hown' := hown
  simp only [Nat.zero_add, List.nil_append] at hown'
  have hex : ∃ g cap, v' = .slice (some ⟨g, 0, none⟩) (putL N).length cap := by
    rw [hm] at hown' ⊢
    exact ownsRow_succ hown'
  obtain ⟨g, cap, hv⟩ := hex
  rw [hv] at hown' ⊢
  go_ret2
  exact ⟨g, cap, rfl, hown', hB⟩
end Go.Proofs.Ytlkkmeeijjaeiaa
