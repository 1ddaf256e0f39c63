/- The iterator that tells the numbers of a set from a number on: it ranges over the one that tells the places of ones. -/
import Derived.Test.YtgcclijdkcomiaaDoorSi
namespace Go.Proofs.YtgcclijdkcomiaaDoor
open Go.RowKit Go.Shelf
set_option linter.unusedVariables false
attribute [local go_sem] Oper.semAt_some

theorem keeps_below {K : Nat → TypeId → Prop} {w w' : World} (h : Below w.heap.size w w') : Keeps K w w' := ⟨h.size, fun k cs t fr _ hk => (h.block k (Array.getElem?_eq_some_iff.1 hk).1).trans hk⟩
theorem keeps_drewN {K : Nat → TypeId → Prop} (w : World) (n : Nat) : Keeps K w (w.drewN n) := keeps_below (below_drewN (Below.refl _ _) n)
theorem grown_drewN (w : World) (n : Nat) : w.grownBy (w.drewN n) none := by
  have h := below_drewN (Below.refl w.heap.size w) n
  exact ⟨h.os, h.tape, h.output, h.size, fun i hi _ => h.block i hi⟩
theorem OwnFrom.drewN {β : Type} {B : Nat} {I : β → World → Prop} (h : OwnFrom B I) {s : β} {W : World} (n : Nat) (hs : I s W) : I s (W.drewN n) := h s W _ none hs (grown_drewN W n) (fun r e => by cases e)
theorem yield_any {m m' l l' : Nat} {P : Program} {args : Array Value} {W : World} {R : Ending → World → Prop} (h : YieldAt Fence.wide m P l args W R) : YieldAt (Fence.wide.inRound l') m' P l args W R := by
  obtain ⟨fn, tmps, assign, body, hy, hR⟩ := h
  exact ⟨fn, tmps, assign, body, hy, hR.1, fun c cs _ => hR.2 c cs (room_wide _)⟩

/-- The calls of the iterator's maker. -/
theorem ones_any' (A : Option Addr) (L C : Nat) (w : World) : Calls Tryd.prog 71 #[.slice A L C] w fun e w' => e = .returned (.func (.func 96) #[] #[.pointer (some ⟨w.heap.size, 0, none⟩)]) ∧ w' = w.alloc (.cells #[.slice A L C] 30) := by
  go_enter Tryd.func71, Tryd.ntmps71
  go_wp2
  go_ret
  exact ⟨rfl, rfl⟩
theorem ones_stops (n : Nat) (hn : 1 ≤ n) (Bn : Nat) (K : Nat → TypeId → Prop) (A : Option Addr) (ws : List Nat) (hws : ∀ x ∈ ws, x < 18446744073709551616) (hL : ws.length ≤ 32) (N : Nat) (hN : (onesFrom 0 ws).length ≤ N) (w : World) (hB : Bn < w.heap.size)
    (hc : w.cell? ⟨Bn, 0, none⟩ = some (.slice A ws.length ws.length)) (hA : WordsAt K w A ws) (hT : TabK K w) :
    SeqStopsK Fence.wide n Tryd.prog 96 #[.pointer (some ⟨Bn, 0, none⟩)] (fun x : Fin 4096 => #[Value.int .i64 (x.val : Nat)]) (Keeps K) (fun ys => ys.map Fin.val = onesFrom 0 ws) (fun pre => pre.map Fin.val <+: onesFrom 0 ws) N w :=
  fun l J Jx W hW _ _ hY h0 => ones1_in n l Bn hn K A ws hws hL N hN J Jx hY W ((hW.cell (p := ⟨Bn, 0, none⟩) hB).trans hc) (hA.kept (keeps_below hW)) (hT.kept (keeps_below hW)) h0

theorem own_ne {W : World} {B b : Nat} {t : TypeId} {v : Value} {row : Option Nat} (h : Boxed W b t v) (hr : ∀ r, row = some r → B ≤ r ∧ ∃ o : Obj, W.heap[r]? = some o ∧ o.isCells = false) (e : some b = row) : False := by
  obtain ⟨_, o, ho, hc⟩ := hr b e.symm
  rw [show W.heap[b]? = _ from h] at ho
  cases ho
  cases hc
/-- Which numbers have come when so many places have. -/
def outOf (n : Nat) (pre : List (Fin 4096)) : List Nat := ((pre.map Fin.val).map (n / 64 * 64 + ·)).filter (fun j => decide (n ≤ j))
theorem outOf_snoc (n : Nat) (pre : List (Fin 4096)) (x : Fin 4096) : outOf n (pre ++ [x]) = if n ≤ n / 64 * 64 + x.val then outOf n pre ++ [n / 64 * 64 + x.val] else outOf n pre := by
  unfold outOf
  rw [fin_snoc, List.map_append, List.filter_append]
  by_cases h : n ≤ n / 64 * 64 + x.val
  · simp [h]
  · simp [h]
theorem outOf_len (n : Nat) (pre : List (Fin 4096)) : (outOf n pre).length ≤ pre.length := by
  unfold outOf; exact Nat.le_trans (List.length_filter_le _ _) (by simp)

set_option maxRecDepth 100000 in
set_option maxHeartbeats 4000000 in
theorem nums1_in (m l : Nat) (K : Nat → TypeId → Prop) (p : Option Addr) (n : Nat) (vs : List Nat) (B1 B2 B3 : Nat) (hws : ∀ x ∈ vs, x < 18446744073709551616) (hL : vs.length ≤ 32) (hnn : 0 < vs.length → n ≤ 4096)
    (N : Nat) (hN : (onesFrom 0 vs).length = N) (J Jx : List Nat → World → Prop) (W : World)
    (hWF : ∀ W', Below W.heap.size W W' → Calls Tryd.prog 31 #[.pointer p, .int .i64 n] W' fun e w' => (∃ A', e = .returned (.slice A' vs.length vs.length) ∧ WordsAt K W' A' vs) ∧ ∃ k, w' = W'.drewN k)
    (hT : TabK K W) (b1 : Boxed W B1 23 (.pointer p)) (b2 : Boxed W B2 3 (.int .i64 n)) (b3 : Boxed W B3 3 (.int .i64 ((n / 64 * 64 : Nat) : Int))) (k2 : K B2 3) (k3 : K B3 3) (kY : K W.heap.size 35)
    (hl : l < W.heap.size) (hJ : OwnFrom W.heap.size J) (hJx : OwnFrom W.heap.size Jx)
    (hY : ∀ pre x W1, J pre W1 → pre.length < N → YieldAt Fence.wide (m - 1) Tryd.prog l #[.int .i64 (x : Nat)] W1 fun e W' => KeepsFrom (l + 1) W1 W' ∧
      ((e = .returned (.bool true) ∧ J (pre ++ [x]) W' ∧ Keeps K W1 W') ∨ (e = .returned (.bool false) ∧ Jx (pre ++ [x]) W')))
    (h0 : J [] W) :
    CallsIn Fence.wide 5 Tryd.prog 70 #[.func (.yield l) #[] #[], .pointer (some ⟨B1, 0, none⟩), .pointer (some ⟨B2, 0, none⟩), .pointer (some ⟨B3, 0, none⟩)] W fun e W' => (∃ v, e = .returned v) ∧
      ((∃ xs, xs = ((onesFrom 0 vs).map (n / 64 * 64 + ·)).filter (fun j => decide (n ≤ j)) ∧ J xs W') ∨ (∃ pre, pre <+: ((onesFrom 0 vs).map (n / 64 * 64 + ·)).filter (fun j => decide (n ≤ j)) ∧ Jx pre W')) := by
  have f31 : Fence.wide.fn 31 := trivial
  have f71 : Fence.wide.fn 71 := trivial
  have h1 : 1 ≤ 5 := by omega
  have HL := Lib.hid hL
  have HN := Lib.hid hN
  have Hnn := Lib.hid hnn
  clear hL hN hnn
  have c1 := (b1.alloc (.cells #[.func (.yield l) #[] #[]] 35)).cell
  have c2 := (b2.alloc (.cells #[.func (.yield l) #[] #[]] 35)).cell
  refine callsIn_of_wp_marks Tryd.func70 rfl trivial ?_ rfl
  simp only [Tryd.ntmps70, List.size_toArray, List.length_cons, List.length_nil, Nat.reduceAdd, Nat.reduceSub, Array.replicate_succ, Array.replicate_zero, List.push_toArray, List.append_toArray, List.nil_append, List.cons_append]
  have bY := Boxed.new W 35 (.func (.yield l) #[] #[])
  have bel1 : Below W.heap.size W (W.alloc (.cells #[.func (.yield l) #[] #[]] 35)) := (Below.refl _ _).alloc (Nat.le_refl _) _
  have hWF1 := Lib.hid (hWF _ bel1)
  gi_wp2_with (gi_at_call 31; refine (callsIn_wide.2 hWF1.out).mono ?_; rintro e w1 ⟨⟨A', rfl, hA⟩, kk, rfl⟩)
  gi_wp2_with (gi_at_call 71; refine (callsIn_wide.2 (ones_any' A' vs.length vs.length _)).mono ?_; rintro e w1 ⟨rfl, rfl⟩)
  have hs2 : (((W.alloc (.cells #[.func (.yield l) #[] #[]] 35)).drewN kk).alloc (.cells #[.slice A' vs.length vs.length] 30)).heap.size = W.heap.size + 1 + 1 := by simp
  have bw := Boxed.new ((W.alloc (.cells #[.func (.yield l) #[] #[]] 35)).drewN kk) 30 (.slice A' vs.length vs.length)
  have ez : ((W.alloc (.cells #[.func (.yield l) #[] #[]] 35)).drewN kk).heap.size = W.heap.size + 1 := by simp
  have t2 : Below W.heap.size W (((W.alloc (.cells #[.func (.yield l) #[] #[]] 35)).drewN kk).alloc (.cells #[.slice A' vs.length vs.length] 30)) := (below_drewN bel1 kk).alloc (by simp) _
  have t3 : Keeps K (W.alloc (.cells #[.func (.yield l) #[] #[]] 35)) (((W.alloc (.cells #[.func (.yield l) #[] #[]] 35)).drewN kk).alloc (.cells #[.slice A' vs.length vs.length] 30)) := (keeps_drewN _ _).trans (Keeps.alloc _ _ _)
  have bY2 : Boxed (((W.alloc (.cells #[.func (.yield l) #[] #[]] 35)).drewN kk).alloc (.cells #[.slice A' vs.length vs.length] 30)) W.heap.size 35 (.func (.yield l) #[] #[]) := t3.same _ _ _ _ kY bY
  have J2 := hJ.alloc (.cells #[.slice A' vs.length vs.length] 30) (OwnFrom.drewN hJ kk (hJ.alloc (.cells #[.func (.yield l) #[] #[]] 35) h0))
  have hA2 := hA.kept t3
  have hT2 := hT.kept (keeps_below t2)
  have b22 : Boxed _ B2 3 (.int .i64 n) := (t2.block _ b2.lt).trans b2
  have b32 : Boxed _ B3 3 (.int .i64 ((n / 64 * 64 : Nat) : Int)) := (t2.block _ b3.lt).trans b3
  rw [ez] at bw
  clear hA t3 bY hWF1 bel1 h0 hT c1 c2 hWF
  revert hs2 bw t2 bY2 J2 hA2 hT2 b22 b32
  generalize (((W.alloc (.cells #[.func (.yield l) #[] #[]] 35)).drewN kk).alloc (.cells #[.slice A' vs.length vs.length] 30)) = W2
  clear ez
  intro hs2 bw t2 bY2 J2 hA2 hT2 b22 b32
  refine wpIn_rangeFunc_ownG rfl h1 (gf := 96) (lb := #[.pointer (some ⟨W.heap.size + 1, 0, none⟩)]) rfl trivial (enters_of Tryd.func96 (by kernel_rfl) rfl)
    (ones_stops (5 - 1) (by omega) (W.heap.size + 1) K A' vs hws HL.out N (by have := HN.out; omega) W2 (by omega) bw.cell hA2 hT2) (fun h k => Keeps.trans h k) (fun W l o o' _ h hc _ => Keeps.put W l o o' h hc) (Below.refl _ _) (fun _ => rfl)
    (fun pre W' => J (outOf n pre) W' ∧ (outOf n pre).length ≤ pre.length ∧ Boxed W' W.heap.size 35 (.func (.yield l) #[] #[]) ∧ Boxed W' B2 3 (.int .i64 n) ∧ Boxed W' B3 3 (.int .i64 ((n / 64 * 64 : Nat) : Int)))
    (fun c pre W' => c = .ret ∧ Jx (outOf n pre) W')
    ?hI ?hIx ?h0 (fun x => { tmps := #[.func (.yield l) #[] #[], .pointer (some ⟨B1, 0, none⟩), .pointer (some ⟨B2, 0, none⟩), .pointer (some ⟨B3, 0, none⟩), .pointer (some ⟨W.heap.size, 0, none⟩), .int .i64 (x.val : Nat), undef, .pointer p, .int .i64 n, .slice A' vs.length vs.length, .func (.func 96) #[] #[.pointer (some ⟨W.heap.size + 1, 0, none⟩)], .int .i64 (x.val : Nat), undef, undef, undef, undef, undef, undef, undef, undef, undef, undef, undef, undef], defers := [] }) ?assign ?body ?done ?stop
  case hI =>
    intro pre X Y row hs hg hr
    exact ⟨OwnFrom.more hJ (by omega) _ X Y row hs.1 hg hr, hs.2.1, hs.2.2.1.kept hg (fun e => own_ne hs.2.2.1 hr e), hs.2.2.2.1.kept hg (fun e => own_ne hs.2.2.2.1 hr e), hs.2.2.2.2.kept hg (fun e => own_ne hs.2.2.2.2 hr e)⟩
  case hIx =>
    intro c pre X Y row hs hg hr
    exact ⟨hs.1, OwnFrom.more hJx (by omega) _ X Y row hs.2 hg hr⟩
  case h0 => exact ⟨J2, Nat.le_refl _, bY2, b22, b32⟩
  case assign =>
    intro l x W K hK
    gi_wp2
    exact hK
  case body =>
    rintro l' pre x W3 ⟨hJ3, hlen3, bY3, b23, b33⟩ hlt
    have hn4 : n ≤ 4096 := by
      refine Hnn.out ?_
      rcases Nat.eq_zero_or_pos vs.length with h | h
      · have h2 := HN.out
        rw [List.eq_nil_of_length_eq_zero h] at h2
        simp [onesFrom] at h2
        omega
      · exact h
    have hsn := outOf_snoc n pre x
    have hx4 := x.isLt
    have hlo := outOf_len n (pre ++ [x])
    have hyy := fun h => hY (outOf n pre) (n / 64 * 64 + x.val) W3 hJ3 h
    revert b33 hsn hyy
    have hst : n / 64 * 64 ≤ n := by omega
    revert hst
    generalize hst0 : n / 64 * 64 = st
    have HST := Lib.hid hst0
    clear hst0
    generalize x.val = z at hx4 ⊢
    intro hst b33 hsn hyy
    have b33' := Lib.hid b33
    have d3 := b33.cell
    have d2 := b23.cell
    have dY := bY3.cell
    by_cases hge : n ≤ st + z
    · rw [if_pos hge] at hsn
      obtain ⟨fn, tmps, assign, body, hy, hR⟩ := yield_any (m' := 5 - 1 - 1 - 1) (l' := l') (hyy (by omega))
      have hge' : decide ((n : Int) ≤ (st : Int) + (z : Int)) = true := decide_eq_true (by omega)
      have hy' : (Instr.yield l #[.int .i64 ((st : Int) + (z : Int))]).run Tryd.prog W3 = .ok (.round l fn tmps assign body) W3 := by
        rw [← Int.natCast_add]; exact hy
      have hR := Lib.hid hR
      have HS := Lib.hid hsn
      clear hy hyy hsn hge
      gi_wp2
      refine hR.out.mono ?_
      rintro e W4 ⟨hkf, (⟨rfl, hJ4, hk4⟩ | ⟨rfl, hJx4⟩)⟩
      · gi_wp2
        refine ⟨KeepsFrom.more hkf (by omega), hk4, ?_, hlo, hk4.same _ _ _ _ kY bY3, hk4.same _ _ _ _ k2 b23, hk4.same _ _ _ _ k3 b33'.out⟩
        rw [HS.out]; exact hJ4
      · gi_wp2
        refine ⟨KeepsFrom.more hkf (by omega), rfl, ?_⟩
        rw [HS.out]; exact hJx4
    · rw [if_neg hge] at hsn
      have hge' : decide ((n : Int) ≤ (st : Int) + (z : Int)) = false := decide_eq_false (by omega)
      have HS := Lib.hid hsn
      clear hyy hsn hge
      gi_wp2
      refine ⟨fun _ h => (by cases h), ?_⟩
      gi_wp2
      refine ⟨KeepsFrom.refl _ _, Keeps.refl _ _, ?_, hlo, bY3, b23, b33'.out⟩
      rw [HS.out]; exact hJ3
  case done =>
    rintro D ys W3 hD hys ⟨hJ3, _⟩ hK
    gi_wp2
    refine ⟨by simp, .inl ⟨_, _, rfl, run_takeDeferred hK, ?_⟩⟩
    exact ⟨_, results_none rfl _ _ _, ⟨_, rfl⟩, .inl ⟨outOf n ys, by unfold outOf; rw [hys], hJ.putObj _ hJ3 (by omega) hK rfl⟩⟩
  case stop =>
    rintro D c pre W3 hD hys ⟨rfl, hJ3⟩ hK
    gi_wp2
    refine ⟨by simp, .inl ⟨_, _, rfl, run_takeDeferred hK, ?_⟩⟩
    exact ⟨_, results_none rfl _ _ _, ⟨_, rfl⟩, .inr ⟨outOf n pre, by unfold outOf; exact (hys.map _).filter _, hJx.putObj _ hJ3 (by omega) hK rfl⟩⟩
end Go.Proofs.YtgcclijdkcomiaaDoor
