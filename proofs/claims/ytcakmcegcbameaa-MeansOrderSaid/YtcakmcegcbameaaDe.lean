/- The iterator of drawsFor, and the walk of Shuffle. -/
import Derived.RangeFuncBox
import Derived.RangeFuncNested
import Derived.RangeFuncBound
import Derived.RangeFuncCalls
import Derived.RangeFuncLeaves
import Derived.Shelf.Abstract
import Derived.Shelf.RegionOpen
import Derived.OwnWalkIn
import Derived.TacticsInMore
import Derived.LoopNIn
import Derived.LoopIn
import Derived.Maps.AppendAt
import Derived.Test.YtcakmcegcbameaaSo
import Derived.Test.YtcakmcegcbameaaDt
namespace Go.Proofs.Ytcakmcegcbameaa
open Go.RowKit Go.Shelf
set_option linter.unusedVariables false
attribute [local go_sem] Oper.semAt_some
/-- A draw below n, and a seed. -/
abbrev Dr (n : Nat) : Type := { x : Nat × Nat // x.1 < n }
def vals {n : Nat} (l : List (Dr n)) : List (Nat × Nat) := l.map Subtype.val
theorem vals_snoc {n : Nat} (l : List (Dr n)) (x : Dr n) : vals (l ++ [x]) = vals l ++ [x.val] := by simp [vals]
theorem vals_len {n : Nat} (l : List (Dr n)) : (vals l).length = l.length := by simp [vals]
def encD {n : Nat} (x : Dr n) : Array Value := #[.int .i64 (x.val.1 : Nat), .int .u64 (x.val.2 : Nat)]
set_option maxRecDepth 100000 in
set_option maxHeartbeats 2000000 in
theorem draws_in (n m l B1 B2 s : Nat) (hn : n ≤ 2048) (N : Nat) (hN : N = n - 1) (J Jx : List (Dr n) → World → Prop)
    (hY : ∀ pre x W, J pre W → pre.length < N → YieldAt Fence.wide (m - 1) Try.prog l (encD x) W fun e W' =>
      (e = .returned (.bool true) ∧ J (pre ++ [x]) W') ∨ (e = .returned (.bool false) ∧ Jx (pre ++ [x]) W'))
    (W : World) (h1 : W.cell? ⟨B1, 0, none⟩ = some (.int .u64 s)) (h2 : W.cell? ⟨B2, 0, none⟩ = some (.int .i64 n)) (h0 : J [] W) (hm : 1 ≤ m) :
    CallsIn Fence.wide m Try.prog 61 #[.func (.yield l) #[] #[], .pointer (some ⟨B1, 0, none⟩), .pointer (some ⟨B2, 0, none⟩)] W fun e W' => (∃ v, e = .returned v) ∧
      ((∃ ys : List (Dr n), vals ys = drs (n - 1) s ∧ J ys W') ∨ (∃ pre : List (Dr n), vals pre <+: drs (n - 1) s ∧ Jx pre W')) := by
  have f19 : Fence.wide.fn 62 := trivial
  have HN := Lib.hid hN
  clear hN
  refine callsIn_of_wp Try.func61 rfl trivial ?_ rfl
  simp only [Try.ntmps61, List.size_toArray, List.length_cons, List.length_nil, Nat.reduceAdd, Nat.reduceSub, Array.replicate_succ, Array.replicate_zero, List.push_toArray, List.append_toArray, List.nil_append, List.cons_append]
  gi_wp2
  gi_loopw [4, 5] (fun f i wr => ∃ (s' : Nat) (p : Int) (pre : List (Dr n)), f = .int .u64 s' ∧ i = .int .i64 p ∧ -1 ≤ p ∧ p ≤ (n : Int) - 1 ∧ Hid (drs (n - 1) s = vals pre ++ drs p.toNat s') ∧ J pre wr) (fun _ i _ => (intOf i).toNat)
  case atStart => exact ⟨s, (n : Int) - 1, [], rfl, rfl, by omega, by omega, by show _ = _; rw [show ((n : Int) - 1).toNat = n - 1 by omega]; rfl, h0⟩
  case round =>
    clear h0 h1 h2
    obtain ⟨s', p, pre, rfl, rfl, hp1, hp2, hx, hJ⟩ := hrel
    by_cases hlt : 1 ≤ p
    · obtain ⟨i, rfl⟩ : ∃ i : Nat, p = (i : Int) + 1 := ⟨(p - 1).toNat, by omega⟩
      have hin : i + 2 ≤ n := by omega
      have HB := Lib.hid (below_any s' (i + 2) (by omega) (by omega) wr)
      have hd := Nat.mod_lt (numOf (behindOf s')) (show 0 < i + 2 by omega)
      have hx1 : drs (n - 1) s = (vals pre ++ [(dr s' (i + 2), behindOf s')]) ++ drs i (behindOf s') := by
        have h1 := hx.out
        rw [show ((i : Int) + 1).toNat = i + 1 by omega, drs_succ] at h1
        rw [h1]; simp [dr]
      clear hx
      have hd2 : dr s' (i + 2) < n := by unfold dr; omega
      clear hd
      revert HB hx1 hd2
      generalize dr s' (i + 2) = d
      generalize behindOf s' = b
      intro HB hx1 hd2
      have hlen : pre.length < N := by
        have h1 := congrArg List.length hx1
        have h2 := HN.out
        rw [drs_len, List.length_append, List.length_append, vals_len, List.length_singleton] at h1
        omega
      obtain ⟨fn, tmps, assign, body, hy, hR⟩ := hY pre ⟨(d, b), hd2⟩ wr hJ hlen
      have hx2 : Hid (drs (n - 1) s = vals (pre ++ [(⟨(d, b), hd2⟩ : Dr n)]) ++ drs i b) := by
        rw [Hid, vals_snoc]; exact hx1
      have hy' : (Instr.yield l #[.int .i64 (d : Nat), .int .u64 (b : Nat)]).run Try.prog wr = .ok (.round l fn tmps assign body) wr := hy
      have HR := Lib.hid hR
      clear hy hR
      have e2 : ((i + 2 : Nat) : Int) = (i : Int) + 1 + 1 := by omega
      have HB2 : Hid (Calls Try.prog 62 #[.int .u64 s', .int .i64 ((i : Int) + 1 + 1)] wr fun e w' => e = .returned (.tuple #[.int .i64 (d : Nat), .int .u64 (b : Nat)]) ∧ w' = wr) := by
        rw [← e2]; exact HB
      clear HB hx1 e2 hlen
      gi_wp2_with (gi_at_call 62; refine (callsIn_wide.2 HB2.out).mono ?_; rintro e w1 ⟨rfl, rfl⟩)
      refine HR.out.mono ?_
      rintro e W3 (⟨rfl, hJ3⟩ | ⟨rfl, hJx3⟩)
      · gi_wp2
        go_roundw
        case rel => exact ⟨b, (i : Int), _, rfl, by go_num, by omega, by omega, by rw [Int.toNat_natCast]; exact hx2, hJ3⟩
        case measure => simp [intOf]
      · gi_wp2
        refine bodyPost_ret (results_none rfl _ _ _) rfl ?_
        exact ⟨⟨_, rfl⟩, .inr ⟨_, ⟨_, hx2.out.symm⟩, hJx3⟩⟩
    · have e1 : decide ((1 : Int) ≤ p) = false := decide_eq_false hlt
      gi_wp2
      go_end0
      refine ⟨⟨_, rfl⟩, .inl ⟨pre, ?_, hJ⟩⟩
      have h1 := hx.out
      rw [show p.toNat = 0 by omega, show drs 0 s' = [] by rfl, List.append_nil] at h1
      exact h1.symm
/-- The iterator's contract. -/
theorem draws_seq (n m B1 B2 s : Nat) (hn : n ≤ 2048) (hm : 1 ≤ m) (w : World) (hb1 : Whole w B1 42 #[.int .u64 s]) (hb2 : Whole w B2 3 #[.int .i64 n]) :
    SeqO Fence.wide m Try.prog 61 #[.pointer (some ⟨B1, 0, none⟩), .pointer (some ⟨B2, 0, none⟩)] (fun x : Dr n => encD x) (fun _ _ => True) (fun ys => vals ys = drs (n - 1) s) (fun pre => vals pre <+: drs (n - 1) s) (n - 1) w :=
  fun l J Jx W hW hl hJ hJx hY h0 => draws_in n m l B1 B2 s hn (n - 1) rfl J Jx (fun pre x W1 hJ1 hlen => (hY pre x W1 hJ1 hlen).mono fun e W' h => by
      rcases h.2 with ⟨h1, h2, _⟩ | ⟨h1, h2⟩
      · exact .inl ⟨h1, h2⟩
      · exact .inr ⟨h1, h2⟩) W ((hW.cell (p := ⟨B1, 0, none⟩) hb1.lt).trans (hb1.cell 0)) ((hW.cell (p := ⟨B2, 0, none⟩) hb2.lt).trans (hb2.cell 0)) h0 hm
end Go.Proofs.Ytcakmcegcbameaa
