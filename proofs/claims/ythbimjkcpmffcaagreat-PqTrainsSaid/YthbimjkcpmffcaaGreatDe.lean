/- Several texts in one. -/
import Derived.Test.YthbimjkcpmffcaaGreatDd
import Derived.Test.YthbimjkcpmffcaaGreatOw
import Derived.RangeFuncBox
import Derived.Deep.RegionLaw
import Derived.Deep.RegionHeld3
import Derived.Laws.Rows
import Derived.RangeFuncNested
import Derived.RangeFuncBound
import Derived.RangeFuncCalls
import Derived.RangeFuncLeaves
import Derived.Shelf.Abstract
import Derived.Shelf.RegionOpen
import Derived.OwnWalkIn
import Derived.TacticsInMore
import Derived.LoopNIn
import Derived.LoopIn
import Derived.Maps.AppendAt
import Derived.Test.YthbimjkcpmffcaaGreatSo
/- What exchanger hands out: the walk of a change of places. -/
namespace Go.Proofs.YthbimjkcpmffcaaGreat
open Go.RowKit
set_option linter.unusedVariables false

set_option maxRecDepth 100000 in
set_option maxHeartbeats 2000000 in
theorem take_any (b1 b2 g n p d : Nat) (l : List Nat) (hl : l.length = n) (hn : n ≤ 2048) (hp : p < n) (hd : d < n) (w : World) (h1 : Whole w b1 73 #[.slice (some ⟨g, 0, none⟩) n n]) (h2 : Whole w b2 3 #[.int .i64 p]) (hg : Whole w g 3 (rowI l)) (hne : g ≠ b2) :
    Calls Tryz.prog 153 #[.int .i64 d, .pointer (some ⟨b1, 0, none⟩), .pointer (some ⟨b2, 0, none⟩)] w fun e w' => e = .returned (.tuple #[]) ∧ Whole w' g 3 (rowI (swapL l p d)) ∧ Whole w' b2 3 #[.int .i64 ((p : Int) - 1)] ∧ Turn [g, b2] w w' ∧ w'.heap.size = w.heap.size := by
  have c1 : w.cell? ⟨b1, 0, none⟩ = some (.slice (some ⟨g, 0, none⟩) n n) := h1.cell 0
  have c2 : w.cell? ⟨b2, 0, none⟩ = some (.int .i64 p) := h2.cell 0
  have f2 : w.frozen? ⟨b2, 0, none⟩ = false := h2.frozen 0
  have hsw : rowI (swapL l p d) = ((rowI l).setIfInBounds p (.int .i64 ((l[d]?.getD 0 : Nat) : Int))).setIfInBounds d (.int .i64 ((l[p]?.getD 0 : Nat) : Int)) := by
    rw [rowI_set, rowI_set]; rfl
  have cp := (hg.cell p).trans (rowI_at (by omega))
  have cd := (hg.cell d).trans (rowI_at (by omega))
  have hlp : d < (rowI l).size := by rw [rowI_size]; omega
  rw [hsw]
  clear hsw
  revert cp cd hg hlp
  generalize l[p]?.getD 0 = x
  generalize l[d]?.getD 0 = y
  generalize rowI l = row
  intro hg cp cd hlp
  have fp := hg.frozen p
  have fd := hg.frozen d
  have hg1 := hg.set p (.int .i64 (y : Nat))
  have fd1 := hg1.frozen d
  have cd1 : ∃ z, (w.setCell ⟨g, p, none⟩ (.int .i64 (y : Nat))).cell? ⟨g, d, none⟩ = some z := by
    rw [hg1.cell d]
    exact ⟨_, Array.getElem?_eq_getElem (by simpa using hlp)⟩
  obtain ⟨z, cd1⟩ := cd1
  have hg2 := hg1.set d (.int .i64 (x : Nat))
  have t1 : Turn [g, b2] w (w.setCell ⟨g, p, none⟩ (.int .i64 (y : Nat))) := (Turn.refl _ _).setCell (.inl (by simp)) _
  have t2 := t1.setCell (p := ⟨g, d, none⟩) (.inl (by simp)) (.int .i64 (x : Nat))
  have hb2 : Whole ((w.setCell ⟨g, p, none⟩ (.int .i64 (y : Nat))).setCell ⟨g, d, none⟩ (.int .i64 (x : Nat))) b2 3 #[.int .i64 p] := (h2.far (a := ⟨g, p, none⟩) (Ne.symm hne) _).far (a := ⟨g, d, none⟩) (Ne.symm hne) _
  have hs2 : ((w.setCell ⟨g, p, none⟩ (.int .i64 (y : Nat))).setCell ⟨g, d, none⟩ (.int .i64 (x : Nat))).heap.size = w.heap.size := by simp
  have hb1 : g ≠ b1 := fun e => by
    subst e
    have := hg.symm.trans h1
    simp at this
  have c1' : (w.setCell ⟨g, p, none⟩ (.int .i64 (y : Nat))).cell? ⟨b1, 0, none⟩ = some (.slice (some ⟨g, 0, none⟩) n n) := (h1.far (a := ⟨g, p, none⟩) (Ne.symm hb1) _).cell 0
  have c2' : (w.setCell ⟨g, p, none⟩ (.int .i64 (y : Nat))).cell? ⟨b2, 0, none⟩ = some (.int .i64 p) := (h2.far (a := ⟨g, p, none⟩) (Ne.symm hne) _).cell 0
  clear hg1 hg t1 hb1
  have HG := Lib.hid hg2
  have HT := Lib.hid t2
  have HB := Lib.hid hb2
  have HS := Lib.hid hs2
  clear hg2 t2 hb2 hs2 h1 h2
  go_enter Tryz.func153, Tryz.ntmps153
  go_wp2
  go_region
  clear cp cd fp fd fd1 cd1 c1' c2' c1 c2 f2
  have HG2 : Whole ((w.setCell ⟨g, p, none⟩ (.int .i64 (y : Nat))).setCell ⟨g, d, none⟩ (.int .i64 (x : Nat))).drew g 3 ((row.setIfInBounds p (.int .i64 (y : Nat))).setIfInBounds d (.int .i64 (x : Nat))) := HG.out
  have HB2 : Whole ((w.setCell ⟨g, p, none⟩ (.int .i64 (y : Nat))).setCell ⟨g, d, none⟩ (.int .i64 (x : Nat))).drew b2 3 #[.int .i64 p] := HB.out
  have HT2 : Turn [g, b2] w ((w.setCell ⟨g, p, none⟩ (.int .i64 (y : Nat))).setCell ⟨g, d, none⟩ (.int .i64 (x : Nat))).drew := HT.out.drew
  have HS2 : ((w.setCell ⟨g, p, none⟩ (.int .i64 (y : Nat))).setCell ⟨g, d, none⟩ (.int .i64 (x : Nat))).drew.heap.size = w.heap.size := HS.out
  revert HG2 HB2 HT2 HS2
  generalize ((w.setCell ⟨g, p, none⟩ (.int .i64 (y : Nat))).setCell ⟨g, d, none⟩ (.int .i64 (x : Nat))).drew = W2
  intro HG2 HB2 HT2 HS2
  clear HG HB HT HS
  have c3 : W2.cell? ⟨b2, 0, none⟩ = some (.int .i64 p) := HB2.cell 0
  have f3 : W2.frozen? ⟨b2, 0, none⟩ = false := HB2.frozen 0
  have hB3 : Whole (W2.setCell ⟨b2, 0, none⟩ (.int .i64 ((p : Int) - 1))) b2 3 #[.int .i64 ((p : Int) - 1)] := HB2.set 0 _
  have hG3 := HG2.far (a := ⟨b2, 0, none⟩) hne (.int .i64 ((p : Int) - 1))
  have hT3 := HT2.setCell (p := ⟨b2, 0, none⟩) (.inl (by simp)) (.int .i64 ((p : Int) - 1))
  have hS3 := Lib.hid (show (W2.setCell ⟨b2, 0, none⟩ (.int .i64 ((p : Int) - 1))).heap.size = w.heap.size by simpa using HS2)
  clear HS2
  go_wp2
  go_end0
  exact ⟨rfl, hG3, hB3, hT3, hS3.out⟩
end Go.Proofs.YthbimjkcpmffcaaGreat
/- The iterator of drawsFor, and the walk of Shuffle. -/
namespace Go.Proofs.YthbimjkcpmffcaaGreat
open Go.RowKit Go.Shelf
set_option linter.unusedVariables false
attribute [local go_sem] Oper.semAt_some
/-- A draw below n, and a seed. -/
abbrev Dr (n : Nat) : Type := { x : Nat × Nat // x.1 < n }
def vals {n : Nat} (l : List (Dr n)) : List (Nat × Nat) := l.map Subtype.val
theorem vals_snoc {n : Nat} (l : List (Dr n)) (x : Dr n) : vals (l ++ [x]) = vals l ++ [x.val] := by simp [vals]
theorem vals_len {n : Nat} (l : List (Dr n)) : (vals l).length = l.length := by simp [vals]
def encD {n : Nat} (x : Dr n) : Array Value := #[.int .i64 (x.val.1 : Nat), .int .u64 (x.val.2 : Nat)]
set_option maxRecDepth 100000 in
set_option maxHeartbeats 2000000 in
theorem draws_in (n m l B1 B2 s : Nat) (hn : n ≤ 2048) (N : Nat) (hN : N = n - 1) (J Jx : List (Dr n) → World → Prop)
    (hY : ∀ pre x W, J pre W → pre.length < N → YieldAt Fence.wide (m - 1) Tryz.prog l (encD x) W fun e W' =>
      (e = .returned (.bool true) ∧ J (pre ++ [x]) W') ∨ (e = .returned (.bool false) ∧ Jx (pre ++ [x]) W'))
    (W : World) (h1 : W.cell? ⟨B1, 0, none⟩ = some (.int .u64 s)) (h2 : W.cell? ⟨B2, 0, none⟩ = some (.int .i64 n)) (h0 : J [] W) (hm : 1 ≤ m) :
    CallsIn Fence.wide m Tryz.prog 154 #[.func (.yield l) #[] #[], .pointer (some ⟨B1, 0, none⟩), .pointer (some ⟨B2, 0, none⟩)] W fun e W' => (∃ v, e = .returned v) ∧
      ((∃ ys : List (Dr n), vals ys = drs (n - 1) s ∧ J ys W') ∨ (∃ pre : List (Dr n), vals pre <+: drs (n - 1) s ∧ Jx pre W')) := by
  have f19 : Fence.wide.fn 155 := trivial
  have HN := Lib.hid hN
  clear hN
  refine callsIn_of_wp Tryz.func154 rfl trivial ?_ rfl
  simp only [Tryz.ntmps154, List.size_toArray, List.length_cons, List.length_nil, Nat.reduceAdd, Nat.reduceSub, Array.replicate_succ, Array.replicate_zero, List.push_toArray, List.append_toArray, List.nil_append, List.cons_append]
  gi_wp2
  gi_loopw [4, 5] (fun f i wr => ∃ (s' : Nat) (p : Int) (pre : List (Dr n)), f = .int .u64 s' ∧ i = .int .i64 p ∧ -1 ≤ p ∧ p ≤ (n : Int) - 1 ∧ Hid (drs (n - 1) s = vals pre ++ drs p.toNat s') ∧ J pre wr) (fun _ i _ => (intOf i).toNat)
  case atStart => exact ⟨s, (n : Int) - 1, [], rfl, rfl, by omega, by omega, by show _ = _; rw [show ((n : Int) - 1).toNat = n - 1 by omega]; rfl, h0⟩
  case round =>
    clear h0 h1 h2
    obtain ⟨s', p, pre, rfl, rfl, hp1, hp2, hx, hJ⟩ := hrel
    by_cases hlt : 1 ≤ p
    · obtain ⟨i, rfl⟩ : ∃ i : Nat, p = (i : Int) + 1 := ⟨(p - 1).toNat, by omega⟩
      have hin : i + 2 ≤ n := by omega
      have HB := Lib.hid (below_any s' (i + 2) (by omega) (by omega) wr)
      have hd := Nat.mod_lt (numOf (behindOf s')) (show 0 < i + 2 by omega)
      have hx1 : drs (n - 1) s = (vals pre ++ [(dr s' (i + 2), behindOf s')]) ++ drs i (behindOf s') := by
        have h1 := hx.out
        rw [show ((i : Int) + 1).toNat = i + 1 by omega, drs_succ] at h1
        rw [h1]; simp [dr]
      clear hx
      have hd2 : dr s' (i + 2) < n := by unfold dr; omega
      clear hd
      revert HB hx1 hd2
      generalize dr s' (i + 2) = d
      generalize behindOf s' = b
      intro HB hx1 hd2
      have hlen : pre.length < N := by
        have h1 := congrArg List.length hx1
        have h2 := HN.out
        rw [drs_len, List.length_append, List.length_append, vals_len, List.length_singleton] at h1
        omega
      obtain ⟨fn, tmps, assign, body, hy, hR⟩ := hY pre ⟨(d, b), hd2⟩ wr hJ hlen
      have hx2 : Hid (drs (n - 1) s = vals (pre ++ [(⟨(d, b), hd2⟩ : Dr n)]) ++ drs i b) := by
        rw [Hid, vals_snoc]; exact hx1
      have hy' : (Instr.yield l #[.int .i64 (d : Nat), .int .u64 (b : Nat)]).run Tryz.prog wr = .ok (.round l fn tmps assign body) wr := hy
      have HR := Lib.hid hR
      clear hy hR
      have e2 : ((i + 2 : Nat) : Int) = (i : Int) + 1 + 1 := by omega
      have HB2 : Hid (Calls Tryz.prog 155 #[.int .u64 s', .int .i64 ((i : Int) + 1 + 1)] wr fun e w' => e = .returned (.tuple #[.int .i64 (d : Nat), .int .u64 (b : Nat)]) ∧ w' = wr) := by
        rw [← e2]; exact HB
      clear HB hx1 e2 hlen
      gi_wp2_with (gi_at_call 155; refine (callsIn_wide.2 HB2.out).mono ?_; rintro e w1 ⟨rfl, rfl⟩)
      refine HR.out.mono ?_
      rintro e W3 (⟨rfl, hJ3⟩ | ⟨rfl, hJx3⟩)
      · gi_wp2
        go_roundw
        case rel => exact ⟨b, (i : Int), _, rfl, by go_num, by omega, by omega, by rw [Int.toNat_natCast]; exact hx2, hJ3⟩
        case measure => simp [intOf]
      · gi_wp2
        refine bodyPost_ret (results_none rfl _ _ _) rfl ?_
        exact ⟨⟨_, rfl⟩, .inr ⟨_, ⟨_, hx2.out.symm⟩, hJx3⟩⟩
    · have e1 : decide ((1 : Int) ≤ p) = false := decide_eq_false hlt
      gi_wp2
      go_end0
      refine ⟨⟨_, rfl⟩, .inl ⟨pre, ?_, hJ⟩⟩
      have h1 := hx.out
      rw [show p.toNat = 0 by omega, show drs 0 s' = [] by rfl, List.append_nil] at h1
      exact h1.symm
/-- The iterator's contract. -/
theorem draws_seq (n m B1 B2 s : Nat) (hn : n ≤ 2048) (hm : 1 ≤ m) (w : World) (hb1 : Whole w B1 63 #[.int .u64 s]) (hb2 : Whole w B2 3 #[.int .i64 n]) :
    SeqO Fence.wide m Tryz.prog 154 #[.pointer (some ⟨B1, 0, none⟩), .pointer (some ⟨B2, 0, none⟩)] (fun x : Dr n => encD x) (fun _ _ => True) (fun ys => vals ys = drs (n - 1) s) (fun pre => vals pre <+: drs (n - 1) s) (n - 1) w :=
  fun l J Jx W hW hl hJ hJx hY h0 => draws_in n m l B1 B2 s hn (n - 1) rfl J Jx (fun pre x W1 hJ1 hlen => (hY pre x W1 hJ1 hlen).mono fun e W' h => by
      rcases h.2 with ⟨h1, h2, _⟩ | ⟨h1, h2⟩
      · exact .inl ⟨h1, h2⟩
      · exact .inr ⟨h1, h2⟩) W ((hW.cell (p := ⟨B1, 0, none⟩) hb1.lt).trans (hb1.cell 0)) ((hW.cell (p := ⟨B2, 0, none⟩) hb2.lt).trans (hb2.cell 0)) h0 hm
end Go.Proofs.YthbimjkcpmffcaaGreat
