/- The iterator that tells the places of the ones in words. -/
import Derived.RangeFuncBox
import Derived.RangeFuncNested
import Derived.RangeFuncBound
import Derived.RangeFuncCalls
import Derived.RangeFuncLeaves
import Derived.Shelf.Abstract
import Derived.Shelf.RegionOpen
import Derived.WalkKit
import Derived.OwnWalkIn
import Derived.TacticsInMore
import Derived.LoopNIn
import Derived.LoopIn
import Derived.Maps.AppendAt
import Derived.Test.YtgcclijdkcomiaaDoorSo
import Derived.Test.YtgcclijdkcomiaaDoorSd
namespace Go.Proofs.YtgcclijdkcomiaaDoor
open Go.RowKit Go.Shelf
set_option linter.unusedVariables false
attribute [local go_sem] Oper.semAt_some

/-- Words that a slice value at A reads as, in a block that the rule K names. -/
def WordsAt (K : Nat → TypeId → Prop) (w : World) (A : Option Addr) (ws : List Nat) : Prop :=
  0 < ws.length → ∃ g off cs fr, A = some ⟨g, off, none⟩ ∧ K g 67 ∧ w.heap[g]? = some (.cells cs 67 fr) ∧ ∀ i, i < ws.length → cs[off + i]? = some (.int .u64 ((ws[i]?.getD 0 : Nat) : Int))
theorem WordsAt.kept {K : Nat → TypeId → Prop} {w w' : World} {A : Option Addr} {ws : List Nat} (h : WordsAt K w A ws) (k : Keeps K w w') : WordsAt K w' A ws := fun hl => by
  obtain ⟨g, off, cs, fr, h1, h2, h3, h4⟩ := h hl
  exact ⟨g, off, cs, fr, h1, h2, k.same _ _ _ _ h2 h3, h4⟩
theorem WordsAt.at_ {K : Nat → TypeId → Prop} {w : World} {A : Option Addr} {ws : List Nat} (h : WordsAt K w A ws) {i : Nat} (hi : i < ws.length) :
    ∃ g off, A = some ⟨g, off, none⟩ ∧ w.cell? ⟨g, off + i, none⟩ = some (.int .u64 ((ws[i]?.getD 0 : Nat) : Int)) := by
  obtain ⟨g, off, cs, fr, h1, h2, h3, h4⟩ := h (by omega)
  exact ⟨g, off, h1, by rw [cell_of_row w g (off + i) cs 67 fr h3]; exact h4 i hi⟩
/-- The table of math/bits, in a block that the rule K names. -/
def TabK (K : Nat → TypeId → Prop) (w : World) : Prop := ∃ cs t fr, K 0 t ∧ w.heap[0]? = some (.cells cs t fr) ∧ ∀ j, j < 64 → cs[j]? = some (.int .u8 ((Lib.deBruijn64tab.getD j 0 : Nat) : Int))
theorem TabK.kept {K : Nat → TypeId → Prop} {w w' : World} (h : TabK K w) (k : Keeps K w w') : TabK K w' := by
  obtain ⟨cs, t, fr, h1, h2, h3⟩ := h
  exact ⟨cs, t, fr, h1, k.same _ _ _ _ h1 h2, h3⟩
theorem TabK.tab {K : Nat → TypeId → Prop} {w : World} (h : TabK K w) : Tab w := fun j hj => by
  obtain ⟨cs, t, fr, h1, h2, h3⟩ := h
  rw [cell_of_row w 0 j cs t fr h2]; exact h3 j hj
theorem Tab.tabK {K : Nat → TypeId → Prop} {w : World} (h : Tab w) (hK : ∀ t, K 0 t) : TabK K w := by
  have h0 := h 0 (by omega)
  rcases hb : w.heap[0]? with _ | o
  · simp [World.cell?, hb] at h0
  · cases o with
    | cells cs t fr =>
      refine ⟨cs, t, fr, hK t, hb, fun j hj => ?_⟩
      have := h j hj
      rwa [cell_of_row w 0 j cs t fr hb] at this
    | _ => simp [World.cell?, hb] at h0

theorem ones_word (ws : List Nat) (k : Nat) (hk : k < ws.length) : onesFrom k (ws.drop k) = (bitsOf (ws[k]?.getD 0)).map (k * 64 + ·) ++ onesFrom (k + 1) (ws.drop (k + 1)) := by
  rw [List.drop_eq_getElem_cons hk, List.getElem?_eq_getElem hk]; rfl
theorem fin_snoc (pre : List (Fin 4096)) (x : Fin 4096) : (pre ++ [x]).map Fin.val = pre.map Fin.val ++ [x.val] := by simp
set_option maxRecDepth 100000 in
set_option maxHeartbeats 2000000 in
theorem ones1_in (n l Bn : Nat) (hn : 1 ≤ n) (K : Nat → TypeId → Prop) (A : Option Addr) (ws : List Nat) (hws : ∀ x ∈ ws, x < 18446744073709551616) (hL : ws.length ≤ 32) (N : Nat) (hN : (onesFrom 0 ws).length ≤ N) (J Jx : List (Fin 4096) → World → Prop)
    (hY : ∀ pre x W, J pre W → pre.length < N → YieldAt Fence.wide (n - 1) Tryd.prog l #[.int .i64 (x.val : Nat)] W fun e W' =>
      (e = .returned (.bool true) ∧ J (pre ++ [x]) W' ∧ Keeps K W W') ∨ (e = .returned (.bool false) ∧ Jx (pre ++ [x]) W'))
    (W : World) (hBn : W.cell? ⟨Bn, 0, none⟩ = some (.slice A ws.length ws.length)) (hA : WordsAt K W A ws) (hT : TabK K W) (h0 : J [] W) :
    CallsIn Fence.wide n Tryd.prog 96 #[.func (.yield l) #[] #[], .pointer (some ⟨Bn, 0, none⟩)] W fun e W' => (∃ v, e = .returned v) ∧
      ((∃ ys : List (Fin 4096), ys.map Fin.val = onesFrom 0 ws ∧ J ys W') ∨ (∃ pre : List (Fin 4096), pre.map Fin.val <+: onesFrom 0 ws ∧ Jx pre W')) := by
  have f97 : Fence.wide.fn 97 := trivial
  have HN := Lib.hid hN
  clear hN
  have HWS := Lib.hid hws
  clear hws
  refine callsIn_of_wp Tryd.func96 rfl trivial ?_ rfl
  simp only [Tryd.ntmps96, List.size_toArray, List.length_cons, List.length_nil, Nat.reduceAdd, Nat.reduceSub, Array.replicate_succ, Array.replicate_zero, List.push_toArray, List.append_toArray, List.nil_append, List.cons_append]
  gi_wp2
  gi_loopw [7, 3, 4] (fun i _ _ wr => ∃ (k : Nat) (pre : List (Fin 4096)), k ≤ ws.length ∧ i = .int .i64 k ∧ Hid (onesFrom 0 ws = pre.map Fin.val ++ onesFrom k (ws.drop k)) ∧ J pre wr ∧ WordsAt K wr A ws ∧ TabK K wr) (fun i _ _ _ => ws.length - (intOf i).toNat)
  case atStart => exact ⟨0, [], Nat.zero_le _, rfl, rfl, h0, hA, hT⟩
  case round =>
    obtain ⟨k, pre, hk, rfl, hx, hJ, hAk, hTk⟩ := hrel
    by_cases hlt : k < ws.length
    · obtain ⟨g, off, hAg, hc⟩ := hAk.at_ hlt
      have hr0 : ws[k]?.getD 0 < 18446744073709551616 := by rw [List.getElem?_eq_getElem hlt]; exact HWS.out _ (List.getElem_mem hlt)
      have hx0 : Hid (onesFrom 0 ws = pre.map Fin.val ++ ((bitsOf (ws[k]?.getD 0)).map (k * 64 + ·) ++ onesFrom (k + 1) (ws.drop (k + 1)))) := by
        have h1 := hx.out
        rw [ones_word ws k hlt] at h1
        exact h1
      clear hx
      revert hc hx0 hr0
      generalize ws[k]?.getD 0 = r0
      intro hc hr0 hx0
      have hr0 := Lib.hid hr0
      obtain ⟨wo, rfl⟩ : ∃ wo : World, wo = wr := ⟨_, rfl⟩
      gi_wp2
      clear hAg
      gi_loopw [4] (fun x wr => ∃ (r : Nat) (pre : List (Fin 4096)), Hid (r < 18446744073709551616) ∧ x = .int .u64 r ∧ Hid (onesFrom 0 ws = pre.map Fin.val ++ ((bitsOf r).map (k * 64 + ·) ++ onesFrom (k + 1) (ws.drop (k + 1)))) ∧ J pre wr ∧ WordsAt K wr A ws ∧ TabK K wr) (fun x _ => (intOf x).toNat)
      case atStart => exact ⟨r0, pre, hr0, rfl, hx0, hJ, hAk, hTk⟩
      case round =>
        clear hr0 hx0 hJ hAk hTk hc
        obtain ⟨r, pre, hr, rfl, hx, hJ, hAk, hTk⟩ := hrel
        by_cases hz : r = 0
        · subst hz
          have hx3 : Hid (onesFrom 0 ws = pre.map Fin.val ++ onesFrom (k + 1) (ws.drop (k + 1))) := by
            have h1 := hx.out
            rw [bitsOf_zero, List.map_nil, List.nil_append] at h1
            exact h1
          gi_wp2
          go_roundw
          case rel => exact ⟨k + 1, pre, by omega, by go_num, hx3, hJ, hAk, hTk⟩
          case measure => simp [intOf]; omega
        · have hz1 : ((r : Int) != 0) = true := by simp; omega
          have hb := bitsOf_step r hz hr.out
          have hc64 := (low_bit r hz hr.out).2.1
          have hlo := Lib.hid (low_lt r hz)
          have hTZ := Lib.hid (tz_any r hz hr.out wr hTk.tab)
          have E1 : bits BinOp.and IntKind.u64 (r : Int) ((r : Int) - 1) = ((r &&& (r - 1) : Nat) : Int) := by
            have := bits_and_u64_nat r (r - 1) hr.out (by have := hr.out; omega)
            rw [← this]; congr 1; omega
          have hx1 : Hid (onesFrom 0 ws = (pre.map Fin.val ++ [k * 64 + Lib.ctz 64 r]) ++ ((bitsOf (r &&& (r - 1))).map (k * 64 + ·) ++ onesFrom (k + 1) (ws.drop (k + 1)))) := by
            have h1 := hx.out
            rw [hb, List.map_cons] at h1
            rw [Hid, h1]; simp
          have hlen : pre.length < N := by
            have h1 := congrArg List.length hx1.out
            have h2 := HN.out
            simp only [List.length_append, List.length_map, List.length_cons, List.length_nil] at h1
            omega
          have hfin : k * 64 + Lib.ctz 64 r < 4096 := by omega
          obtain ⟨fn, tmps, assign, body, hy, hR⟩ := hY pre ⟨k * 64 + Lib.ctz 64 r, hfin⟩ wr hJ hlen
          have hr2 : Hid (r &&& (r - 1) < 18446744073709551616) := by have := hr.out; have := hlo.out; show _ < _; omega
          have hx2 : Hid (onesFrom 0 ws = ((pre ++ [(⟨k * 64 + Lib.ctz 64 r, hfin⟩ : Fin 4096)]).map Fin.val) ++ ((bitsOf (r &&& (r - 1))).map (k * 64 + ·) ++ onesFrom (k + 1) (ws.drop (k + 1)))) := by
            rw [Hid, fin_snoc]; exact hx1.out
          have hy' : (Instr.yield l #[.int .i64 ((k : Int) * 64 + (Lib.ctz 64 r : Nat))]).run Tryd.prog wr = .ok (.round l fn tmps assign body) wr := by
            have e : (((k * 64 + Lib.ctz 64 r : Nat)) : Int) = (k : Int) * 64 + (Lib.ctz 64 r : Nat) := by omega
            rw [← e]; exact hy
          have hR := Lib.hid hR
          clear hy hb hx hx1
          have hrr : (r : Int) ≤ 18446744073709551615 := by have := hr.out; omega
          have hrp : (1 : Int) ≤ (r : Int) := by omega
          clear hr
          gi_wp2_with (gi_at_call 97; refine (callsIn_wide.2 hTZ.out).mono ?_; rintro e w1 ⟨rfl, rfl⟩)
          refine hR.out.mono ?_
          rintro e W3 (⟨rfl, hJ3, hk3⟩ | ⟨rfl, hJx3⟩)
          · gi_wp2
            go_roundw
            case rel => exact ⟨r &&& (r - 1), _, hr2, by go_num, hx2, hJ3, hAk.kept hk3, hTk.kept hk3⟩
            case measure => simp [intOf]; exact hlo.out
          · gi_wp2
            refine bodyPost_ret (results_none rfl _ _ _) rfl ?_
            exact ⟨⟨_, rfl⟩, .inr ⟨_, ⟨_, hx2.out.symm⟩, hJx3⟩⟩
    · obtain rfl : k = ws.length := by omega
      gi_wp2
      go_end0
      refine ⟨⟨_, rfl⟩, .inl ⟨pre, ?_, hJ⟩⟩
      have h1 := hx.out
      rw [List.drop_length, onesFrom_len0, List.append_nil] at h1
      exact h1.symm
end Go.Proofs.YtgcclijdkcomiaaDoor
