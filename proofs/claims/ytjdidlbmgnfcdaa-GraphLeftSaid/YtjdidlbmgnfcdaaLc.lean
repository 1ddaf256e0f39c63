/- The walks of math/bits.Mul and slices.Repeat at one number, as often as a graph has nodes. -/
import Derived.Test.YtjdidlbmgnfcdaaLa
import Derived.Test.YtjdidlbmgnfcdaaKi
import Derived.Test.YtjdidlbmgnfcdaaKj
import Derived.Laws.CopyOwn
import Derived.Deep.RegionLaw
import Derived.Deep.RegionHeld3
namespace Go.Proofs.Ytjdidlbmgnfcdaa
open Go.RowKit
set_option linter.unusedVariables false
set_option maxRecDepth 100000 in
theorem mul64_any (n : Nat) (hn : n ≤ 2048) (w : World) :
    Calls Try.prog 85 #[.int .u64 1, .int .u64 (n : Int)] w fun e w' => e = .returned (.tuple #[.int .u64 0, .int .u64 n]) ∧ w' = w := by
  have B1 : bits BinOp.and IntKind.u64 1 4294967295 = 1 := by
    have := bits_and_u64_nat 1 4294967295 (by decide) (by decide)
    simpa using this
  have B0 : bits BinOp.and IntKind.u64 0 4294967295 = 0 := by
    have := bits_and_u64_nat 0 4294967295 (by decide) (by decide)
    simpa using this
  have B2 : bits BinOp.and IntKind.u64 (n : Int) 4294967295 = (n : Int) := by
    have := bits_and_u64_nat n 4294967295 (by omega) (by decide)
    rw [Nat.and_two_pow_sub_one_eq_mod n 32, Nat.mod_eq_of_lt (by omega)] at this
    exact this
  have D1 : (n : Int) / 4294967296 = 0 := by omega
  have W1 : IntKind.u64.wrap (n : Int) = (n : Int) := by rw [IntKind.wrap_u64]; omega
  have W0 : IntKind.u64.wrap 0 = 0 := by decide
  go_enter Try.func85, Try.ntmps85
  go_wp2
  go_ret2
  exact ⟨rfl, rfl⟩
set_option maxRecDepth 100000 in
theorem mul_any (n : Nat) (hn : n ≤ 2048) (w : World) :
    Calls Try.prog 72 #[.int .u64 1, .int .u64 (n : Int)] w fun e w' => e = .returned (.tuple #[.int .u64 0, .int .u64 n]) ∧ w' = w := by
  have H := Lib.hid (mul64_any n hn)
  go_enter Try.func72, Try.ntmps72
  go_wp2_with (go_at_call 85; refine (H.out _).mono ?_; rintro e w' ⟨rfl, rfl⟩)
  go_ret2
  exact ⟨rfl, rfl⟩
theorem fillK_splice {n k m : Nat} (h : k + m ≤ n) : splice ((fillK n k).map (Value.int .i64)) k ((List.replicate m (-1 : Int)).map (Value.int .i64)) = (fillK n (k + m)).map (Value.int .i64) := by
  have e1 : (fillK n k).take k = List.replicate k (-1) := by unfold fillK; rw [List.take_left' (by simp)]
  have e2 : (fillK n k).drop (k + m) = List.replicate (n - (k + m)) 0 := by
    unfold fillK
    rw [← List.drop_drop, List.drop_left' (by simp), List.drop_replicate]
    congr 1; omega
  unfold splice
  rw [← List.map_take, ← List.map_drop, List.length_map, List.length_replicate, e1, e2, ← List.map_append, ← List.map_append, ← List.append_assoc, List.replicate_append_replicate]
  rfl
set_option maxRecDepth 100000 in
set_option maxHeartbeats 4000000 in
theorem repeat_any (n : Nat) (h1 : 1 ≤ n) (hn : n ≤ 2048) (gx : Nat) (w : World) (hx : Whole w gx 3 #[.int .i64 (-1)]) :
    Calls Try.prog 63 #[.slice (some ⟨gx, 0, none⟩) 1 1, .int .i64 (n : Int)] w fun e w' => ∃ g, e = .returned (.slice (some ⟨g, 0, none⟩) n n) ∧ w.heap.size ≤ g ∧ Whole w' g 3 (cellsI (List.replicate n (-1))) ∧ Below w.heap.size w w' := by
  have H := Lib.hid (mul_any n hn)
  have f1 : decide ((n : Int) < 0) = false := decide_eq_false (by omega)
  have W1 : IntKind.u64.wrap (n : Int) = (n : Int) := by rw [IntKind.wrap_u64]; omega
  have W2 : IntKind.i64.wrap (n : Int) = (n : Int) := by rw [IntKind.wrap_i64]; omega
  have W3 : IntKind.u64.wrap 1 = 1 := by decide
  have f2 : decide ((9223372036854775807 : Int) < (n : Int)) = false := decide_eq_false (by omega)
  have hmk : ∀ W : World, (Instr.makeSlice 27 (.int .i64 (n : Int)) (.int .i64 (n : Int))).run Try.prog W = .ok (.slice (some ⟨W.heap.size, 0, none⟩) n n) (W.alloc (.cells (cellsI (List.replicate n 0)) 3)) := fun W => by
    have := run_make_row' (P := Try.prog) 27 3 (.int .i64 0) 8 Try.underlying27 Try.info3 (by rfl) .i64 .i64 n (by omega) (by omega) W
    rw [cellsI_made] at this
    exact this
  have hxc : w.cell? ⟨gx, 0, none⟩ = some (.int .i64 (-1)) := hx.cell 0
  have HX := Lib.hid hx
  clear hx
  go_enter Try.func63, Try.ntmps63
  obtain ⟨i0, hi, hz0, hz1, hz2⟩ := info_parts Try.info3
  have hsz : (Try.prog.info? 3).map (·.size) = some 1 := by rw [hi]; simp [hz1]
  go_wp2_with (first
    | (go_at_call 72; refine (H.out _).mono ?_; rintro e w' ⟨rfl, rfl⟩)
    | (refine wpList_copy_splice (o := ⟨some 33, .call { callee := .builtin .copy, args := #[.tmp 31, .tmp 32], argTypes := #[27, 27] }, _, _, _, _⟩) rfl (.tmp 31) (.tmp 32) 27 27 rfl 3 Try.underlying27 hsz (some ⟨w'.heap.size, 0, none⟩) (some ⟨gx, 0, none⟩) n n 1 1 rfl rfl w'.heap.size 0 ((fillK n 0).map (Value.int .i64)) 3 (by rw [show (fillK n 0) = List.replicate n 0 by simp [fillK]]; exact heap_alloc_new _ _) [.int .i64 (-1)] (by show 1 = Nat.min 1 n; exact (Nat.min_eq_left h1).symm) (fun _ => ⟨rfl, _, rfl, fun j v hj => by
          have hj0 : j = 0 := by rcases Nat.eq_zero_or_pos j with h | h; exact h; rw [List.getElem?_eq_none (by simp; omega)] at hj; cases hj
          subst hj0
          simp only [List.getElem?_cons_zero, Option.some.injEq] at hj
          subst hj
          exact ((HX.out.alloc _).cell 0)⟩) (by simp [fillK]; omega) (by simp [Value.oneCell']) w'.heap.size w' (below_one (Below.refl _ _) _) (Nat.le_refl _) ?_; intro w2 hg2 hb2))
  obtain ⟨g, eg⟩ : ∃ g, w'.heap.size = g := ⟨_, rfl⟩
  have HW2 : Hid (Whole w2 g 3 (cellsI (fillK n 1))) := Lib.hid (by
    have h := hg2.out
    have e := fillK_splice (n := n) (k := 0) (m := 1) (by omega)
    rw [Nat.zero_add] at e
    rw [show ([.int .i64 (-1)] : List Value) = (List.replicate 1 (-1 : Int)).map (Value.int .i64) from rfl, e] at h
    rw [← eg]; exact h)
  have HB2 := Lib.hid hb2
  have HG := Lib.hid eg
  rw [eg] at HB2 ⊢
  clear hg2 hb2 eg hxc HX hmk
  go_loopw [8] (fun i wr => ∃ k : Nat, 1 ≤ k ∧ k ≤ n ∧ i = .int .i64 k ∧ Hid (Whole wr g 3 (cellsI (fillK n k))) ∧ Hid (Below g w' wr)) (fun i _ => n - (intOf i).toNat)
  case atStart => exact ⟨1, Nat.le_refl _, h1, rfl, HW2, HB2⟩
  case round =>
    clear HW2 HB2
    obtain ⟨k, hk1, hkn, rfl, HW, HB⟩ := hrel
    by_cases hlt : k < n
    · have e1 : decide ((k : Int) < (n : Int)) = true := decide_eq_true (by omega)
      have x1 : (0 : Int) ≤ (k : Int) := by omega
      have x2 : (k : Int) ≤ (n : Int) := by omega
      have x3 : ¬ (n = k) := by omega
      go_wp2
      obtain ⟨m, em⟩ : ∃ m, Nat.min k (n - k) = m := ⟨_, rfl⟩
      have hm1 : 1 ≤ m := by rw [← em]; show 1 ≤ min k (n - k); omega
      have hm2 : k + m ≤ n := by rw [← em]; show k + min k (n - k) ≤ n; omega
      have hm3 : m ≤ k := by rw [← em]; show min k (n - k) ≤ k; omega
      have HM := Lib.hid em
      clear em
      have HWd : Hid (Whole wr.drew g 3 (cellsI (fillK n k))) := HW
      have hcl : ((List.replicate m (-1 : Int)).map (Value.int .i64)).length = m := by simp
      have HSRC : Hid (0 < ((List.replicate m (-1 : Int)).map (Value.int .i64)).length → (some ⟨g, k, none⟩ : Option Addr) = some ⟨g, k, none⟩ ∧ ∃ ad, (some ⟨g, 0, none⟩ : Option Addr) = some ad ∧ ∀ (j : Nat) (v : Value), ((List.replicate m (-1 : Int)).map (Value.int .i64))[j]? = some v → wr.drew.cell? (ad.add j) = some v) := fun _ => ⟨rfl, _, rfl, fun j v hj => by
        have hjm : j < m := by
          rcases Nat.lt_or_ge j m with h | h
          · exact h
          · rw [List.getElem?_eq_none (by simpa using h)] at hj; cases hj
        have ev : v = .int .i64 (-1) := by
          rw [List.getElem?_map, List.getElem?_replicate, if_pos hjm] at hj
          simpa using hj.symm
        have := (HWd.out.cell j).trans (cellsI_at (by rw [fillK_len hkn]; omega))
        have e3 : hAt (fillK n k) j = -1 := by
          unfold hAt fillK
          rw [List.getElem?_append_left (by simp; omega), List.getElem?_replicate, if_pos (by omega)]
          rfl
        rw [e3] at this
        rw [ev, ← this]
        by_cases h0 : j = 0
        · subst h0; rfl
        · simp [Addr.add, h0]⟩
      have HFIT : Hid (k + ((List.replicate m (-1 : Int)).map (Value.int .i64)).length ≤ ((fillK n k).map (Value.int .i64)).length) := Lib.hid (by rw [hcl, List.length_map, fillK_len hkn]; exact hm2)
      have HONE : Hid (∀ v ∈ (List.replicate m (-1 : Int)).map (Value.int .i64), v.oneCell' = true) := Lib.hid (fun v hv => by obtain ⟨x, -, rfl⟩ := List.mem_map.1 hv; rfl)
      go_region_held3 (fun _ => True) (trivial) (first | (refine step_copy_splice (o := ⟨some 45, .call { callee := .builtin .copy, args := #[.tmp 41, .tmp 44], argTypes := #[27, 27] }, _, _, _, _⟩) rfl (.tmp 41) (.tmp 44) 27 27 rfl 3 Try.underlying27 hsz (some ⟨g, k, none⟩) (some ⟨g, 0, none⟩) (n - k) (n - k) k n rfl rfl g k ((fillK n k).map (Value.int .i64)) 3 HWd.out ((List.replicate m (-1 : Int)).map (Value.int .i64)) (hcl.trans HM.out.symm) HSRC.out HFIT.out HONE.out g w' (HB.out.trans (Below.refl _ wr).drew) (Nat.le_refl _) ?_; intro w4 hg4 hb4) | fail)
      have hwk : IntKind.i64.wrap ((k : Int) + (m : Int)) = ((k + m : Nat) : Int) := by rw [IntKind.wrap_i64]; omega
      have HW4 : Hid (Whole w4 g 3 (cellsI (fillK n (k + m)))) := Lib.hid (by have h := hg4.out; rw [fillK_splice hm2] at h; exact h)
      have HB4 := Lib.hid hb4
      clear hg4 hb4 HSRC HFIT HONE
      rw [hwk]
      obtain ⟨gi, egi⟩ : ∃ gi, goInt (((List.replicate m (-1 : Int)).map (Value.int .i64)).length : Int) = gi := ⟨_, rfl⟩
      rw [egi]
      clear egi hwk hcl HWd
      go_roundw
      case rel => exact ⟨.int .i64 ((k + m : Nat) : Int), _, _, _, _, _, _, _, _, _, _, _, _, _, ⟨k + m, by omega, hm2, rfl, HW4, HB4⟩, rfl⟩
      case measure => simp [intOf]; omega
    · obtain rfl : k = n := by omega
      have e1 : decide ((k : Int) < (k : Int)) = false := decide_eq_false (by omega)
      go_wp2
      go_ret
      refine ⟨g, rfl, Nat.le_of_eq HG.out, ?_, ?_⟩
      · have := HW.out
        rwa [show fillK k k = List.replicate k (-1) by simp [fillK]] at this
      · rw [HG.out]; exact HB.out
end Go.Proofs.Ytjdidlbmgnfcdaa
