/- The walks of rising, exchanger and what it hands out, drawsFor. -/
import Derived.Test.YtcakmcegcbameaaDb
import Derived.Test.YtcakmcegcbameaaTn
import Derived.RangeFuncBox
import Derived.Deep.RegionLaw
import Derived.Deep.RegionHeld3
import Derived.Laws.Rows
namespace Go.Proofs.Ytcakmcegcbameaa
open Go.RowKit
set_option linter.unusedVariables false
/-- A list as cells. -/
def rowI (l : List Nat) : Array Value := (l.map fun x : Nat => Value.int .i64 (x : Nat)).toArray
theorem rowI_size (l : List Nat) : (rowI l).size = l.length := by simp [rowI]
theorem rowI_at {l : List Nat} {i : Nat} (h : i < l.length) : (rowI l)[i]? = some (.int .i64 ((l[i]?.getD 0 : Nat) : Int)) := by
  simp [rowI, List.getElem?_eq_getElem h]
theorem rowI_set (l : List Nat) (i x : Nat) : (rowI l).setIfInBounds i (.int .i64 (x : Nat)) = rowI (l.set i x) := by
  simp [rowI, List.map_set]
def upTo (n k : Nat) : List Nat := List.range k ++ List.replicate (n - k) 0
theorem upTo_len {n k : Nat} (h : k ≤ n) : (upTo n k).length = n := by simp [upTo]; omega
theorem upTo_step {n k : Nat} (h : k < n) : (upTo n k).set k k = upTo n (k + 1) := by
  unfold upTo
  have e : n - k = (n - (k + 1)) + 1 := by omega
  rw [List.set_append_right _ _ (by simp), List.length_range, Nat.sub_self, e, List.replicate_succ, List.set_cons_zero, List.range_succ]
  simp
theorem upTo_end (n : Nat) : upTo n n = List.range n := by simp [upTo]
theorem made_rowI (n : Nat) : madeCells #[Value.int .i64 0] n = rowI (upTo n 0) := by
  apply Array.ext'
  rw [made_one]
  simp [rowI, upTo]
theorem Try.info3i : (Try.prog.info? 3).map (fun i => (i.zero, i.size, i.bytes)) = some (some (.int .i64 0), 1, 8) := by kernel_rfl
theorem Whole.cell0 {w : World} {g : Nat} {t : TypeId} {cs : Array Value} (h : Whole w g t cs) (i : Nat) : w.cell? ⟨g, 0 + i, none⟩ = cs[i]? := by rw [Nat.zero_add]; exact h.cell i
set_option maxRecDepth 100000 in
set_option maxHeartbeats 1000000 in
theorem rising_any (n : Nat) (hn : n ≤ 2048) (w : World) : Calls Try.prog 51 #[.int .i64 n] w fun e w' => e = .returned (.slice (some ⟨w.heap.size, 0, none⟩) n n) ∧
    Whole w' w.heap.size 3 (rowI (List.range n)) ∧ Below w.heap.size w w' ∧ w'.heap.size = w.heap.size + 1 := by
  obtain ⟨i0, hi, hz0, hz1, hz2⟩ := info_parts Try.info3i
  have hmk : ∀ w : World, (Instr.makeSlice 51 (.int .i64 (n : Int)) (.int .i64 (n : Int))).run Try.prog w = .ok (.slice (some ⟨w.heap.size, 0, none⟩) n n) (w.alloc (.cells (rowI (upTo n 0)) 3)) := fun w => by
    have := run_make (P := Try.prog) w 51 3 i0 (.int .i64 0) Try.underlying51 hi hz0 .i64 .i64 (n : Int) (n : Int) (by omega) (by omega) (by rw [hz2]; omega) (by omega)
    rw [this, hz1, Nat.mul_one, Int.toNat_natCast, show (Value.int .i64 0).cells = #[Value.int .i64 0] by rfl, made_rowI]
  go_enter Try.func51, Try.ntmps51
  go_wp2
  have hW0 : Whole (w.alloc (.cells (rowI (upTo n 0)) 3)) w.heap.size 3 (rowI (upTo n 0)) := Whole.new w 3 _
  have hB0 : Below w.heap.size w (w.alloc (.cells (rowI (upTo n 0)) 3)) := below_one (Below.refl _ _) _
  have hs0 : (w.alloc (.cells (rowI (upTo n 0)) 3)).heap.size = w.heap.size + 1 := by simp
  revert hW0 hB0 hs0
  generalize w.alloc (.cells (rowI (upTo n 0)) 3) = W0
  intro hW0 hB0 hs0
  clear hmk
  go_loopw [9] (fun i wr => ∃ k : Nat, k ≤ n ∧ i = .int .i64 k ∧ Whole wr w.heap.size 3 (rowI (upTo n k)) ∧ Below w.heap.size w wr ∧ wr.heap.size = w.heap.size + 1) (fun i _ => n - (intOf i).toNat)
  case atStart => exact ⟨0, by omega, rfl, hW0, hB0, hs0⟩
  case round =>
    clear hW0 hB0 hs0
    obtain ⟨k, hk, rfl, hW, hB, hs⟩ := hrel
    by_cases hlt : k < n
    · have hc := (hW.cell0 k).trans (rowI_at (by rw [upTo_len hk]; exact hlt))
      have hf : wr.frozen? ⟨w.heap.size, 0 + k, none⟩ = false := hW.frozen _
      rw [Nat.zero_add] at hc hf
      have hW2 : Whole (wr.setCell ⟨w.heap.size, k, none⟩ (.int .i64 (k : Nat))) w.heap.size 3 (rowI (upTo n (k + 1))) := by
        have := hW.set k (.int .i64 (k : Nat))
        rwa [rowI_set, upTo_step hlt] at this
      have hB2 : Below w.heap.size w (wr.setCell ⟨w.heap.size, k, none⟩ (.int .i64 (k : Nat))) := hB.setCell (p := ⟨w.heap.size, k, none⟩) (Nat.le_refl _) _
      have hs2 : (wr.setCell ⟨w.heap.size, k, none⟩ (.int .i64 (k : Nat))).heap.size = w.heap.size + 1 := by simpa using hs
      have HS := Lib.hid hs2
      have HS0 := Lib.hid hs
      clear hs hs2
      go_wp2
      go_roundw
      case rel => exact ⟨k + 1, by omega, by go_num, hW2, hB2, HS.out⟩
      case measure => simp [intOf]; omega
    · obtain rfl : k = n := by omega
      rw [upTo_end] at hW
      go_wp2
      go_ret
      exact ⟨rfl, hW, hB, hs⟩
set_option maxRecDepth 100000 in
theorem exchanger_any (A : Option Addr) (n c : Nat) (hn : n ≤ 2048) (w : World) : Calls Try.prog 52 #[.slice A n c] w fun e w' => e = .returned (.func (.func 60) #[] #[.pointer (some ⟨w.heap.size, 0, none⟩), .pointer (some ⟨w.heap.size + 1, 0, none⟩)]) ∧
    w' = (w.alloc (.cells #[.slice A n c] 51)).alloc (.cells #[.int .i64 ((n : Int) - 1)] 3) := by
  go_enter Try.func52, Try.ntmps52
  go_wp2
  go_ret
  exact ⟨rfl, rfl⟩
set_option maxRecDepth 100000 in
theorem drawsFor_any (s n : Nat) (w : World) : Calls Try.prog 53 #[.int .u64 s, .int .i64 n] w fun e w' => e = .returned (.func (.func 61) #[] #[.pointer (some ⟨w.heap.size, 0, none⟩), .pointer (some ⟨w.heap.size + 1, 0, none⟩)]) ∧
    w' = (w.alloc (.cells #[.int .u64 s] 42)).alloc (.cells #[.int .i64 n] 3) := by
  go_enter Try.func53, Try.ntmps53
  go_wp2
  go_ret
  exact ⟨rfl, rfl⟩
end Go.Proofs.Ytcakmcegcbameaa
