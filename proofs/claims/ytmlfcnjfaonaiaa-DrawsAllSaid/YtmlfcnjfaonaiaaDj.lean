/- The walk of DrawsAll. -/
import Derived.Test.YtmlfcnjfaonaiaaDh
import Derived.Deep.QuietTactic
import Derived.BigQuiet
namespace Go.Proofs.Ytmlfcnjfaonaiaa
open Go.RowKit Go.Shelf
set_option linter.unusedVariables false
/-- Which numbers below k are on a list, as cells. -/
def rowB (l : List Nat) (k : Nat) : Array Value := ((List.range k).map fun j => Value.bool (decide (j ∈ l))).toArray
theorem rowB_at {l : List Nat} {k x : Nat} (h : x < k) : (rowB l k)[x]? = some (.bool (decide (x ∈ l))) := by
  simp [rowB, h]
theorem rowB_set (l : List Nat) (k x : Nat) : (rowB l k).setIfInBounds x (.bool true) = rowB (l ++ [x]) k := by
  unfold rowB
  apply Array.ext'
  simp only [Array.toList_setIfInBounds]
  apply List.ext_getElem
  · simp
  · intro j h1 h2
    rw [List.getElem_set]
    simp only [List.getElem_map, List.getElem_range, List.mem_append, List.mem_singleton]
    by_cases h : x = j
    · subst h; simp
    · have h3 : ¬ j = x := fun e => h e.symm
      simp [h, h3]
theorem made_rowB (k : Nat) : madeCells #[Value.bool false] k = rowB [] k := by
  apply Array.ext'
  apply List.ext_getElem
  · simp [rowB, madeCells]
  · intro j h1 h2
    simp [rowB, madeCells, Nat.mod_one]
theorem Try.info4b : (Try.prog.info? 4).map (fun i => (i.zero, i.size, i.bytes)) = some (some (.bool false), 1, 1) := by kernel_rfl
theorem take_snoc {l : List Nat} {i : Nat} (h : i < l.length) : l.take (i + 1) = l.take i ++ [l[i]?.getD 0] := by
  rw [List.take_add_one, List.getElem?_eq_getElem h]; rfl
theorem nodup_fresh {l : List Nat} (hn : l.Nodup) {i : Nat} (h : i < l.length) : ¬ (l[i]?.getD 0) ∈ l.take i := by
  intro hm
  have h1 := hn.sublist (List.take_sublist (i + 1) l)
  rw [take_snoc h] at h1
  have := (List.nodup_append.1 h1).2.2 _ hm _ (List.mem_singleton.2 rfl)
  exact this rfl
set_option maxRecDepth 100000 in
set_option maxHeartbeats 2000000 in
theorem drawsAll_yes (s n : Nat) (hs : s < 18446744073709551616) (hn : n < 65536) (w : World) : Calls Try.prog 6 #[.int .u64 s, .int .u16 n] w fun e w' => e = .returned (.bool true) ∧ Below w.heap.size w w' := by
  obtain ⟨k, hk⟩ : ∃ k, n % 2049 = k := ⟨_, rfl⟩
  have hk1 : k ≤ 2048 := by omega
  have hki : (n : Int) % 2049 = (k : Int) := by omega
  have HS := Lib.hid (callsIn_wide.1 (shuffle_yes s k hk1 w))
  clear hk
  obtain ⟨i0, hi, hz0, hz1, hz2⟩ := info_parts Try.info4b
  have hmk : ∀ w : World, (Instr.makeSlice 37 (.int .i64 (k : Int)) (.int .i64 (k : Int))).run Try.prog w = .ok (.slice (some ⟨w.heap.size, 0, none⟩) k k) (w.alloc (.cells (rowB [] k) 4)) := fun w => by
    have := run_make (P := Try.prog) w 37 4 i0 (.bool false) Try.underlying37 hi hz0 .i64 .i64 (k : Int) (k : Int) (by omega) (by omega) (by rw [hz2]; omega) (by omega)
    rw [this, hz1, Nat.mul_one, Int.toNat_natCast, show (Value.bool false).cells = #[Value.bool false] by rfl, made_rowB]
  go_enter Try.func6, Try.ntmps6
  go_wp2_with (first
    | (go_at_call 15; (with_reducible refine HS.out.mono ?_); rintro e W1 ⟨g, rfl, hg, hw, hb⟩; have HW := Lib.hid hw; clear hw))
  have hlen := shufL_len s k
  have hlt := fun i (h : i < k) => shufL_lt (s := s) h
  have hfr := fun i (h : i < k) => nodup_fresh (shufL_nodup s k) (i := i) (by rw [shufL_len]; exact h)
  have hgl := HW.out.lt
  clear HS
  revert HW hlen hlt hfr
  generalize shufL s k = l
  intro HW hlen hlt hfr
  have HL := Lib.hid hlen
  have HLT := Lib.hid hlt
  have HFR := Lib.hid hfr
  clear hlen hlt hfr
  have w0 : Whole (W1.alloc (.cells (rowB [] k) 4)) W1.heap.size 4 (rowB (l.take 0) k) := Whole.new W1 4 _
  have w1 : Whole (W1.alloc (.cells (rowB [] k) 4)) g 3 (rowI l) := HW.out.alloc _
  have w2 : Below w.heap.size w (W1.alloc (.cells (rowB [] k) 4)) := hb.alloc hb.size _
  have hbs := hb.size
  clear HW hb hmk
  have hne : g ≠ W1.heap.size := by omega
  obtain ⟨b, hbb⟩ : ∃ b, W1.heap.size = b := ⟨_, rfl⟩
  rw [hbb] at w0 hne hbs ⊢
  clear hbb hgl
  revert w0 w1 w2
  generalize W1.alloc (.cells (rowB [] k) 4) = W0
  intro w1 w2 w0
  go_loopw [10] (fun i wr => ∃ j : Nat, j ≤ k ∧ i = .int .i64 j ∧ Whole wr b 4 (rowB (l.take j) k) ∧ Whole wr g 3 (rowI l) ∧ Below w.heap.size w wr) (fun i _ => k - (intOf i).toNat)
  case atStart => exact ⟨0, by omega, rfl, w0, w1, w2⟩
  case round =>
    clear w0 w1 w2
    obtain ⟨j, hj, rfl, w0, w1, w2⟩ := hrel
    by_cases hlt : j < k
    · have hx := HLT.out j hlt
      have hf := HFR.out j hlt
      have hjl : j < l.length := by have := HL.out; omega
      have c1 := (w1.cell j).trans (rowI_at hjl)
      have w3 := w0.set (l[j]?.getD 0) (.bool true)
      rw [rowB_set, ← take_snoc hjl] at w3
      have c2 := (w0.cell (l[j]?.getD 0)).trans (rowB_at hx)
      rw [decide_eq_false hf] at c2
      clear hf hjl
      revert hx c1 c2 w3
      generalize l[j]?.getD 0 = x
      intro hx c1 w3 c2
      have f2 := w0.frozen x
      have e1 : decide ((x : Int) < 0) = false := decide_eq_false (by omega)
      have e2 : decide ((k : Int) ≤ (x : Int)) = false := decide_eq_false (by omega)
      have w4 := w1.far (a := ⟨b, x, none⟩) hne (.bool true)
      have w5 := w2.setCell (p := ⟨b, x, none⟩) hbs (.bool true)
      clear w0 w1 w2
      go_wp2
      go_roundw
      case rel => exact ⟨j + 1, by omega, by go_num, w3, w4, w5⟩
      case measure => simp [intOf]; omega
    · obtain rfl : j = k := by omega
      have HA := Lib.hid (alive_any wr)
      go_wp2_with (go_at_call 14; refine HA.out.mono ?_; rintro e w3 ⟨rfl, hb3⟩)
      go_ret
      exact ⟨by simp, w2.trans (hb3.mono w2.size)⟩
end Go.Proofs.Ytmlfcnjfaonaiaa
