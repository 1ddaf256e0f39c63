/- Several texts in one. -/
import Derived.Test.YtcakmcegcbameaaGreatDb
import Derived.Test.YtcakmcegcbameaaGreatTn
import Derived.RangeFuncBox
import Derived.Deep.RegionLaw
import Derived.Deep.RegionHeld3
import Derived.Laws.Rows
/- The walks of rising, exchanger and what it hands out, drawsFor. -/
namespace Go.Proofs.YtcakmcegcbameaaGreat
open Go.RowKit
set_option linter.unusedVariables false
/-- A list as cells. -/
def rowI (l : List Nat) : Array Value := (l.map fun x : Nat => Value.int .i64 (x : Nat)).toArray
theorem rowI_size (l : List Nat) : (rowI l).size = l.length := by simp [rowI]
theorem rowI_at {l : List Nat} {i : Nat} (h : i < l.length) : (rowI l)[i]? = some (.int .i64 ((l[i]?.getD 0 : Nat) : Int)) := by
  simp [rowI, List.getElem?_eq_getElem h]
theorem rowI_set (l : List Nat) (i x : Nat) : (rowI l).setIfInBounds i (.int .i64 (x : Nat)) = rowI (l.set i x) := by
  simp [rowI, List.map_set]
def upTo (n k : Nat) : List Nat := List.range k ++ List.replicate (n - k) 0
theorem upTo_len {n k : Nat} (h : k ≤ n) : (upTo n k).length = n := by simp [upTo]; omega
theorem upTo_step {n k : Nat} (h : k < n) : (upTo n k).set k k = upTo n (k + 1) := by
  unfold upTo
  have e : n - k = (n - (k + 1)) + 1 := by omega
  rw [List.set_append_right _ _ (by simp), List.length_range, Nat.sub_self, e, List.replicate_succ, List.set_cons_zero, List.range_succ]
  simp
theorem upTo_end (n : Nat) : upTo n n = List.range n := by simp [upTo]
theorem made_rowI (n : Nat) : madeCells #[Value.int .i64 0] n = rowI (upTo n 0) := by
  apply Array.ext'
  rw [made_one]
  simp [rowI, upTo]
theorem Tryz.info3i : (Tryz.prog.info? 3).map (fun i => (i.zero, i.size, i.bytes)) = some (some (.int .i64 0), 1, 8) := by kernel_rfl
theorem Whole.cell0 {w : World} {g : Nat} {t : TypeId} {cs : Array Value} (h : Whole w g t cs) (i : Nat) : w.cell? ⟨g, 0 + i, none⟩ = cs[i]? := by rw [Nat.zero_add]; exact h.cell i
set_option maxRecDepth 100000 in
set_option maxHeartbeats 1000000 in
theorem rising_any (n : Nat) (hn : n ≤ 2048) (w : World) : Calls Tryz.prog 113 #[.int .i64 n] w fun e w' => e = .returned (.slice (some ⟨w.heap.size, 0, none⟩) n n) ∧
    Whole w' w.heap.size 3 (rowI (List.range n)) ∧ Below w.heap.size w w' ∧ w'.heap.size = w.heap.size + 1 := by
  obtain ⟨i0, hi, hz0, hz1, hz2⟩ := info_parts Tryz.info3i
  have hmk : ∀ w : World, (Instr.makeSlice 68 (.int .i64 (n : Int)) (.int .i64 (n : Int))).run Tryz.prog w = .ok (.slice (some ⟨w.heap.size, 0, none⟩) n n) (w.alloc (.cells (rowI (upTo n 0)) 3)) := fun w => by
    have := run_make (P := Tryz.prog) w 68 3 i0 (.int .i64 0) Tryz.underlying68 hi hz0 .i64 .i64 (n : Int) (n : Int) (by omega) (by omega) (by rw [hz2]; omega) (by omega)
    rw [this, hz1, Nat.mul_one, Int.toNat_natCast, show (Value.int .i64 0).cells = #[Value.int .i64 0] by rfl, made_rowI]
  go_enter Tryz.func113, Tryz.ntmps113
  go_wp2
  have hW0 : Whole (w.alloc (.cells (rowI (upTo n 0)) 3)) w.heap.size 3 (rowI (upTo n 0)) := Whole.new w 3 _
  have hB0 : Below w.heap.size w (w.alloc (.cells (rowI (upTo n 0)) 3)) := below_one (Below.refl _ _) _
  have hs0 : (w.alloc (.cells (rowI (upTo n 0)) 3)).heap.size = w.heap.size + 1 := by simp
  revert hW0 hB0 hs0
  generalize w.alloc (.cells (rowI (upTo n 0)) 3) = W0
  intro hW0 hB0 hs0
  clear hmk
  go_loopw [9] (fun i wr => ∃ k : Nat, k ≤ n ∧ i = .int .i64 k ∧ Whole wr w.heap.size 3 (rowI (upTo n k)) ∧ Below w.heap.size w wr ∧ wr.heap.size = w.heap.size + 1) (fun i _ => n - (intOf i).toNat)
  case atStart => exact ⟨0, by omega, rfl, hW0, hB0, hs0⟩
  case round =>
    clear hW0 hB0 hs0
    obtain ⟨k, hk, rfl, hW, hB, hs⟩ := hrel
    by_cases hlt : k < n
    · have hc := (hW.cell0 k).trans (rowI_at (by rw [upTo_len hk]; exact hlt))
      have hf : wr.frozen? ⟨w.heap.size, 0 + k, none⟩ = false := hW.frozen _
      rw [Nat.zero_add] at hc hf
      have hW2 : Whole (wr.setCell ⟨w.heap.size, k, none⟩ (.int .i64 (k : Nat))) w.heap.size 3 (rowI (upTo n (k + 1))) := by
        have := hW.set k (.int .i64 (k : Nat))
        rwa [rowI_set, upTo_step hlt] at this
      have hB2 : Below w.heap.size w (wr.setCell ⟨w.heap.size, k, none⟩ (.int .i64 (k : Nat))) := hB.setCell (p := ⟨w.heap.size, k, none⟩) (Nat.le_refl _) _
      have hs2 : (wr.setCell ⟨w.heap.size, k, none⟩ (.int .i64 (k : Nat))).heap.size = w.heap.size + 1 := by simpa using hs
      have HS := Lib.hid hs2
      have HS0 := Lib.hid hs
      clear hs hs2
      go_wp2
      go_roundw
      case rel => exact ⟨k + 1, by omega, by go_num, hW2, hB2, HS.out⟩
      case measure => simp [intOf]; omega
    · obtain rfl : k = n := by omega
      rw [upTo_end] at hW
      go_wp2
      go_ret
      exact ⟨rfl, hW, hB, hs⟩
set_option maxRecDepth 100000 in
theorem exchanger_any (A : Option Addr) (n c : Nat) (hn : n ≤ 2048) (w : World) : Calls Tryz.prog 114 #[.slice A n c] w fun e w' => e = .returned (.func (.func 124) #[] #[.pointer (some ⟨w.heap.size, 0, none⟩), .pointer (some ⟨w.heap.size + 1, 0, none⟩)]) ∧
    w' = (w.alloc (.cells #[.slice A n c] 68)).alloc (.cells #[.int .i64 ((n : Int) - 1)] 3) := by
  go_enter Tryz.func114, Tryz.ntmps114
  go_wp2
  go_ret
  exact ⟨rfl, rfl⟩
set_option maxRecDepth 100000 in
theorem drawsFor_any (s n : Nat) (w : World) : Calls Tryz.prog 115 #[.int .u64 s, .int .i64 n] w fun e w' => e = .returned (.func (.func 125) #[] #[.pointer (some ⟨w.heap.size, 0, none⟩), .pointer (some ⟨w.heap.size + 1, 0, none⟩)]) ∧
    w' = (w.alloc (.cells #[.int .u64 s] 47)).alloc (.cells #[.int .i64 n] 3) := by
  go_enter Tryz.func115, Tryz.ntmps115
  go_wp2
  go_ret
  exact ⟨rfl, rfl⟩
end Go.Proofs.YtcakmcegcbameaaGreat
/- What exchanger hands out: the walk of a change of places. -/
namespace Go.Proofs.YtcakmcegcbameaaGreat
open Go.RowKit
set_option linter.unusedVariables false

set_option maxRecDepth 100000 in
set_option maxHeartbeats 2000000 in
theorem take_any (b1 b2 g n p d : Nat) (l : List Nat) (hl : l.length = n) (hn : n ≤ 2048) (hp : p < n) (hd : d < n) (w : World) (h1 : Whole w b1 68 #[.slice (some ⟨g, 0, none⟩) n n]) (h2 : Whole w b2 3 #[.int .i64 p]) (hg : Whole w g 3 (rowI l)) (hne : g ≠ b2) :
    Calls Tryz.prog 124 #[.int .i64 d, .pointer (some ⟨b1, 0, none⟩), .pointer (some ⟨b2, 0, none⟩)] w fun e w' => e = .returned (.tuple #[]) ∧ Whole w' g 3 (rowI (swapL l p d)) ∧ Whole w' b2 3 #[.int .i64 ((p : Int) - 1)] ∧ Turn [g, b2] w w' ∧ w'.heap.size = w.heap.size := by
  have c1 : w.cell? ⟨b1, 0, none⟩ = some (.slice (some ⟨g, 0, none⟩) n n) := h1.cell 0
  have c2 : w.cell? ⟨b2, 0, none⟩ = some (.int .i64 p) := h2.cell 0
  have f2 : w.frozen? ⟨b2, 0, none⟩ = false := h2.frozen 0
  have hsw : rowI (swapL l p d) = ((rowI l).setIfInBounds p (.int .i64 ((l[d]?.getD 0 : Nat) : Int))).setIfInBounds d (.int .i64 ((l[p]?.getD 0 : Nat) : Int)) := by
    rw [rowI_set, rowI_set]; rfl
  have cp := (hg.cell p).trans (rowI_at (by omega))
  have cd := (hg.cell d).trans (rowI_at (by omega))
  have hlp : d < (rowI l).size := by rw [rowI_size]; omega
  rw [hsw]
  clear hsw
  revert cp cd hg hlp
  generalize l[p]?.getD 0 = x
  generalize l[d]?.getD 0 = y
  generalize rowI l = row
  intro hg cp cd hlp
  have fp := hg.frozen p
  have fd := hg.frozen d
  have hg1 := hg.set p (.int .i64 (y : Nat))
  have fd1 := hg1.frozen d
  have cd1 : ∃ z, (w.setCell ⟨g, p, none⟩ (.int .i64 (y : Nat))).cell? ⟨g, d, none⟩ = some z := by
    rw [hg1.cell d]
    exact ⟨_, Array.getElem?_eq_getElem (by simpa using hlp)⟩
  obtain ⟨z, cd1⟩ := cd1
  have hg2 := hg1.set d (.int .i64 (x : Nat))
  have t1 : Turn [g, b2] w (w.setCell ⟨g, p, none⟩ (.int .i64 (y : Nat))) := (Turn.refl _ _).setCell (.inl (by simp)) _
  have t2 := t1.setCell (p := ⟨g, d, none⟩) (.inl (by simp)) (.int .i64 (x : Nat))
  have hb2 : Whole ((w.setCell ⟨g, p, none⟩ (.int .i64 (y : Nat))).setCell ⟨g, d, none⟩ (.int .i64 (x : Nat))) b2 3 #[.int .i64 p] := (h2.far (a := ⟨g, p, none⟩) (Ne.symm hne) _).far (a := ⟨g, d, none⟩) (Ne.symm hne) _
  have hs2 : ((w.setCell ⟨g, p, none⟩ (.int .i64 (y : Nat))).setCell ⟨g, d, none⟩ (.int .i64 (x : Nat))).heap.size = w.heap.size := by simp
  have hb1 : g ≠ b1 := fun e => by
    subst e
    have := hg.symm.trans h1
    simp at this
  have c1' : (w.setCell ⟨g, p, none⟩ (.int .i64 (y : Nat))).cell? ⟨b1, 0, none⟩ = some (.slice (some ⟨g, 0, none⟩) n n) := (h1.far (a := ⟨g, p, none⟩) (Ne.symm hb1) _).cell 0
  have c2' : (w.setCell ⟨g, p, none⟩ (.int .i64 (y : Nat))).cell? ⟨b2, 0, none⟩ = some (.int .i64 p) := (h2.far (a := ⟨g, p, none⟩) (Ne.symm hne) _).cell 0
  clear hg1 hg t1 hb1
  have HG := Lib.hid hg2
  have HT := Lib.hid t2
  have HB := Lib.hid hb2
  have HS := Lib.hid hs2
  clear hg2 t2 hb2 hs2 h1 h2
  go_enter Tryz.func124, Tryz.ntmps124
  go_wp2
  go_region
  clear cp cd fp fd fd1 cd1 c1' c2' c1 c2 f2
  have HG2 : Whole ((w.setCell ⟨g, p, none⟩ (.int .i64 (y : Nat))).setCell ⟨g, d, none⟩ (.int .i64 (x : Nat))).drew g 3 ((row.setIfInBounds p (.int .i64 (y : Nat))).setIfInBounds d (.int .i64 (x : Nat))) := HG.out
  have HB2 : Whole ((w.setCell ⟨g, p, none⟩ (.int .i64 (y : Nat))).setCell ⟨g, d, none⟩ (.int .i64 (x : Nat))).drew b2 3 #[.int .i64 p] := HB.out
  have HT2 : Turn [g, b2] w ((w.setCell ⟨g, p, none⟩ (.int .i64 (y : Nat))).setCell ⟨g, d, none⟩ (.int .i64 (x : Nat))).drew := HT.out.drew
  have HS2 : ((w.setCell ⟨g, p, none⟩ (.int .i64 (y : Nat))).setCell ⟨g, d, none⟩ (.int .i64 (x : Nat))).drew.heap.size = w.heap.size := HS.out
  revert HG2 HB2 HT2 HS2
  generalize ((w.setCell ⟨g, p, none⟩ (.int .i64 (y : Nat))).setCell ⟨g, d, none⟩ (.int .i64 (x : Nat))).drew = W2
  intro HG2 HB2 HT2 HS2
  clear HG HB HT HS
  have c3 : W2.cell? ⟨b2, 0, none⟩ = some (.int .i64 p) := HB2.cell 0
  have f3 : W2.frozen? ⟨b2, 0, none⟩ = false := HB2.frozen 0
  have hB3 : Whole (W2.setCell ⟨b2, 0, none⟩ (.int .i64 ((p : Int) - 1))) b2 3 #[.int .i64 ((p : Int) - 1)] := HB2.set 0 _
  have hG3 := HG2.far (a := ⟨b2, 0, none⟩) hne (.int .i64 ((p : Int) - 1))
  have hT3 := HT2.setCell (p := ⟨b2, 0, none⟩) (.inl (by simp)) (.int .i64 ((p : Int) - 1))
  have hS3 := Lib.hid (show (W2.setCell ⟨b2, 0, none⟩ (.int .i64 ((p : Int) - 1))).heap.size = w.heap.size by simpa using HS2)
  clear HS2
  go_wp2
  go_end0
  exact ⟨rfl, hG3, hB3, hT3, hS3.out⟩
end Go.Proofs.YtcakmcegcbameaaGreat
