/- What exchanger hands out: the walk of a change of places. -/
import Derived.Test.YtcakmcegcbameaaDb
import Derived.Test.YtcakmcegcbameaaTn
import Derived.Test.YtcakmcegcbameaaDd
import Derived.RangeFuncBox
import Derived.Deep.RegionLaw
import Derived.Deep.RegionHeld3
import Derived.Laws.Rows
namespace Go.Proofs.Ytcakmcegcbameaa
open Go.RowKit
set_option linter.unusedVariables false

set_option maxRecDepth 100000 in
set_option maxHeartbeats 2000000 in
theorem take_any (b1 b2 g n p d : Nat) (l : List Nat) (hl : l.length = n) (hn : n ≤ 2048) (hp : p < n) (hd : d < n) (w : World) (h1 : Whole w b1 51 #[.slice (some ⟨g, 0, none⟩) n n]) (h2 : Whole w b2 3 #[.int .i64 p]) (hg : Whole w g 3 (rowI l)) (hne : g ≠ b2) :
    Calls Try.prog 60 #[.int .i64 d, .pointer (some ⟨b1, 0, none⟩), .pointer (some ⟨b2, 0, none⟩)] w fun e w' => e = .returned (.tuple #[]) ∧ Whole w' g 3 (rowI (swapL l p d)) ∧ Whole w' b2 3 #[.int .i64 ((p : Int) - 1)] ∧ Turn [g, b2] w w' ∧ w'.heap.size = w.heap.size := by
  have c1 : w.cell? ⟨b1, 0, none⟩ = some (.slice (some ⟨g, 0, none⟩) n n) := h1.cell 0
  have c2 : w.cell? ⟨b2, 0, none⟩ = some (.int .i64 p) := h2.cell 0
  have f2 : w.frozen? ⟨b2, 0, none⟩ = false := h2.frozen 0
  have hsw : rowI (swapL l p d) = ((rowI l).setIfInBounds p (.int .i64 ((l[d]?.getD 0 : Nat) : Int))).setIfInBounds d (.int .i64 ((l[p]?.getD 0 : Nat) : Int)) := by
    rw [rowI_set, rowI_set]; rfl
  have cp := (hg.cell p).trans (rowI_at (by omega))
  have cd := (hg.cell d).trans (rowI_at (by omega))
  have hlp : d < (rowI l).size := by rw [rowI_size]; omega
  rw [hsw]
  clear hsw
  revert cp cd hg hlp
  generalize l[p]?.getD 0 = x
  generalize l[d]?.getD 0 = y
  generalize rowI l = row
  intro hg cp cd hlp
  have fp := hg.frozen p
  have fd := hg.frozen d
  have hg1 := hg.set p (.int .i64 (y : Nat))
  have fd1 := hg1.frozen d
  have cd1 : ∃ z, (w.setCell ⟨g, p, none⟩ (.int .i64 (y : Nat))).cell? ⟨g, d, none⟩ = some z := by
    rw [hg1.cell d]
    exact ⟨_, Array.getElem?_eq_getElem (by simpa using hlp)⟩
  obtain ⟨z, cd1⟩ := cd1
  have hg2 := hg1.set d (.int .i64 (x : Nat))
  have t1 : Turn [g, b2] w (w.setCell ⟨g, p, none⟩ (.int .i64 (y : Nat))) := (Turn.refl _ _).setCell (.inl (by simp)) _
  have t2 := t1.setCell (p := ⟨g, d, none⟩) (.inl (by simp)) (.int .i64 (x : Nat))
  have hb2 : Whole ((w.setCell ⟨g, p, none⟩ (.int .i64 (y : Nat))).setCell ⟨g, d, none⟩ (.int .i64 (x : Nat))) b2 3 #[.int .i64 p] := (h2.far (a := ⟨g, p, none⟩) (Ne.symm hne) _).far (a := ⟨g, d, none⟩) (Ne.symm hne) _
  have hs2 : ((w.setCell ⟨g, p, none⟩ (.int .i64 (y : Nat))).setCell ⟨g, d, none⟩ (.int .i64 (x : Nat))).heap.size = w.heap.size := by simp
  have hb1 : g ≠ b1 := fun e => by
    subst e
    have := hg.symm.trans h1
    simp at this
  have c1' : (w.setCell ⟨g, p, none⟩ (.int .i64 (y : Nat))).cell? ⟨b1, 0, none⟩ = some (.slice (some ⟨g, 0, none⟩) n n) := (h1.far (a := ⟨g, p, none⟩) (Ne.symm hb1) _).cell 0
  have c2' : (w.setCell ⟨g, p, none⟩ (.int .i64 (y : Nat))).cell? ⟨b2, 0, none⟩ = some (.int .i64 p) := (h2.far (a := ⟨g, p, none⟩) (Ne.symm hne) _).cell 0
  clear hg1 hg t1 hb1
  have HG := Lib.hid hg2
  have HT := Lib.hid t2
  have HB := Lib.hid hb2
  have HS := Lib.hid hs2
  clear hg2 t2 hb2 hs2 h1 h2
  go_enter Try.func60, Try.ntmps60
  go_wp2
  go_region
  clear cp cd fp fd fd1 cd1 c1' c2' c1 c2 f2
  have HG2 : Whole ((w.setCell ⟨g, p, none⟩ (.int .i64 (y : Nat))).setCell ⟨g, d, none⟩ (.int .i64 (x : Nat))).drew g 3 ((row.setIfInBounds p (.int .i64 (y : Nat))).setIfInBounds d (.int .i64 (x : Nat))) := HG.out
  have HB2 : Whole ((w.setCell ⟨g, p, none⟩ (.int .i64 (y : Nat))).setCell ⟨g, d, none⟩ (.int .i64 (x : Nat))).drew b2 3 #[.int .i64 p] := HB.out
  have HT2 : Turn [g, b2] w ((w.setCell ⟨g, p, none⟩ (.int .i64 (y : Nat))).setCell ⟨g, d, none⟩ (.int .i64 (x : Nat))).drew := HT.out.drew
  have HS2 : ((w.setCell ⟨g, p, none⟩ (.int .i64 (y : Nat))).setCell ⟨g, d, none⟩ (.int .i64 (x : Nat))).drew.heap.size = w.heap.size := HS.out
  revert HG2 HB2 HT2 HS2
  generalize ((w.setCell ⟨g, p, none⟩ (.int .i64 (y : Nat))).setCell ⟨g, d, none⟩ (.int .i64 (x : Nat))).drew = W2
  intro HG2 HB2 HT2 HS2
  clear HG HB HT HS
  have c3 : W2.cell? ⟨b2, 0, none⟩ = some (.int .i64 p) := HB2.cell 0
  have f3 : W2.frozen? ⟨b2, 0, none⟩ = false := HB2.frozen 0
  have hB3 : Whole (W2.setCell ⟨b2, 0, none⟩ (.int .i64 ((p : Int) - 1))) b2 3 #[.int .i64 ((p : Int) - 1)] := HB2.set 0 _
  have hG3 := HG2.far (a := ⟨b2, 0, none⟩) hne (.int .i64 ((p : Int) - 1))
  have hT3 := HT2.setCell (p := ⟨b2, 0, none⟩) (.inl (by simp)) (.int .i64 ((p : Int) - 1))
  have hS3 := Lib.hid (show (W2.setCell ⟨b2, 0, none⟩ (.int .i64 ((p : Int) - 1))).heap.size = w.heap.size by simpa using HS2)
  clear HS2
  go_wp2
  go_end0
  exact ⟨rfl, hG3, hB3, hT3, hS3.out⟩
end Go.Proofs.Ytcakmcegcbameaa
