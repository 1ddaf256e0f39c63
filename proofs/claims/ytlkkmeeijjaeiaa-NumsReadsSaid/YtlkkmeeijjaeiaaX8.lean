/- The Book of the statements, lists of small numbers: keeping. -/
import Derived.Test.YtlkkmeeijjaeiaaX
import Derived.Test.YtlkkmeeijjaeiaaV8
import Derived.Deep.RegionHeld3
import Derived.Deep.AppendLies
import Derived.Deep.RegionLaw
namespace Go.Proofs.Ytlkkmeeijjaeiaa
open Go.RowKit
set_option linter.unusedVariables false
theorem Try.info88 : (Try.prog.info? 88).map (fun i => (i.zero, i.size, i.bytes)) = some (some (.agg #[.slice none 0 0, .slice none 0 0, .int .i64 0]), 3, 56) := by kernel_rfl
/-- What keepInt8 leaves. -/
def Kept8 (w : World) (bk base : Nat) (n : Nat) (ss : Value) (es : List Ent) (e : Ending) (w' : World) : Prop :=
  ∃ g c, e = .returned (.tuple #[]) ∧ BookAt w' bk n ss (.slice (some ⟨g, 0, none⟩) es.length c) ∧ w'.ownsRow base 88 3 (.slice (some ⟨g, 0, none⟩) es.length c) es.length (rowCells es) ∧ Frm2 base 88 43 w w'
theorem keep_end8 {w w1 w2 : World} {bk base n g gc : Nat} {A B : Option Addr} {len cap bc : Nat} {ss : Value} {es : List Ent} {X : Obj} (hb : base ≤ w.heap.size) (hbb : base ≤ bk) (hk : BookAt w bk n ss (.slice B es.length bc))
    (ho : w.ownsRow base 88 3 (.slice B es.length bc) es.length (rowCells es)) (hw1 : w.setCell ⟨bk, 0, none⟩ (.int .i64 ((n : Int) + 1)) = w1)
    (ho2 : w2.ownsRow base 88 3 (.slice (some ⟨g, 0, none⟩) (es.length + 1) gc) (es.length + 1) (rowCells es ++ [.slice A len cap, .slice none 0 0, .int .i64 ((n : Int) + 1)])) (hg : (w1.alloc X).drew.grownBy w2 (Value.slice B es.length bc).ownBlock) :
    Kept8 w bk base (n + 1) ss (es ++ [⟨A, len, cap, n + 1⟩]) (.returned (.tuple #[])) (w2.setCell ⟨bk, 3, none⟩ (.slice (some ⟨g, 0, none⟩) (es.length + 1) gc)) := by
  have hlt : bk < w.heap.size := hk.hb.lt
  have hs1 : w1.heap.size = w.heap.size := by rw [← hw1]; simp [World.setCell]
  have k1 : BookAt w1 bk (n + 1) ss (.slice B es.length bc) := by
    rw [← hw1]
    exact (heap_setCell_same w bk 0 _ 43 _ hk).trans (by simp)
  have hrow := own_hb ho hk.hb (by decide)
  have k2 : BookAt w2 bk (n + 1) ss (.slice B es.length bc) := (hg.block bk (by show bk < (w1.alloc X).heap.size; simp; omega) (Ne.symm hrow)).trans ((Below.heap_alloc w1 X bk (by omega)).trans k1)
  have k3 : BookAt (w2.setCell ⟨bk, 3, none⟩ (.slice (some ⟨g, 0, none⟩) (es.length + 1) gc)) bk (n + 1) ss (.slice (some ⟨g, 0, none⟩) (es.length + 1) gc) := (heap_setCell_same w2 bk 3 _ 43 _ k2).trans (by simp)
  have f1 : Frm2 base 88 43 w w1 := by
    rw [← hw1]
    exact Frm2.of_grown (row := some bk) ⟨rfl, rfl, rfl, by simp [World.setCell], fun i _ hi => Below.heap_setCell _ _ _ _ (fun e' => hi (by rw [e']))⟩ hb (fun r e' => by injection e' with e'; subst e'; exact ⟨hbb, .inr hk.hb⟩)
  have f2 : Frm2 base 88 43 w1 (w1.alloc X).drew := ⟨((Below.refl _ _).alloc (by omega) X).drew, fun k hk _ _ => Below.heap_alloc w1 X k hk⟩
  have ho1 : w1.ownsRow base 88 3 (.slice B es.length bc) es.length (rowCells es) := by rw [← hw1]; exact own_other ho hk.hb (by decide)
  have f3 : Frm2 base 88 43 (w1.alloc X).drew w2 := Frm2.of_grown hg (by show base ≤ (w1.alloc X).heap.size; simp; omega) (fun r e' => by
    rcases (ho1.alloc X).2 with ⟨hv, _⟩ | ⟨g', cap', cur, hv, hbg, hgt, _⟩
    · rw [hv] at e'; simp [Value.ownBlock] at e'
    · rw [hv] at e'
      have : g' = r := by simpa [Value.ownBlock] using e'
      subst this
      exact ⟨hbg, .inl ⟨cur, hgt⟩⟩)
  have f4 : Frm2 base 88 43 w2 (w2.setCell ⟨bk, 3, none⟩ (.slice (some ⟨g, 0, none⟩) (es.length + 1) gc)) :=
    Frm2.of_grown (row := some bk) ⟨rfl, rfl, rfl, by simp [World.setCell], fun i _ hi => Below.heap_setCell _ _ _ _ (fun e' => hi (by rw [e']))⟩ (by have := hg.size; simp at this; omega) (fun r e' => by injection e' with e'; subst e'; exact ⟨hbb, .inr k2.hb⟩)
  refine ⟨g, gc, rfl, ?_, ?_, ((f1.trans f2).trans f3).trans f4⟩
  · rw [List.length_append]; push_cast; exact k3
  · have : rowCells (es ++ [⟨A, len, cap, n + 1⟩]) = rowCells es ++ [.slice A len cap, .slice none 0 0, .int .i64 ((n : Int) + 1)] := by
      unfold rowCells; rw [List.flatMap_append]; simp
    rw [this, List.length_append]
    exact own_other ho2 k2.hb (by decide)
set_option maxRecDepth 100000 in
set_option maxHeartbeats 2000000 in
theorem keepInt8_any (bk base n : Nat) (A B : Option Addr) (len cap bc : Nat) (ss : Value) (es : List Ent) (w : World) (hn : n ≤ 1000) (hb : base ≤ w.heap.size) (hbb : base ≤ bk) (hk : BookAt w bk n ss (.slice B es.length bc))
    (ho : w.ownsRow base 88 3 (.slice B es.length bc) es.length (rowCells es)) (hes : es.length ≤ 1000) :
    Calls Try.prog 107 #[.pointer (some ⟨bk, 0, none⟩), .slice A len cap] w (Kept8 w bk base (n + 1) ss (es ++ [⟨A, len, cap, n + 1⟩])) := by
  obtain ⟨i0, hi, hz0, hz1, hz2⟩ := info_parts Try.info88
  have c0 : w.cell? ⟨bk, 0, none⟩ = some (.int .i64 n) := hk.cell 0
  have c1 : w.cell? ⟨bk, 3, none⟩ = some (.slice B es.length bc) := hk.cell 3
  have f0 := hk.hb.frozen 0
  have f1 := hk.hb.frozen 3
  obtain ⟨w1, hw1⟩ : ∃ w1, w.setCell ⟨bk, 0, none⟩ (.int .i64 ((n : Int) + 1)) = w1 := ⟨_, rfl⟩
  have d0 : w1.cell? ⟨bk, 0, none⟩ = some (.int .i64 ((n : Int) + 1)) := by rw [← hw1]; exact World.cell?_setCell_same' _ _ _ (by rw [c0]; rfl)
  have d1 : w1.cell? ⟨bk, 3, none⟩ = some (.slice B es.length bc) := by rw [← hw1, World.cell?_setCell_other _ _ _ _ (fun e => by injection e with _ e; omega)]; exact c1
  have g1 : w1.frozen? ⟨bk, 3, none⟩ = false := by rw [← hw1, World.frozen?_setCell]; exact f1
  have ho1 : w1.ownsRow base 88 3 (.slice B es.length bc) es.length (rowCells es) := by rw [← hw1]; exact own_other ho hk.hb (by decide)
  have hlt : bk < w1.heap.size := World.block_lt_of_cell? w1 _ d1
  have hb1 : base ≤ w1.heap.size := by omega
  have hrow : (Value.slice B es.length bc).ownBlock ≠ some bk := own_hb ho hk.hb (by decide)
  have HW1 := Lib.hid hw1
  have K1 : Hid (∀ X, (w1.alloc X).drew.cell? ⟨bk, 0, none⟩ = some (.int .i64 ((n : Int) + 1)) ∧ (w1.alloc X).drew.cell? ⟨bk, 3, none⟩ = some (.slice B es.length bc) ∧ (w1.alloc X).drew.frozen? ⟨bk, 3, none⟩ = false) := fun X =>
    ⟨(World.cell?_alloc_lt w1 X ⟨bk, 0, none⟩ hlt).trans d0, (World.cell?_alloc_lt w1 X ⟨bk, 3, none⟩ hlt).trans d1, (World.frozen?_of_block (w := w1) (w' := w1.alloc X) (Below.heap_alloc w1 X bk hlt)).trans g1⟩
  go_enter Try.func107, Try.ntmps107
  go_wp2
  clear hw1 c0 c1 f0 f1
  go_region_law
    ((refine step_append_lies _ (by rfl) _ _ _ (by rfl) base 88 i0 _ 3 56 Try.underlying32 hi hz0 hz1 hz2 rfl (by omega) (.slice B es.length bc) es.length (rowCells es) (by rfl) ((ho1.alloc _).drew)
        ⟨w1.heap.size, 0, none⟩ 1 1 [.slice A len cap, .slice none 0 0, .int .i64 ((n : Int) + 1)] (by rfl) (by rfl) (World.news_of_block (cs := #[.slice A len cap, .slice none 0 0, .int .i64 ((n : Int) + 1)]) (t := 88) (fr := (0, 0)) (heap_alloc_new w1 _)) (by simp [Value.oneCell'])
        (by omega) (by unfold maxLen; omega) (by omega) (by simp; omega) (w1.heap.size + 1) (by simp) ?_; intro gg gcap w2 hown2 hgrow hat hlt2; have e1 := (hgrow.cell_far (a := ⟨bk, 3, none⟩) (by simp; omega) (Ne.symm hrow)).trans (K1.out _).2.1; have e2 := (hgrow.frozen_far (a := ⟨bk, 3, none⟩) (by simp; omega) (Ne.symm hrow)).trans (K1.out _).2.2))
  all_goals
    go_end0
    exact keep_end8 hb hbb hk ho HW1.out hown2 hgrow
end Go.Proofs.Ytlkkmeeijjaeiaa
