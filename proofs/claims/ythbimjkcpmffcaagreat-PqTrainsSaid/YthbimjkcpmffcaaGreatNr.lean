/- Several texts in one. -/
import Derived.Test.YthbimjkcpmffcaaGreatNq
/- What is asked of layer 7's Cost, Step and Train of the program. -/
namespace Go.Proofs.YthbimjkcpmffcaaGreat
open Go.RowKit
set_option linter.unusedVariables false
def TrainSpec : Prop := ∀ (A : Option Addr) (c : Nat) (L : List Vc) (k r : Int) (s : Nat) (w : World), VArg w A L → s < 18446744073709551616 →
  Calls Tryz.prog 85 #[.slice A L.length c, .int .i64 k, .int .i64 r, .int .u64 s] w (VAns w (trainA (vecs L) k r s) (errE (mayTB (vecs L) k r)))
end Go.Proofs.YthbimjkcpmffcaaGreat
/- What is asked of layer 7's Nearest; alive. -/
namespace Go.Proofs.YthbimjkcpmffcaaGreat
open Go.RowKit
set_option linter.unusedVariables false
def NearSpec : Prop := ∀ (A : Option Addr) (c : Nat) (L : List Vc) (B : Option Addr) (d : Nat) (v : List Int) (w : World), VArg w A L → NArg w B v →
  Calls Tryz.prog 32 #[.slice A L.length c, .slice B v.length d] w fun e w' => e = .returned (.tuple #[.int .i64 (nearA (vecs L) v), .int .i64 (errE (mayM (vecs L) [v]))]) ∧ Below w.heap.size w w'
/-- Literal lists of vectors of one number each. -/
theorem cell_lit {w : World} {o : Obj} {b i : Nat} {v : Value} (h : w.cell? ⟨b, i, none⟩ = some v) : (w.alloc o).cell? ⟨b, i, none⟩ = some v := (World.cell?_alloc_lt w o ⟨b, i, none⟩ (World.block_lt_of_cell? w _ h)).trans h
theorem lit_rd {w : World} {B b : Nat} {a : Int} (h : w.cell? ⟨b, 0, none⟩ = some (.int .i8 a)) (hB : b < B) : Rd .i8 w B (some ⟨b, 0, none⟩) [a] := fun _ => ⟨b, 0, rfl, hB, fun i hi => by
  obtain rfl : i = 0 := by simpa using hi
  exact h⟩
theorem lit3 {w : World} {g b1 b2 b3 : Nat} {a b c : Int} (hg : g < w.heap.size) (c1 : w.cell? ⟨g, 0, none⟩ = some (.slice (some ⟨b1, 0, none⟩) 1 1)) (c2 : w.cell? ⟨g, 1, none⟩ = some (.slice (some ⟨b2, 0, none⟩) 1 1)) (c3 : w.cell? ⟨g, 2, none⟩ = some (.slice (some ⟨b3, 0, none⟩) 1 1))
    (d1 : w.cell? ⟨b1, 0, none⟩ = some (.int .i8 a)) (d2 : w.cell? ⟨b2, 0, none⟩ = some (.int .i8 b)) (d3 : w.cell? ⟨b3, 0, none⟩ = some (.int .i8 c)) : RdV w w.heap.size (some ⟨g, 0, none⟩) [(some ⟨b1, 0, none⟩, 1, [a]), (some ⟨b2, 0, none⟩, 1, [b]), (some ⟨b3, 0, none⟩, 1, [c])] := fun _ => by
  refine ⟨g, 0, rfl, hg, fun i hi => ?_⟩
  have hi' : i < 3 := hi
  rw [Nat.zero_add]
  match i, hi' with
  | 0, _ => exact ⟨c1, lit_rd d1 (World.block_lt_of_cell? w _ d1)⟩
  | 1, _ => exact ⟨c2, lit_rd d2 (World.block_lt_of_cell? w _ d2)⟩
  | 2, _ => exact ⟨c3, lit_rd d3 (World.block_lt_of_cell? w _ d3)⟩
theorem lit2 {w : World} {g b1 b2 : Nat} {a b : Int} (hg : g < w.heap.size) (c1 : w.cell? ⟨g, 0, none⟩ = some (.slice (some ⟨b1, 0, none⟩) 1 1)) (c2 : w.cell? ⟨g, 1, none⟩ = some (.slice (some ⟨b2, 0, none⟩) 1 1))
    (d1 : w.cell? ⟨b1, 0, none⟩ = some (.int .i8 a)) (d2 : w.cell? ⟨b2, 0, none⟩ = some (.int .i8 b)) : RdV w w.heap.size (some ⟨g, 0, none⟩) [(some ⟨b1, 0, none⟩, 1, [a]), (some ⟨b2, 0, none⟩, 1, [b])] := fun _ => by
  refine ⟨g, 0, rfl, hg, fun i hi => ?_⟩
  have hi' : i < 2 := hi
  rw [Nat.zero_add]
  match i, hi' with
  | 0, _ => exact ⟨c1, lit_rd d1 (World.block_lt_of_cell? w _ d1)⟩
  | 1, _ => exact ⟨c2, lit_rd d2 (World.block_lt_of_cell? w _ d2)⟩
theorem lit1 {w : World} {g b1 : Nat} {a : Int} (hg : g < w.heap.size) (c1 : w.cell? ⟨g, 0, none⟩ = some (.slice (some ⟨b1, 0, none⟩) 1 1)) (d1 : w.cell? ⟨b1, 0, none⟩ = some (.int .i8 a)) : RdV w w.heap.size (some ⟨g, 0, none⟩) [(some ⟨b1, 0, none⟩, 1, [a])] := fun _ => by
  refine ⟨g, 0, rfl, hg, fun i hi => ?_⟩
  have hi' : i < 1 := hi
  rw [Nat.zero_add]
  match i, hi' with
  | 0, _ => exact ⟨c1, lit_rd d1 (World.block_lt_of_cell? w _ d1)⟩
theorem litArg {w : World} {A : Option Addr} {L : List Vc} (h : RdV w w.heap.size A L) (hs : L.length ≤ 3) (hv : ∀ v ∈ vecs L, v.length ≤ 1) (hb : B8 (vecs L)) : VArg w A L := ⟨h, by omega, fun v hv' => by have := hv v hv'; omega, hb⟩
end Go.Proofs.YthbimjkcpmffcaaGreat
