/- Words: a world that has turned in some blocks alone. Over any program. -/
import Derived.Test.YtfokejlancmahaaA
namespace Go.Proofs.Ytfokejlancmahaa
open Go.RowKit
set_option linter.unusedVariables false
/-- Only the blocks bs, and new ones, may have turned. -/
structure Turn (bs : List Nat) (w w' : World) : Prop where
  os : w'.os = w.os
  tape : w'.tape = w.tape
  output : w'.output = w.output
  size : w.heap.size ≤ w'.heap.size
  block : ∀ k, k < w.heap.size → k ∉ bs → w'.heap[k]? = w.heap[k]?
theorem Turn.refl (bs : List Nat) (w : World) : Turn bs w w := ⟨rfl, rfl, rfl, Nat.le_refl _, fun _ _ _ => rfl⟩
theorem Turn.trans {A B : List Nat} {w w1 w2 : World} (h : Turn A w w1) (k : Turn B w1 w2) (hB : ∀ b ∈ B, b ∈ A ∨ w.heap.size ≤ b) : Turn A w w2 :=
  ⟨k.os.trans h.os, k.tape.trans h.tape, k.output.trans h.output, Nat.le_trans h.size k.size, fun i hi hn => (k.block i (Nat.lt_of_lt_of_le hi h.size) (fun hb => by rcases hB i hb with h1 | h1; exact hn h1; omega)).trans (h.block i hi hn)⟩
theorem Turn.more {A B : List Nat} {w w' : World} (h : Turn A w w') (hs : ∀ a ∈ A, a ∈ B) : Turn B w w' := ⟨h.os, h.tape, h.output, h.size, fun k hk hn => h.block k hk (fun ha => hn (hs k ha))⟩
theorem Turn.of_below {w w' : World} (h : Below w.heap.size w w') : Turn [] w w' := ⟨h.os, h.tape, h.output, h.size, fun k hk _ => h.block k hk⟩
theorem Turn.of_below' {B : Nat} {w w' : World} (h : Below B w w') (hb : w.heap.size ≤ B) : Turn [] w w' := Turn.of_below (h.mono hb)
theorem Turn.below {A : List Nat} {w w' : World} (h : Turn A w w') {B : Nat} (hA : ∀ a ∈ A, B ≤ a) (hB : B ≤ w.heap.size) : Below B w w' :=
  ⟨h.os, h.tape, h.output, h.size, fun k hk => h.block k (by omega) (fun ha => by have := hA k ha; omega)⟩
theorem Turn.alloc {A : List Nat} {w w' : World} (h : Turn A w w') (o : Obj) : Turn A w (w'.alloc o) :=
  ⟨h.os, h.tape, h.output, Nat.le_trans h.size (by simp), fun k hk hn => (Below.heap_alloc w' o k (by have := h.size; omega)).trans (h.block k hk hn)⟩
theorem Turn.drew {A : List Nat} {w w' : World} (h : Turn A w w') : Turn A w w'.drew := ⟨h.os, h.tape, h.output, h.size, h.block⟩
theorem Turn.drewN {A : List Nat} {w w' : World} (h : Turn A w w') (n : Nat) : Turn A w (w'.drewN n) := by
  induction n with
  | zero => exact h
  | succ n ih => exact ih.drew
theorem Turn.setCell {A : List Nat} {w w' : World} (h : Turn A w w') {p : Addr} (hp : p.block ∈ A ∨ w.heap.size ≤ p.block) (u : Value) : Turn A w (w'.setCell p u) :=
  ⟨h.os, h.tape, h.output, Nat.le_trans h.size (by simp [World.setCell]), fun k hk hn => (Below.heap_setCell w' p u k (fun e => by subst e; rcases hp with h1 | h1; exact hn h1; omega)).trans (h.block k hk hn)⟩
theorem Turn.of_grown {w w' : World} {r : Option Nat} (h : w.grownBy w' r) : Turn r.toList w w' :=
  ⟨h.os, h.tape, h.output, h.size, fun k hk hn => h.block k hk (fun e => hn (by rw [← e]; simp))⟩
theorem Turn.cell {A : List Nat} {w w' : World} (h : Turn A w w') {p : Addr} (hl : p.block < w.heap.size) (hn : p.block ∉ A) : w'.cell? p = w.cell? p := World.cell?_of_block (h.block _ hl hn)
theorem Whole.turn {A : List Nat} {w w' : World} {g : Nat} {t : TypeId} {cs : Array Value} (h : Whole w g t cs) (k : Turn A w w') (hn : g ∉ A) : Whole w' g t cs := (k.block g h.lt hn).trans h
theorem own_turn {A : List Nat} {w w' : World} {base n size : Nat} {e : TypeId} {v : Value} {xs : List Value} (h : w.ownsRow base e size v n xs) (k : Turn A w w') (hn : ∀ g, v.ownBlock = some g → g ∉ A) : w'.ownsRow base e size v n xs := by
  refine ⟨h.1, ?_⟩
  rcases h.2 with h0 | ⟨g, cap, cur, rfl, hb, hg, rest⟩
  · exact .inl h0
  · exact .inr ⟨g, cap, cur, rfl, hb, (k.block g (Array.getElem?_eq_some_iff.1 hg).1 (hn g rfl)).trans hg, rest⟩
theorem own_shrink {w : World} {base : Nat} {t : TypeId} {s : Nat} {g n c cap : Nat} {xs : List Value} (hx : c ≤ n) (h : w.ownsRow base t s (.slice (some ⟨g, 0, none⟩) n cap) n xs) : w.ownsRow base t s (.slice (some ⟨g, 0, none⟩) c cap) c (xs.take (c * s)) := by
  have hcs : c * s ≤ n * s := Nat.mul_le_mul_right s hx
  refine ⟨by rw [List.length_take, h.1]; omega, ?_⟩
  rcases h.2 with ⟨hv, h0⟩ | ⟨g', cap', cur, hv, hb, hg, h1, h2, h3, h4⟩
  · cases hv
  · injection hv with q1 q2 q3
    injection q1 with q1
    injection q1 with q1
    subst q1 q3
    refine .inr ⟨g, cap, cur, rfl, hb, hg, by omega, h2, h3, ?_⟩
    rw [← h4, List.take_take, Nat.min_eq_left hcs]
/-- A block of another element type is not the row's. -/
theorem own_apart {w : World} {base n size : Nat} {e t : TypeId} {v : Value} {xs : List Value} {g : Nat} {cs : Array Value} (h : w.ownsRow base e size v n xs) (hw : Whole w g t cs) (ht : t ≠ e) : v.ownBlock ≠ some g := fun hv => by
  rcases h.2 with ⟨rfl, _⟩ | ⟨g', cap, cur, rfl, _, hg, _⟩
  · simp [Value.ownBlock] at hv
  · obtain rfl : g' = g := by simpa [Value.ownBlock] using hv
    rw [show w.heap[g']? = _ from hw] at hg
    simp at hg
    exact ht hg.2
end Go.Proofs.Ytfokejlancmahaa
