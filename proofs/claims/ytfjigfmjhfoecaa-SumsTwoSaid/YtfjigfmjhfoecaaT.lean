/- What SumsTwo keeps while it fills four rows of bytes: plain mathematics, and the memory's part of a round. -/
import Derived.Test.YtfjigfmjhfoecaaP
import Derived.Maps.AppendAt
namespace Go.Proofs.Ytfjigfmjhfoecaa
open Go.RowKit
set_option linter.unusedVariables false
/-- The four lists. -/
def four4 (X Y Z : List Nat) (j : Nat) : List Nat := if j % 2 = 1 then (if j / 2 = 1 then xors (xors X Y) Z else xors X Y) else (if j / 2 = 1 then xors X Z else X)
theorem four4_len {X Y Z : List Nat} (hy : Y.length = X.length) (hz : Z.length = X.length) (j : Nat) : (four4 X Y Z j).length = X.length := by
  have h1 := xors_len hy.symm
  have h2 := xors_len hz.symm
  have h3 : (xors (xors X Y) Z).length = X.length := by rw [xors_len (by rw [h1, hz]), h1]
  unfold four4
  split <;> split <;> first | assumption | rfl
theorem four4_bytes {X Y Z : List Nat} (hx : ∀ c ∈ X, c < 256) (hy : ∀ c ∈ Y, c < 256) (hz : ∀ c ∈ Z, c < 256) (j : Nat) : ∀ c ∈ four4 X Y Z j, c < 256 := by
  unfold four4
  split <;> split
  · exact xors_bytes (xors_bytes hx hy) hz
  · exact xors_bytes hx hy
  · exact xors_bytes hx hz
  · exact hx
/-- The sums of the first i of them, against one another. -/
def against (X Y Z : List Nat) : Nat → Nat
  | 0 => 0
  | i + 1 => against X Y Z i ^^^ more 0 (four4 X Y Z i)
theorem against_lt {X Y Z : List Nat} (hx : ∀ c ∈ X, c < 256) (hy : ∀ c ∈ Y, c < 256) (hz : ∀ c ∈ Z, c < 256) : ∀ i, against X Y Z i < 4294967296
  | 0 => by unfold against; omega
  | i + 1 => xor_lt (against_lt hx hy hz i) (more_lt (by omega) (four4_bytes hx hy hz i))
theorem against_one (X Y Z : List Nat) : against X Y Z 1 = more 0 (four4 X Y Z 0) := by
  show 0 ^^^ more 0 (four4 X Y Z 0) = _
  rw [Nat.zero_xor]
theorem against_four {X Y Z : List Nat} (hy : Y.length = X.length) (hz : Z.length = X.length) : against X Y Z 4 = 0 := by
  have h1 : fld (0 ^^^ 4294967295) (xors X Y) = fld (0 ^^^ 4294967295) X ^^^ fld 0 Y := by
    have := fld_xor X Y (0 ^^^ 4294967295) 0 hy.symm
    rwa [Nat.xor_zero] at this
  have h2 : fld (0 ^^^ 4294967295) (xors X Z) = fld (0 ^^^ 4294967295) X ^^^ fld 0 Z := by
    have := fld_xor X Z (0 ^^^ 4294967295) 0 hz.symm
    rwa [Nat.xor_zero] at this
  have h3 : fld (0 ^^^ 4294967295) (xors (xors X Y) Z) = fld (0 ^^^ 4294967295) X ^^^ fld 0 Y ^^^ fld 0 Z := by
    have := fld_xor (xors X Y) Z (0 ^^^ 4294967295) 0 (by rw [xors_len hy.symm, hz])
    rwa [Nat.xor_zero, h1] at this
  show (((0 ^^^ more 0 X) ^^^ more 0 (xors X Y)) ^^^ more 0 (xors X Z)) ^^^ more 0 (xors (xors X Y) Z) = 0
  unfold more
  rw [h1, h2, h3]
  generalize fld (0 ^^^ 4294967295) X = F
  generalize fld 0 Y = a
  generalize fld 0 Z = b
  generalize (4294967295 : Nat) = M
  apply Nat.eq_of_testBit_eq
  intro i
  simp only [Nat.testBit_xor, Nat.zero_testBit]
  cases F.testBit i <;> cases a.testBit i <;> cases b.testBit i <;> cases M.testBit i <;> rfl
/-- How much of row j is filled. -/
def cnt (n i k j : Nat) : Nat := if j < i then n else if j = i then k else 0
theorem cnt_next (n i j : Nat) : cnt n i n j = cnt n (i + 1) 0 j := by
  unfold cnt
  by_cases h1 : j < i
  · rw [if_pos h1, if_pos (by omega)]
  · rw [if_neg h1]
    by_cases h2 : j = i
    · rw [if_pos h2, if_pos (by omega)]
    · rw [if_neg h2, if_neg (by omega)]
      split <;> rfl
/-- The array of four rows at block b; row j has the first 'cnt' bytes of its list; no two rows share memory. -/
def Rows4 (w0 wr : World) (b n : Nat) (R : Nat → List Nat) (i k : Nat) (S : Nat → Value) : Prop :=
  Whole wr b 37 #[S 0, S 1, S 2, S 3] ∧ (∀ j, j < 4 → wr.ownsRow (b + 1) 5 1 (S j) (cnt n i k j) ((ints ((R j).take (cnt n i k j))).map (Value.int .u8))) ∧
    (∀ j j', j < 4 → j' < 4 → j ≠ j' → (S j).ownBlock = none ∨ (S j).ownBlock ≠ (S j').ownBlock) ∧ Below w0.heap.size w0 wr ∧ w0.heap.size ≤ b
theorem four_get (S : Nat → Value) {i : Nat} (hi : i < 4) : (#[S 0, S 1, S 2, S 3] : Array Value)[i]? = some (S i) := by
  have h : i = 0 ∨ i = 1 ∨ i = 2 ∨ i = 3 := by omega
  rcases h with rfl | rfl | rfl | rfl <;> rfl
theorem four_set (S : Nat → Value) {i : Nat} (hi : i < 4) (v : Value) : (#[S 0, S 1, S 2, S 3] : Array Value).setIfInBounds i v = #[(fun j => if j = i then v else S j) 0, (fun j => if j = i then v else S j) 1, (fun j => if j = i then v else S j) 2, (fun j => if j = i then v else S j) 3] := by
  have h : i = 0 ∨ i = 1 ∨ i = 2 ∨ i = 3 := by omega
  rcases h with rfl | rfl | rfl | rfl <;> rfl
theorem Rows4.start (w0 w : World) (n : Nat) (R : Nat → List Nat) (hB : Below w0.heap.size w0 w) : Rows4 w0 (w.alloc (.cells #[.slice none 0 0, .slice none 0 0, .slice none 0 0, .slice none 0 0] 37)) w.heap.size n R 0 0 (fun _ => .slice none 0 0) := by
  refine ⟨Whole.new _ _ _, fun j hj => ?_, fun j j' _ _ _ => .inl rfl, hB.alloc hB.size _, hB.size⟩
  have : cnt n 0 0 j = 0 := by unfold cnt; split <;> (try split) <;> omega
  rw [this, List.take_zero]
  exact own_nil_row _ _ _
theorem Rows4.next {w0 wr : World} {b n : Nat} {R : Nat → List Nat} {i : Nat} {S : Nat → Value} (h : Rows4 w0 wr b n R i n S) : Rows4 w0 wr b n R (i + 1) 0 S := by
  obtain ⟨h1, h2, h3, h4, h5⟩ := h
  exact ⟨h1, fun j hj => by rw [← cnt_next]; exact h2 j hj, h3, h4, h5⟩
theorem Rows4.at_ {w0 wr : World} {b n : Nat} {R : Nat → List Nat} {i k : Nat} {S : Nat → Value} (h : Rows4 w0 wr b n R i k S) (hi : i < 4) :
    wr.cell? ⟨b, i, none⟩ = some (S i) ∧ wr.frozen? ⟨b, i, none⟩ = false ∧ wr.ownsRow (b + 1) 5 1 (S i) k ((ints ((R i).take k)).map (Value.int .u8)) ∧ b < wr.heap.size := by
  obtain ⟨h1, h2, h3, h4, h5⟩ := h
  have e : cnt n i k i = k := by unfold cnt; rw [if_neg (by omega), if_pos rfl]
  have := h2 i hi
  rw [e] at this
  exact ⟨by rw [h1.cell, four_get S hi], h1.frozen i, this, h1.lt⟩
theorem Rows4.mem {w0 wr w2 : World} {b n : Nat} {R : Nat → List Nat} {i k : Nat} {S : Nat → Value} (h : Rows4 w0 wr b n R i k S) (hi : i < 4) (o : Obj) (hg : (wr.alloc o).grownBy w2 (S i).ownBlock) :
    w2.cell? ⟨b, i, none⟩ = some (S i) ∧ w2.frozen? ⟨b, i, none⟩ = false := by
  obtain ⟨hcell, hfr, hrow, hbl⟩ := h.at_ hi
  have hne : some b ≠ (S i).ownBlock := fun e => by have := (hrow.lt b e.symm).1; omega
  have hsz : (wr.alloc o).heap.size = wr.heap.size + 1 := by simp
  have hW2 : Whole w2 b 37 #[S 0, S 1, S 2, S 3] := (hg.block b (by rw [hsz]; omega) hne).trans (h.1.alloc o)
  exact ⟨by rw [hW2.cell, four_get S hi], hW2.frozen i⟩
theorem own_form {w : World} {base n size : Nat} {e : TypeId} {v : Value} {xs : List Value} (h : w.ownsRow base e size v n xs) : ∃ A m c, v = .slice A m c := by
  rcases h.2 with ⟨rfl, _⟩ | ⟨g, cap, cur, rfl, _⟩
  · exact ⟨_, _, _, rfl⟩
  · exact ⟨_, _, _, rfl⟩
/-- At the end: each row is a slice that reads as its list. -/
theorem Rows4.end_ {w0 wr : World} {b n : Nat} {R : Nat → List Nat} {S : Nat → Value} (h : Rows4 w0 wr b n R 4 0 S) (hl : ∀ j, (R j).length = n) :
    ∃ (A : Nat → Option Addr) (c : Nat → Nat), Whole wr b 37 #[.slice (A 0) n (c 0), .slice (A 1) n (c 1), .slice (A 2) n (c 2), .slice (A 3) n (c 3)] ∧ (∀ j, j < 4 → Rd .u8 wr wr.heap.size (A j) (ints (R j)) ∧ n ≤ c j) ∧ Below w0.heap.size w0 wr := by
  obtain ⟨h1, h2, h3, h4, h5⟩ := h
  have key : ∀ j, j < 4 → ∃ A c, S j = .slice A n c ∧ Rd .u8 wr wr.heap.size A (ints (R j)) ∧ n ≤ c := fun j hj => by
    have := h2 j hj
    have e : cnt n 4 0 j = n := by unfold cnt; rw [if_pos hj]
    rw [e, List.take_of_length_le (by rw [hl j]; exact Nat.le_refl _)] at this
    obtain ⟨A, c, hv, _, hc, hr, _⟩ := own_slice this
    rw [ints_len, hl j] at hv hc
    exact ⟨A, c, hv, hr, hc⟩
  obtain ⟨A0, c0, e0, r0⟩ := key 0 (by omega)
  obtain ⟨A1, c1, e1, r1⟩ := key 1 (by omega)
  obtain ⟨A2, c2, e2, r2⟩ := key 2 (by omega)
  obtain ⟨A3, c3, e3, r3⟩ := key 3 (by omega)
  rw [e0, e1, e2, e3] at h1
  refine ⟨fun j => match j with | 0 => A0 | 1 => A1 | 2 => A2 | _ => A3, fun j => match j with | 0 => c0 | 1 => c1 | 2 => c2 | _ => c3, h1, fun j hj => ?_, h4⟩
  have hj' : j = 0 ∨ j = 1 ∨ j = 2 ∨ j = 3 := by omega
  rcases hj' with rfl | rfl | rfl | rfl
  · exact r0
  · exact r1
  · exact r2
  · exact r3
theorem Rows4.step {w0 wr w2 : World} {b n : Nat} {R : Nat → List Nat} {i k : Nat} {S : Nat → Value} (h : Rows4 w0 wr b n R i k S) (hi : i < 4) {c : Nat} {v : Value} (o : Obj) (hc : (R i)[k]? = some c)
    (hown : w2.ownsRow (b + 1) 5 1 v (k + 1) ((ints ((R i).take k)).map (Value.int .u8) ++ [.int .u8 (c : Int)])) (hg : (wr.alloc o).grownBy w2 (S i).ownBlock)
    (hat : v.ownBlock = (S i).ownBlock ∨ v.ownBlock = some (wr.alloc o).heap.size) :
    Rows4 w0 (w2.setCell ⟨b, i, none⟩ v) b n R i (k + 1) (fun j => if j = i then v else S j) := by
  obtain ⟨hcell, hfr, hrow, hbl⟩ := h.at_ hi
  obtain ⟨h1, h2, h3, h4, h5⟩ := h
  have hsz : (wr.alloc o).heap.size = wr.heap.size + 1 := by simp
  have hne : some b ≠ (S i).ownBlock := fun e => by have := (hrow.lt b e.symm).1; omega
  have hW2 : Whole w2 b 37 #[S 0, S 1, S 2, S 3] := (hg.block b (by rw [hsz]; omega) hne).trans (h1.alloc o)
  have hB2 : Below w0.heap.size w0 w2 := (h4.alloc h4.size o).grown hg (by rw [hsz]; have := h4.size; omega) (fun k hk => by have := (hrow.lt k hk).1; omega)
  refine ⟨?_, ?_, ?_, hB2.setCell h5 _, h5⟩
  · have := hW2.set i v
    rw [four_set S hi v] at this
    exact this
  · intro j hj
    by_cases e : j = i
    · subst e
      have e1 : cnt n j (k + 1) j = k + 1 := by unfold cnt; rw [if_neg (by omega), if_pos rfl]
      have hk : k < (R j).length := by
        rcases Nat.lt_or_ge k (R j).length with h | h
        · exact h
        · rw [List.getElem?_eq_none h] at hc; cases hc
      have e2 : (ints ((R j).take (k + 1))).map (Value.int .u8) = (ints ((R j).take k)).map (Value.int .u8) ++ [.int .u8 (c : Int)] := by
        rw [List.getElem?_eq_getElem hk] at hc
        rw [List.take_succ_eq_append_getElem hk, Option.some.inj hc]
        unfold ints
        rw [List.map_append, List.map_append]; rfl
      rw [e1, e2]
      show (w2.setCell ⟨b, j, none⟩ v).ownsRow (b + 1) 5 1 (if j = j then v else S j) (k + 1) _
      rw [if_pos rfl]
      exact ownsRow_setCell_below hown (by simp) v
    · have e1 : cnt n i (k + 1) j = cnt n i k j := by unfold cnt; split <;> (try split) <;> omega
      rw [e1]
      show (w2.setCell ⟨b, i, none⟩ v).ownsRow (b + 1) 5 1 (if j = i then v else S j) _ _
      rw [if_neg e]
      exact ownsRow_setCell_below (((h2 j hj).alloc o).kept hg (h3 j i hj hi e)) (by simp) v
  · intro j j' hj hj' hjj
    show (if j = i then v else S j).ownBlock = none ∨ (if j = i then v else S j).ownBlock ≠ (if j' = i then v else S j').ownBlock
    have far : ∀ q, q < 4 → some (wr.alloc o).heap.size ≠ (S q).ownBlock := fun q hq e => by have := ((h2 q hq).lt _ e.symm).2; rw [hsz] at this; omega
    by_cases e : j = i
    · have e' : ¬ j' = i := by omega
      rw [if_pos e, if_neg e']
      rcases hat with hat | hat
      · rw [hat]; exact h3 i j' hi hj' (by omega)
      · rw [hat]; exact .inr (far j' hj')
    · rw [if_neg e]
      by_cases e' : j' = i
      · rw [if_pos e']
        rcases hat with hat | hat
        · rw [hat]; exact h3 j i hj hi e
        · rw [hat]; exact .inr (Ne.symm (far j hj))
      · rw [if_neg e']; exact h3 j j' hj hj' hjj
end Go.Proofs.Ytfjigfmjhfoecaa
