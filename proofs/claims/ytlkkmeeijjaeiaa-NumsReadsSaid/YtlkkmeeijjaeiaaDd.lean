/- The walk of the statement NumsReads: the document's GetItem. -/
import Derived.Test.YtlkkmeeijjaeiaaCc
namespace Go.Proofs.Ytlkkmeeijjaeiaa
open Go.RowKit
set_option linter.unusedVariables false
/-- What stands where the document's GetItem has read its two numbers. -/
structure RPre (A : Option Addr) (len c : Nat) (w w0 : World) (k j m : Nat) (id : Int) : Prop where
  hw0 : w.alloc (.cells #[.int .u64 0, .slice none 0 0] 54) = w0
  G1 : Calls Try.prog 24 #[.slice A len c] w0 fun e w' => e = .returned (.tuple #[.int .u64 id, .int .i64 k, .int .i64 0]) ∧ w0 = w'
  G2 : Calls Try.prog 24 #[.slice (A.map (·.add k)) (len - k) (c - k)] w0 fun e w' => e = .returned (.tuple #[.int .u64 m, .int .i64 j, .int .i64 0]) ∧ w0 = w'
  hk : k ≤ len
  hck : ¬ c = k
  hkj : k + j ≤ len
  hlc : len ≤ c
  hc : c ≤ 9223372036854775807
  hl : len ≤ 140737488355328
theorem RPre.bel {A : Option Addr} {len c : Nat} {w w0 : World} {k j m : Nat} {id : Int} (h : RPre A len c w w0 k j m id) : Below w.heap.size w w0 ∧ Res w.heap.size w0 ∧ w0.heap.size = w.heap.size + 1 := by
  have hw0 := h.hw0
  exact ⟨by rw [← hw0]; exact (Below.refl _ _).alloc (Nat.le_refl _) _, ⟨by rw [← hw0]; simp [go_sem], by rw [← hw0]; simp [go_sem], by rw [← hw0]; simp [go_sem], by rw [← hw0]; simp [go_sem]⟩, by rw [← hw0]; simp⟩
set_option maxRecDepth 100000 in
set_option maxHeartbeats 1000000 in
theorem refGetItem_no1 (A : Option Addr) (c : Nat) (xs : List Int) (n : Nat) (hn : n = xs.length) (w : World) (hx : Rd .u8 w w.heap.size A xs) (hb : ∀ x ∈ xs, 0 ≤ x ∧ x ≤ 255) (hc : xs.length ≤ c) (hm : c ≤ 9223372036854775807 ∧ xs.length ≤ 140737488355328)
    (hE : getE xs ≠ 0) : Calls Try.prog 32 #[.slice A n c] w fun e w' => e = itNo (getE xs) ∧ Below w.heap.size w w' := by
  obtain ⟨w0, hw0⟩ : ∃ w0, w.alloc (.cells #[.int .u64 0, .slice none 0 0] 54) = w0 := ⟨_, rfl⟩
  have hB0 : Below w.heap.size w w0 := by rw [← hw0]; exact (Below.refl _ _).alloc (Nat.le_refl _) _
  obtain ⟨b0, b1, f0, f1⟩ : Res w.heap.size w0 := ⟨by rw [← hw0]; simp [go_sem], by rw [← hw0]; simp [go_sem], by rw [← hw0]; simp [go_sem], by rw [← hw0]; simp [go_sem]⟩
  have G := Lib.hid (refGet_any A c xs n hn w0 _ (hx.below hB0) hb hc hm)
  have hge : (getE xs == 0) = false := by simpa using hE
  clear hx hb hc hm hn hE
  generalize getE xs = x at *
  generalize getN xs = y at *
  generalize getK xs = z at *
  go_enter Try.func32, Try.ntmps32
  go_wp2_with fail
  refine G.out.mono ?_
  rintro e w' ⟨rfl, rfl⟩
  clear hw0
  go_wp2
  exact bodyPost_ret (v := .tuple #[.agg #[.int .u64 0, .slice none 0 0], .int .i64 0, .int .i64 x]) (by simp [results, Try.results32, go_sem, b0, b1]) rfl ⟨rfl, (hB0.setCell (p := ⟨w.heap.size, 0, none⟩) (Nat.le_refl _) _).setCell (p := ⟨w.heap.size, 1, none⟩) (Nat.le_refl _) _⟩
set_option maxRecDepth 100000 in
set_option maxHeartbeats 1000000 in
theorem refGetItem_w2 {A : Option Addr} {len c : Nat} {w w0 : World} {k : Nat} {id y z x : Int} (hw0 : w.alloc (.cells #[.int .u64 0, .slice none 0 0] 54) = w0)
    (G1 : Hid (Calls Try.prog 24 #[.slice A len c] w0 fun e w' => e = .returned (.tuple #[.int .u64 id, .int .i64 k, .int .i64 0]) ∧ w0 = w'))
    (G2 : Hid (Calls Try.prog 24 #[.slice (A.map (·.add k)) (len - k) (c - k)] w0 fun e w' => e = .returned (.tuple #[.int .u64 y, .int .i64 z, .int .i64 x]) ∧ w0 = w'))
    (hk : k ≤ len) (hck : ¬ c = k) (hlc : len ≤ c) (hc : c ≤ 9223372036854775807) (hl : len ≤ 140737488355328) (hge : (x == 0) = false) : Calls Try.prog 32 #[.slice A len c] w fun e w' => e = itNo x ∧ Below w.heap.size w w' := by
  have hB0 : Below w.heap.size w w0 := by rw [← hw0]; exact (Below.refl _ _).alloc (Nat.le_refl _) _
  obtain ⟨b0, b1, f0, f1⟩ : Res w.heap.size w0 := ⟨by rw [← hw0]; simp [go_sem], by rw [← hw0]; simp [go_sem], by rw [← hw0]; simp [go_sem], by rw [← hw0]; simp [go_sem]⟩
  go_enter Try.func32, Try.ntmps32
  go_wp2_with fail
  refine G1.out.mono ?_
  rintro e w' ⟨rfl, rfl⟩
  clear hw0
  go_wp2_with fail
  refine G2.out.mono ?_
  rintro e w' ⟨rfl, rfl⟩
  go_wp2
  exact bodyPost_ret (v := .tuple #[.agg #[.int .u64 0, .slice none 0 0], .int .i64 0, .int .i64 x]) (by simp [results, Try.results32, go_sem, b0, b1]) rfl ⟨rfl, (hB0.setCell (p := ⟨w.heap.size, 0, none⟩) (Nat.le_refl _) _).setCell (p := ⟨w.heap.size, 1, none⟩) (Nat.le_refl _) _⟩
set_option maxRecDepth 100000 in
set_option maxHeartbeats 1000000 in
theorem refGetItem_w2b {A : Option Addr} {w w0 : World} {k : Nat} {id y z x : Int} (hw0 : w.alloc (.cells #[.int .u64 0, .slice none 0 0] 54) = w0)
    (G1 : Hid (Calls Try.prog 24 #[.slice A k k] w0 fun e w' => e = .returned (.tuple #[.int .u64 id, .int .i64 k, .int .i64 0]) ∧ w0 = w'))
    (G2 : Hid (Calls Try.prog 24 #[.slice A 0 0] w0 fun e w' => e = .returned (.tuple #[.int .u64 y, .int .i64 z, .int .i64 x]) ∧ w0 = w'))
    (hl : k ≤ 140737488355328) (hge : (x == 0) = false) : Calls Try.prog 32 #[.slice A k k] w fun e w' => e = itNo x ∧ Below w.heap.size w w' := by
  have hB0 : Below w.heap.size w w0 := by rw [← hw0]; exact (Below.refl _ _).alloc (Nat.le_refl _) _
  obtain ⟨b0, b1, f0, f1⟩ : Res w.heap.size w0 := ⟨by rw [← hw0]; simp [go_sem], by rw [← hw0]; simp [go_sem], by rw [← hw0]; simp [go_sem], by rw [← hw0]; simp [go_sem]⟩
  go_enter Try.func32, Try.ntmps32
  go_wp2_with fail
  refine G1.out.mono ?_
  rintro e w' ⟨rfl, rfl⟩
  clear hw0
  go_wp2_with fail
  refine G2.out.mono ?_
  rintro e w' ⟨rfl, rfl⟩
  go_wp2
  exact bodyPost_ret (v := .tuple #[.agg #[.int .u64 0, .slice none 0 0], .int .i64 0, .int .i64 x]) (by simp [results, Try.results32, go_sem, b0, b1]) rfl ⟨rfl, (hB0.setCell (p := ⟨w.heap.size, 0, none⟩) (Nat.le_refl _) _).setCell (p := ⟨w.heap.size, 1, none⟩) (Nat.le_refl _) _⟩
set_option maxRecDepth 100000 in
set_option maxHeartbeats 1000000 in
theorem refGetItem_w3 {A : Option Addr} {len c : Nat} {w w0 : World} {k j m : Nat} {id : Int} (h : RPre A len c w w0 k j m id) (hd : isDimB m = false) :
    Calls Try.prog 32 #[.slice A len c] w fun e w' => e = itNo 5 ∧ Below w.heap.size w w' := by
  obtain ⟨hB0, ⟨b0, b1, f0, f1⟩, hs⟩ := h.bel
  obtain ⟨hw0, g1, g2, hk, hck, hkj, hlc, hc, hl⟩ := h
  have G1 := Lib.hid g1
  have G2 := Lib.hid g2
  have hcase : m < 1 ∨ (¬ m < 1 ∧ 64 < m) := by
    unfold isDimB at hd
    simp at hd
    omega
  clear g1 g2 hd
  rcases hcase with h1 | ⟨h1, h2⟩
  all_goals
    go_enter Try.func32, Try.ntmps32
    go_wp2_with fail
    refine G1.out.mono ?_
    rintro e w' ⟨rfl, rfl⟩
    clear hw0
    go_wp2_with fail
    refine G2.out.mono ?_
    rintro e w' ⟨rfl, rfl⟩
    go_wp2
    exact bodyPost_ret (v := .tuple #[.agg #[.int .u64 0, .slice none 0 0], .int .i64 0, .int .i64 5]) (by simp [results, Try.results32, go_sem, b0, b1]) rfl ⟨rfl, (hB0.setCell (p := ⟨w.heap.size, 0, none⟩) (Nat.le_refl _) _).setCell (p := ⟨w.heap.size, 1, none⟩) (Nat.le_refl _) _⟩
set_option maxRecDepth 100000 in
set_option maxHeartbeats 1000000 in
theorem refGetItem_w4 {A : Option Addr} {len c : Nat} {w w0 : World} {k j m : Nat} {id : Int} (h : RPre A len c w w0 k j m id) (h1 : 1 ≤ m) (h64 : m ≤ 64) (hlt : len - (k + j) < m) :
    Calls Try.prog 32 #[.slice A len c] w fun e w' => e = itNo 4 ∧ Below w.heap.size w w' := by
  obtain ⟨hB0, ⟨b0, b1, f0, f1⟩, hs⟩ := h.bel
  obtain ⟨hw0, g1, g2, hk, hck, hkj, hlc, hc, hl⟩ := h
  have G1 := Lib.hid g1
  have G2 := Lib.hid g2
  have hlt' : (len : Int) - ((k : Int) + j) < m := by omega
  clear g1 g2
  go_enter Try.func32, Try.ntmps32
  go_wp2_with fail
  refine G1.out.mono ?_
  rintro e w' ⟨rfl, rfl⟩
  clear hw0
  go_wp2_with fail
  refine G2.out.mono ?_
  rintro e w' ⟨rfl, rfl⟩
  go_wp2
  exact bodyPost_ret (v := .tuple #[.agg #[.int .u64 0, .slice none 0 0], .int .i64 0, .int .i64 4]) (by simp [results, Try.results32, go_sem, b0, b1]) rfl ⟨rfl, (hB0.setCell (p := ⟨w.heap.size, 0, none⟩) (Nat.le_refl _) _).setCell (p := ⟨w.heap.size, 1, none⟩) (Nat.le_refl _) _⟩
/-- What stands while the document's GetItem fills its item. -/
structure InG (w : World) (id : Int) (p t : Nat) (zs : List Value) (v : Value) (W : World) : Prop where
  c0 : W.cell? ⟨p, 0, none⟩ = some (.int .u64 id)
  c1 : W.cell? ⟨p, 1, none⟩ = some v
  fr : W.frozen? ⟨p, 1, none⟩ = false
  own : W.ownsRow (p + 1) 74 1 v t zs
  bel : Below w.heap.size w W
  res : Res w.heap.size W
  lt : p < W.heap.size
  le : w.heap.size < p
theorem InG.step {w W w2 : World} {id : Int} {p t g gc : Nat} {zs zs' : List Value} {v : Value} {X : Obj} (h : InG w id p t zs v W) (hg : (W.alloc X).drew.grownBy w2 v.ownBlock) (ho : w2.ownsRow (p + 1) 74 1 (.slice (some ⟨g, 0, none⟩) (t + 1) gc) (t + 1) zs') :
    InG w id p (t + 1) zs' (.slice (some ⟨g, 0, none⟩) (t + 1) gc) (w2.setCell ⟨p, 1, none⟩ (.slice (some ⟨g, 0, none⟩) (t + 1) gc)) := by
  have hlt := h.lt
  have hle := h.le
  have hz : (W.alloc X).drew.heap.size = W.heap.size + 1 := by show (W.alloc X).heap.size = _; simp
  have hrow : ∀ q, q ≤ p → some q ≠ v.ownBlock := fun q hq e => by have := (h.own.lt q e.symm).1; omega
  have cf : ∀ q o, q ≤ p → w2.cell? ⟨q, o, none⟩ = W.cell? ⟨q, o, none⟩ := fun q o hq => (hg.cell_far (a := ⟨q, o, none⟩) (by show q < (W.alloc X).drew.heap.size; omega) (hrow q hq)).trans (World.cell?_alloc_lt W X ⟨q, o, none⟩ (by show q < W.heap.size; omega))
  have ff : ∀ q o, q ≤ p → w2.frozen? ⟨q, o, none⟩ = W.frozen? ⟨q, o, none⟩ := fun q o hq => (hg.frozen_far (a := ⟨q, o, none⟩) (by show q < (W.alloc X).drew.heap.size; omega) (hrow q hq)).trans (World.frozen?_of_block (w := W) (w' := W.alloc X) (Below.heap_alloc W X q (by omega)))
  have c1' : w2.cell? ⟨p, 1, none⟩ = some v := (cf p 1 (Nat.le_refl _)).trans h.c1
  have ot : ∀ q o, q ≤ p → ¬ (q = p ∧ o = 1) → (w2.setCell ⟨p, 1, none⟩ (.slice (some ⟨g, 0, none⟩) (t + 1) gc)).cell? ⟨q, o, none⟩ = W.cell? ⟨q, o, none⟩ := fun q o hq hne => by
    rw [World.cell?_setCell_other _ _ _ _ (fun e => hne (by injection e with e1 e2; exact ⟨by omega, by omega⟩))]
    exact cf q o hq
  have b2 : Below w.heap.size w w2 := ((h.bel.alloc h.bel.size X).drew).grown hg (by rw [hz]; have := h.bel.size; omega) (fun j hj => by have := (h.own.lt j hj).1; omega)
  refine ⟨(ot p 0 (Nat.le_refl _) (by omega)).trans h.c0, World.cell?_setCell_same' _ _ _ (by rw [c1']; rfl), by rw [World.frozen?_setCell]; exact (ff p 1 (Nat.le_refl _)).trans h.fr, ownsRow_setCell_below ho (a := ⟨p, 1, none⟩) (by show p < p + 1; omega) _, b2.setCell (p := ⟨p, 1, none⟩) (by show w.heap.size ≤ p; omega) _, ?_, ?_, h.le⟩
  · obtain ⟨r0, r1, r2, r3⟩ := h.res
    exact ⟨(ot _ 0 (by omega) (by omega)).trans r0, (ot _ 1 (by omega) (by omega)).trans r1, by rw [World.frozen?_setCell]; exact (ff _ 0 (by omega)).trans r2, by rw [World.frozen?_setCell]; exact (ff _ 1 (by omega)).trans r3⟩
  · have := hg.size
    simp [World.setCell]
    omega
theorem sgn_take (ys : List Int) (t : Nat) (v : Int) (h : t < ys.length) (hv : ys[t]?.getD 0 = v) : ((ys.take (t + 1)).map sgn).map (Value.int .i8) = ((ys.take t).map sgn).map (Value.int .i8) ++ [.int .i8 (sgn v)] := by
  rw [List.take_add_one, List.getElem?_eq_getElem h]
  rw [List.getElem?_eq_getElem h] at hv
  simp at hv
  simp [hv]
/-- What the document's GetItem answers where it refuses nothing. -/
def RefYes (w : World) (id : Int) (K : Int) (ys : List Int) (e : Ending) (w' : World) : Prop :=
  ∃ g cap, e = .returned (.tuple #[.agg #[.int .u64 id, .slice (some ⟨g, 0, none⟩) ys.length cap], .int .i64 K, .int .i64 0]) ∧
    w'.ownsRow w.heap.size 74 1 (.slice (some ⟨g, 0, none⟩) ys.length cap) ys.length ((ys.map sgn).map (Value.int .i8)) ∧ Below w.heap.size w w'
theorem Try.info74d : (Try.prog.info? 74).map (fun i => (i.zero, i.size, i.bytes)) = some (some (.int .i8 0), 1, 1) := by kernel_rfl
end Go.Proofs.Ytlkkmeeijjaeiaa
