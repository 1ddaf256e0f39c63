/- Words on lists of lists of vectors (the means of a book). -/
import Derived.Test.YthbimjkcpmffcaaPb
namespace Go.Proofs.Ythbimjkcpmffcaa
open Go.RowKit
set_option linter.unusedVariables false
/-- A list of vectors that is an element of a slice: where it lies, its room, the vectors. -/
abbrev Pc := Option Addr × Nat × List Vc
def pNil : Pc := (none, 0, [])
/-- A slice value at A reads, in w, as the lists of vectors L; where it has one it lies below block B, and so do they. -/
def RdP (w : World) (B : Nat) (A : Option Addr) (L : List Pc) : Prop :=
  0 < L.length → ∃ b off, A = some ⟨b, off, none⟩ ∧ b < B ∧ ∀ i, i < L.length → w.cell? ⟨b, off + i, none⟩ = some (.slice (L[i]?.getD pNil).1 (L[i]?.getD pNil).2.2.length (L[i]?.getD pNil).2.1) ∧ RdV w B (L[i]?.getD pNil).1 (L[i]?.getD pNil).2.2
theorem RdP.at_ {w : World} {B : Nat} {A : Option Addr} {L : List Pc} (h : RdP w B A L) {i : Nat} (hi : i < L.length) :
    ∃ b off a c M, A = some ⟨b, off, none⟩ ∧ b < B ∧ w.cell? ⟨b, off + i, none⟩ = some (.slice a (M : List Vc).length c) ∧ RdV w B a M ∧ Hid (L[i]? = some (a, c, M)) := by
  obtain ⟨b, off, hA, hB, hc⟩ := h (by omega)
  refine ⟨b, off, (L[i]?.getD pNil).1, (L[i]?.getD pNil).2.1, (L[i]?.getD pNil).2.2, hA, hB, (hc i hi).1, (hc i hi).2, (by simp [List.getElem?_eq_getElem hi] : L[i]? = some ((L[i]?.getD pNil).1, (L[i]?.getD pNil).2.1, (L[i]?.getD pNil).2.2))⟩
theorem RdP.below {w w' : World} {B : Nat} {A : Option Addr} {L : List Pc} (h : RdP w B A L) (hb : Below B w w') : RdP w' B A L := fun hl => by
  obtain ⟨b, off, hA, hB, hc⟩ := h hl
  exact ⟨b, off, hA, hB, fun i hi => ⟨(hb.cell (p := ⟨b, off + i, none⟩) hB).trans (hc i hi).1, (hc i hi).2.below hb⟩⟩
theorem RdP.more {w : World} {B B' : Nat} {A : Option Addr} {L : List Pc} (h : RdP w B A L) (hB : B ≤ B') : RdP w B' A L := fun hl => by
  obtain ⟨b, off, hA, hb, hc⟩ := h hl
  exact ⟨b, off, hA, by omega, fun i hi => ⟨(hc i hi).1, (hc i hi).2.more hB⟩⟩
/-- The vectors of all lists. -/
def words (L : List Pc) : List (List (List Int)) := L.map fun x => vecs x.2.2
theorem words_len (L : List Pc) : (words L).length = L.length := by simp [words]
theorem words_at {L : List Pc} {i : Nat} {a : Option Addr} {c : Nat} {M : List Vc} (h : L[i]? = some (a, c, M)) : (words L)[i]? = some (vecs M) := by simp [words, h]
theorem words_pAt {L : List Pc} {i : Nat} {a : Option Addr} {c : Nat} {M : List Vc} (h : L[i]? = some (a, c, M)) : pAt (words L) i = vecs M := by unfold pAt; rw [words_at h]; rfl
theorem words_take {L : List Pc} {q : Nat} {a : Option Addr} {c : Nat} {M : List Vc} (h : L[q]? = some (a, c, M)) : (words L).take (q + 1) = (words L).take q ++ [vecs M] := by
  rw [List.take_add_one, words_at h]; rfl
theorem words_snoc (L : List Pc) (x : Pc) : words (L ++ [x]) = words L ++ [vecs x.2.2] := by simp [words]
/-- How much there is in a book. -/
def sizeP (ps : List (List (List Int))) : Nat := ps.length + (ps.map sizeL).sum
theorem sum_mem_le {α : Type} (f : α → Nat) : ∀ {l : List α} {x : α}, x ∈ l → f x ≤ (l.map f).sum
  | a :: r, x, h => by
    simp only [List.map_cons, List.sum_cons]
    rcases List.mem_cons.1 h with h1 | h1
    · subst h1; omega
    · have := sum_mem_le f h1; omega
theorem sizeP_mem {ps : List (List (List Int))} {l : List (List Int)} (h : l ∈ ps) : sizeL l ≤ sizeP ps := by
  have := sum_mem_le sizeL h
  unfold sizeP; omega
theorem sizeL_len (vs : List (List Int)) : vs.length ≤ sizeL vs := by unfold sizeL; omega
theorem sizeL_v {vs : List (List Int)} {v : List Int} (h : v ∈ vs) : v.length ≤ sizeL vs := by have := sizeL_vec h; unfold sizeL; omega
/-- Books of which all hold no more than is gone through. -/
def PSmall (L : List Pc) : Prop := sizeP (words L) ≤ 20000
theorem PSmall.len {L : List Pc} (h : PSmall L) : L.length ≤ 20000 := by unfold PSmall sizeP at h; rw [words_len] at h; omega
theorem words_mem {L : List Pc} {x : Pc} (h : x ∈ L) : vecs x.2.2 ∈ words L := List.mem_map_of_mem h
theorem PSmall.at_ {L : List Pc} (h : PSmall L) {x : Pc} (hx : x ∈ L) : Small x.2.2 := by
  have := sizeP_mem (words_mem hx)
  unfold PSmall at h
  unfold Small; omega
/-- A book's means as an argument. -/
structure PArg (w : World) (A : Option Addr) (L : List Pc) : Prop where
  rd : RdP w w.heap.size A L
  sm : PSmall L
  b8 : B88 (words L)
theorem PArg.below {w w' : World} {A : Option Addr} {L : List Pc} (h : PArg w A L) (hb : Below w.heap.size w w') : PArg w' A L := ⟨(h.rd.below hb).more hb.size, h.sm, h.b8⟩
theorem PArg.at_ {w : World} {A : Option Addr} {L : List Pc} (h : PArg w A L) {i : Nat} (hi : i < L.length) :
    ∃ b off a c M, A = some ⟨b, off, none⟩ ∧ b < w.heap.size ∧ w.cell? ⟨b, off + i, none⟩ = some (.slice a (M : List Vc).length c) ∧ VArg w a M ∧ Hid (L[i]? = some (a, c, M)) := by
  obtain ⟨b, off, a, c, M, h1, h2, h3, h4, h5⟩ := h.rd.at_ hi
  have hm := List.mem_of_getElem? h5.out
  have hs := h.sm.at_ hm
  exact ⟨b, off, a, c, M, h1, h2, h3, ⟨h4, (by have h := hs.len; exact Nat.le_trans (show M.length ≤ 20000 from h) (by decide)), fun v hv => (by have := hs.vec (v := v) hv; omega), h.b8 _ (words_mem hm)⟩, h5⟩
/-- A book that was handed in. -/
structure PGiven (w : World) (A : Option Addr) (L : List Pc) : Prop where
  rd : RdP w w.heap.size A L
  len : L.length ≤ 140737488355328
  each : ∀ x ∈ L, x.2.2.length ≤ 140737488355328 ∧ ∀ v ∈ vecs x.2.2, v.length ≤ 140737488355328
  b8 : B88 (words L)
  room : ∀ x ∈ L, RoomOk x.2.2
theorem PGiven.below {w w' : World} {A : Option Addr} {L : List Pc} (h : PGiven w A L) (hb : Below w.heap.size w w') : PGiven w' A L := ⟨(h.rd.below hb).more hb.size, h.len, h.each, h.b8, h.room⟩
theorem PGiven.arg {w : World} {A : Option Addr} {L : List Pc} (h : PGiven w A L) (s : PSmall L) : PArg w A L := ⟨h.rd, s, h.b8⟩
theorem PGiven.at_ {w : World} {A : Option Addr} {L : List Pc} (h : PGiven w A L) {i : Nat} (hi : i < L.length) :
    ∃ b off a c M, A = some ⟨b, off, none⟩ ∧ b < w.heap.size ∧ w.cell? ⟨b, off + i, none⟩ = some (.slice a (M : List Vc).length c) ∧ Given w a M ∧ RoomOk M ∧ Hid (L[i]? = some (a, c, M)) := by
  obtain ⟨b, off, a, c, M, h1, h2, h3, h4, h5⟩ := h.rd.at_ hi
  have hm := List.mem_of_getElem? h5.out
  have he := h.each _ hm
  exact ⟨b, off, a, c, M, h1, h2, h3, ⟨h4, he.1, he.2, h.b8 _ (words_mem hm)⟩, h.room _ hm, h5⟩
/-- The cells of a row of lists of vectors. -/
def cellsP (L : List Pc) : List Value := L.map fun x => .slice x.1 x.2.2.length x.2.1
theorem cellsP_len (L : List Pc) : (cellsP L).length = L.length := by simp [cellsP]
theorem cellsP_at {L : List Pc} {i : Nat} {a : Option Addr} {c : Nat} {M : List Vc} (h : L[i]? = some (a, c, M)) : (cellsP L)[i]? = some (.slice a M.length c) := by simp [cellsP, h]
theorem cellsP_snoc (L : List Pc) (x : Pc) : cellsP L ++ [.slice x.1 x.2.2.length x.2.1] = cellsP (L ++ [x]) := by simp [cellsP]
/-- A list of lists of vectors, all in memory of the call's own. -/
structure OwnP (w : World) (base : Nat) (A : Option Addr) (c : Nat) (L : List Pc) : Prop where
  row : w.ownsRow base 70 1 (.slice A L.length c) L.length (cellsP L)
  each : ∀ x ∈ L, OwnV w base x.1 x.2.1 x.2.2
theorem OwnP.rd {w : World} {base : Nat} {A : Option Addr} {c : Nat} {L : List Pc} (h : OwnP w base A c L) : RdP w w.heap.size A L := fun hl => by
  obtain ⟨g, rfl, _⟩ := own_some h.row hl
  refine ⟨g, 0, rfl, (h.row.lt g rfl).2, fun i hi => ⟨?_, ?_⟩⟩
  · rw [Nat.zero_add, h.row.cellAt i (by omega)]
    simp [cellsP, List.getElem?_eq_getElem hi]
  · have := (h.each L[i] (List.getElem_mem hi)).rd
    simpa [List.getElem?_eq_getElem hi] using this
theorem OwnP.below {w w' : World} {base : Nat} {A : Option Addr} {c : Nat} {L : List Pc} (h : OwnP w base A c L) (hb : Below w.heap.size w w') : OwnP w' base A c L := ⟨own_below h.row hb, fun x hx => (h.each x hx).below hb⟩
theorem OwnP.base {w : World} {b b' : Nat} {A : Option Addr} {c : Nat} {L : List Pc} (h : OwnP w b A c L) (hb : b' ≤ b) : OwnP w b' A c L := ⟨own_base h.row hb, fun x hx => (h.each x hx).base hb⟩
theorem OwnP.nil (w : World) (base : Nat) : OwnP w base none 0 [] := ⟨own_nil_row _ _ _, fun x hx => by simp at hx⟩
def pblk (x : Pc) : Option Nat := (Value.slice x.1 x.2.2.length x.2.1).ownBlock
/-- The lists lie apart, and so do all their vectors. -/
structure ApartP (L : List Pc) : Prop where
  rows : L.Pairwise fun x y => pblk x = none ∨ pblk x ≠ pblk y
  vecs : (L.flatMap fun x => x.2.2).Pairwise fun x y => (Value.slice x.1 x.2.2.length x.2.1).ownBlock = none ∨ (Value.slice x.1 x.2.2.length x.2.1).ownBlock ≠ (Value.slice y.1 y.2.2.length y.2.1).ownBlock
theorem ApartP.nil : ApartP [] := ⟨List.Pairwise.nil, List.Pairwise.nil⟩
end Go.Proofs.Ythbimjkcpmffcaa
