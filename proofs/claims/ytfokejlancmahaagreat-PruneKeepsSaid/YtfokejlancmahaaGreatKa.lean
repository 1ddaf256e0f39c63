/- Graphs as the walks speak of them: nodes with their vectors and neighbours. -/
import Derived.Test.YtfokejlancmahaaGreatVf
namespace Go.Proofs.YtfokejlancmahaaGreat
open Go.RowKit
set_option linter.unusedVariables false
/-- A node as it lies in memory: its number, its vector, its neighbours. -/
abbrev Gn := Int × Vc × Vc
def gNil : Gn := (0, vNil, vNil)
/-- A slice value at A reads, in w, as the nodes L; what it has lies below block B. -/
def RdG (w : World) (B : Nat) (A : Option Addr) (L : List Gn) : Prop :=
  0 < L.length → ∃ b off, A = some ⟨b, off, none⟩ ∧ b < B ∧ ∀ i, i < L.length →
    w.cell? ⟨b, off + i * 3, none⟩ = some (.int .u64 (L[i]?.getD gNil).1) ∧
    w.cell? ⟨b, off + i * 3 + 1, none⟩ = some (.slice (L[i]?.getD gNil).2.1.1 (L[i]?.getD gNil).2.1.2.2.length (L[i]?.getD gNil).2.1.2.1) ∧
    w.cell? ⟨b, off + i * 3 + 2, none⟩ = some (.slice (L[i]?.getD gNil).2.2.1 (L[i]?.getD gNil).2.2.2.2.length (L[i]?.getD gNil).2.2.2.1) ∧
    Rd .i8 w B (L[i]?.getD gNil).2.1.1 (L[i]?.getD gNil).2.1.2.2 ∧ Rd .i64 w B (L[i]?.getD gNil).2.2.1 (L[i]?.getD gNil).2.2.2.2
theorem RdG.at_ {w : World} {B : Nat} {A : Option Addr} {L : List Gn} (h : RdG w B A L) {i : Nat} (hi : i < L.length) :
    ∃ b off id a1 c1 v a2 c2 o, A = some ⟨b, off, none⟩ ∧ b < B ∧ w.cell? ⟨b, off + i * 3, none⟩ = some (.int .u64 id) ∧ w.cell? ⟨b, off + i * 3 + 1, none⟩ = some (.slice a1 v.length c1) ∧ w.cell? ⟨b, off + i * 3 + 2, none⟩ = some (.slice a2 o.length c2) ∧
      Rd .i8 w B a1 v ∧ Rd .i64 w B a2 o ∧ Hid (L[i]? = some (id, (a1, c1, v), (a2, c2, o))) := by
  obtain ⟨b, off, hA, hB, hc⟩ := h (by omega)
  obtain ⟨h1, h2, h3, h4, h5⟩ := hc i hi
  exact ⟨b, off, (L[i]?.getD gNil).1, (L[i]?.getD gNil).2.1.1, (L[i]?.getD gNil).2.1.2.1, (L[i]?.getD gNil).2.1.2.2, (L[i]?.getD gNil).2.2.1, (L[i]?.getD gNil).2.2.2.1, (L[i]?.getD gNil).2.2.2.2, hA, hB, h1, h2, h3, h4, h5, (by simp [List.getElem?_eq_getElem hi] : L[i]? = some ((L[i]?.getD gNil).1, ((L[i]?.getD gNil).2.1.1, (L[i]?.getD gNil).2.1.2.1, (L[i]?.getD gNil).2.1.2.2), ((L[i]?.getD gNil).2.2.1, (L[i]?.getD gNil).2.2.2.1, (L[i]?.getD gNil).2.2.2.2)))⟩
theorem RdG.below {w w' : World} {B : Nat} {A : Option Addr} {L : List Gn} (h : RdG w B A L) (hb : Below B w w') : RdG w' B A L := fun hl => by
  obtain ⟨b, off, hA, hB, hc⟩ := h hl
  refine ⟨b, off, hA, hB, fun i hi => ?_⟩
  obtain ⟨h1, h2, h3, h4, h5⟩ := hc i hi
  exact ⟨(hb.cell (p := ⟨b, off + i * 3, none⟩) hB).trans h1, (hb.cell (p := ⟨b, off + i * 3 + 1, none⟩) hB).trans h2, (hb.cell (p := ⟨b, off + i * 3 + 2, none⟩) hB).trans h3, h4.below hb, h5.below hb⟩
theorem RdG.more {w : World} {B B' : Nat} {A : Option Addr} {L : List Gn} (h : RdG w B A L) (hB : B ≤ B') : RdG w B' A L := fun hl => by
  obtain ⟨b, off, hA, hb, hc⟩ := h hl
  refine ⟨b, off, hA, by omega, fun i hi => ?_⟩
  obtain ⟨h1, h2, h3, h4, h5⟩ := hc i hi
  exact ⟨h1, h2, h3, h4.more hB, h5.more hB⟩
/-- The node itself: its number, its vector, the places of its neighbours. -/
abbrev Pn := Int × List Int × List Int
def pn (x : Gn) : Pn := (x.1, x.2.1.2.2, x.2.2.2.2)
def pns (L : List Gn) : List Pn := L.map pn
theorem pns_len (L : List Gn) : (pns L).length = L.length := by simp [pns]
theorem pns_at {L : List Gn} {i : Nat} {id : Int} {a1 a2 : Option Addr} {c1 c2 : Nat} {v o : List Int} (h : L[i]? = some (id, (a1, c1, v), (a2, c2, o))) : (pns L)[i]? = some (id, v, o) := by simp [pns, pn, h]
theorem pns_snoc (L : List Gn) (x : Gn) : pns (L ++ [x]) = pns L ++ [pn x] := by simp [pns]
theorem pns_take {L : List Gn} {q : Nat} {id : Int} {a1 a2 : Option Addr} {c1 c2 : Nat} {v o : List Int} (h : L[q]? = some (id, (a1, c1, v), (a2, c2, o))) : (pns L).take (q + 1) = (pns L).take q ++ [(id, v, o)] := by
  rw [List.take_add_one, pns_at h]; rfl
theorem pns_mem {L : List Gn} {x : Gn} (h : x ∈ L) : pn x ∈ pns L := List.mem_map_of_mem h
/-- How much a graph has in it. -/
def szN (x : Pn) : Nat := x.2.1.length + x.2.2.length
def szG (G : List Pn) : Nat := G.length + (G.map szN).sum
theorem szG_take_le (G : List Pn) (k : Nat) : ((G.take k).map szN).sum ≤ (G.map szN).sum := by
  conv => rhs; rw [← List.take_append_drop k G, List.map_append, List.sum_append]
  exact Nat.le_add_right _ _
theorem sum_le_of_mem {α : Type} (f : α → Nat) : ∀ {l : List α} {x : α}, x ∈ l → f x ≤ (l.map f).sum
  | a :: l, x, h => by
    rw [List.map_cons, List.sum_cons]
    rcases List.mem_cons.1 h with rfl | h
    · omega
    · have := sum_le_of_mem f h; omega
/-- What is gone through: not too much, and few nodes or too many for a graph. -/
def GSmall (G : List Pn) : Prop := szG G ≤ 20000 ∧ (G.length ≤ 600 ∨ 2048 < G.length)
theorem GSmall.len {G : List Pn} (h : GSmall G) : G.length ≤ 20000 := by have := h.1; unfold szG at this; omega
theorem GSmall.at_ {G : List Pn} (h : GSmall G) {x : Pn} (hx : x ∈ G) : x.2.1.length ≤ 20000 ∧ x.2.2.length ≤ 20000 := by
  have h1 := h.1
  have h2 := sum_le_of_mem szN hx
  unfold szG at h1
  have h3 : szN x = x.2.1.length + x.2.2.length := rfl
  omega
/-- A node's numbers are such as a machine holds. -/
def PnOk (x : Pn) : Prop := (0 ≤ x.1 ∧ x.1 < 18446744073709551616) ∧ (∀ n ∈ x.2.1, -128 ≤ n ∧ n ≤ 127) ∧ ∀ n ∈ x.2.2, -9223372036854775808 ≤ n ∧ n ≤ 9223372036854775807
/-- A graph's nodes as they were handed in. -/
structure GGiven (w : World) (A : Option Addr) (L : List Gn) : Prop where
  rd : RdG w w.heap.size A L
  len : L.length ≤ 140737488355328
  each : ∀ x ∈ pns L, x.2.1.length ≤ 140737488355328 ∧ x.2.2.length ≤ 140737488355328
  ok : ∀ x ∈ pns L, PnOk x
  room : ∀ x ∈ L, (x.2.1.2.2.length ≤ x.2.1.2.1 ∧ x.2.1.2.1 ≤ 9223372036854775807) ∧ x.2.2.2.2.length ≤ x.2.2.2.1 ∧ x.2.2.2.1 ≤ 9223372036854775807
theorem GGiven.below {w w' : World} {A : Option Addr} {L : List Gn} (h : GGiven w A L) (hb : Below w.heap.size w w') : GGiven w' A L := ⟨(h.rd.below hb).more hb.size, h.len, h.each, h.ok, h.room⟩
/-- A graph's nodes as an argument. -/
structure GArg (w : World) (A : Option Addr) (L : List Gn) : Prop where
  rd : RdG w w.heap.size A L
  sm : GSmall (pns L)
  ok : ∀ x ∈ pns L, PnOk x
theorem GArg.below {w w' : World} {A : Option Addr} {L : List Gn} (h : GArg w A L) (hb : Below w.heap.size w w') : GArg w' A L := ⟨(h.rd.below hb).more hb.size, h.sm, h.ok⟩
theorem GGiven.arg {w : World} {A : Option Addr} {L : List Gn} (h : GGiven w A L) (s : GSmall (pns L)) : GArg w A L := ⟨h.rd, s, h.ok⟩
end Go.Proofs.YtfokejlancmahaaGreat
