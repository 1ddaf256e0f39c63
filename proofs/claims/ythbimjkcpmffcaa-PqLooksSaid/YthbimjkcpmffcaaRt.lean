/- Words on lists of lists of int64 (tables). -/
import Derived.Test.YthbimjkcpmffcaaNa
import Derived.Test.YthbimjkcpmffcaaNj
import Derived.Test.YthbimjkcpmffcaaNi
import Derived.Test.YthbimjkcpmffcaaRl
namespace Go.Proofs.Ythbimjkcpmffcaa
open Go.RowKit
set_option linter.unusedVariables false
/-- A slice value at A reads, in w, as the vectors L; where it has one it lies below block B, and so do they. -/
def RdT (w : World) (B : Nat) (A : Option Addr) (L : List Vc) : Prop :=
  0 < L.length → ∃ b off, A = some ⟨b, off, none⟩ ∧ b < B ∧ ∀ i, i < L.length → w.cell? ⟨b, off + i, none⟩ = some (.slice (L[i]?.getD vNil).1 (L[i]?.getD vNil).2.2.length (L[i]?.getD vNil).2.1) ∧ Rd .i64 w B (L[i]?.getD vNil).1 (L[i]?.getD vNil).2.2
theorem RdT.at_ {w : World} {B : Nat} {A : Option Addr} {L : List Vc} (h : RdT w B A L) {i : Nat} (hi : i < L.length) :
    ∃ b off a c v, A = some ⟨b, off, none⟩ ∧ b < B ∧ w.cell? ⟨b, off + i, none⟩ = some (.slice a v.length c) ∧ Rd .i64 w B a v ∧ Hid (L[i]? = some (a, c, v)) := by
  obtain ⟨b, off, hA, hB, hc⟩ := h (by omega)
  refine ⟨b, off, (L[i]?.getD vNil).1, (L[i]?.getD vNil).2.1, (L[i]?.getD vNil).2.2, hA, hB, (hc i hi).1, (hc i hi).2, (by simp [List.getElem?_eq_getElem hi] : L[i]? = some ((L[i]?.getD vNil).1, (L[i]?.getD vNil).2.1, (L[i]?.getD vNil).2.2))⟩
theorem RdT.below {w w' : World} {B : Nat} {A : Option Addr} {L : List Vc} (h : RdT w B A L) (hb : Below B w w') : RdT w' B A L := fun hl => by
  obtain ⟨b, off, hA, hB, hc⟩ := h hl
  exact ⟨b, off, hA, hB, fun i hi => ⟨(hb.cell (p := ⟨b, off + i, none⟩) hB).trans (hc i hi).1, (hc i hi).2.below hb⟩⟩
theorem RdT.more {w : World} {B B' : Nat} {A : Option Addr} {L : List Vc} (h : RdT w B A L) (hB : B ≤ B') : RdT w B' A L := fun hl => by
  obtain ⟨b, off, hA, hb, hc⟩ := h hl
  exact ⟨b, off, hA, by omega, fun i hi => ⟨(hc i hi).1, (hc i hi).2.more hB⟩⟩
/-- A vector in memory of the call's own. -/
def TOwn (w : World) (base : Nat) (x : Vc) : Prop := w.ownsRow base 2 1 (.slice x.1 x.2.2.length x.2.1) x.2.2.length (x.2.2.map (Value.int .i64))
/-- A list of vectors, all in memory of the call's own. -/
def OwnT (w : World) (base : Nat) (A : Option Addr) (c : Nat) (L : List Vc) : Prop := w.ownsRow base 57 1 (.slice A L.length c) L.length (cellsV L) ∧ ∀ x ∈ L, TOwn w base x
theorem town_rd {w : World} {base : Nat} {x : Vc} (h : TOwn w base x) : Rd .i64 w w.heap.size x.1 x.2.2 := by
  obtain ⟨A, c, hv, _, _, hrd, _⟩ := own_slice h
  injection hv with q1 q2 q3
  rw [q1]; exact hrd
/-- A row of vectors reads as such, wherever they lie. -/
theorem row_rdT {w : World} {base : Nat} {A : Option Addr} {c : Nat} {L : List Vc} (h : w.ownsRow base 57 1 (.slice A L.length c) L.length (cellsV L)) (hr : ∀ x ∈ L, Rd .i64 w w.heap.size x.1 x.2.2) : RdT w w.heap.size A L := fun hl => by
  obtain ⟨g, rfl, _⟩ := own_some h hl
  refine ⟨g, 0, rfl, (h.lt g rfl).2, fun i hi => ⟨?_, ?_⟩⟩
  · rw [Nat.zero_add, h.cellAt i (by omega)]
    simp [cellsV, List.getElem?_eq_getElem hi]
  · have := hr L[i] (List.getElem_mem hi)
    simpa [List.getElem?_eq_getElem hi] using this
theorem OwnT.rd {w : World} {base : Nat} {A : Option Addr} {c : Nat} {L : List Vc} (h : OwnT w base A c L) : RdT w w.heap.size A L := row_rdT h.1 (fun x hx => town_rd (h.2 x hx))
theorem OwnT.below {w w' : World} {base : Nat} {A : Option Addr} {c : Nat} {L : List Vc} (h : OwnT w base A c L) (hb : Below w.heap.size w w') : OwnT w' base A c L := ⟨own_below h.1 hb, fun x hx => own_below (h.2 x hx) hb⟩
theorem OwnT.nil (w : World) (base : Nat) : OwnT w base none 0 [] := ⟨own_nil_row _ _ _, fun x hx => by simp at hx⟩
theorem TOwn.grown {w w' : World} {base b2 n : Nat} {x : Vc} {v : Value} {xs : List Value} (h : TOwn w base x) (ho : w.ownsRow b2 57 1 v n xs) (hg : w.grownBy w' v.ownBlock) : TOwn w' base x := by
  refine h.kept hg ?_
  rcases h.2 with ⟨hv, _⟩ | ⟨g, cap, cur, hv, _, hc, _⟩
  · rw [hv]; exact .inl rfl
  · rw [hv]
    rcases ho.2 with ⟨rfl, _⟩ | ⟨g', cap', cur', rfl, _, hc', _⟩
    · exact .inr (by simp [Value.ownBlock])
    · refine .inr fun e => ?_
      have e2 : g = g' := by simpa [Value.ownBlock] using e
      subst e2
      rw [hc] at hc'
      simp at hc'
theorem OwnT.snoc {W w3 : World} {base : Nat} {A : Option Addr} {c : Nat} {L : List Vc} {x : Vc} {v : Value} {o : Obj} (h : OwnT W base A c L) (hx : TOwn W base x) (hn : w3.ownsRow base 57 1 v (L.length + 1) (cellsV L ++ [.slice x.1 x.2.2.length x.2.1])) (hg : (W.alloc o).grownBy w3 (Value.slice A L.length c).ownBlock) :
    ∃ A2 c2, v = .slice A2 (L ++ [x]).length c2 ∧ OwnT w3 base A2 c2 (L ++ [x]) := by
  obtain ⟨A2, m, c2, rfl⟩ := own_form hn
  obtain rfl := own_len hn
  rw [cellsV_snoc] at hn
  refine ⟨A2, c2, by simp, ⟨by simpa using hn, fun y hy => ?_⟩⟩
  rcases List.mem_append.1 hy with h1 | h1
  · exact TOwn.grown (x := y) ((h.2 y h1).alloc o) (h.1.alloc o) hg
  · rw [List.mem_singleton] at h1
    subst h1
    exact TOwn.grown (x := y) (hx.alloc o) (h.1.alloc o) hg
theorem OwnT.base {w : World} {b b' : Nat} {A : Option Addr} {c : Nat} {L : List Vc} (h : OwnT w b A c L) (hb : b' ≤ b) : OwnT w b' A c L := ⟨own_base h.1 hb, fun x hx => own_base (h.2 x hx) hb⟩
theorem Try.info57v : (Try.prog.info? 57).map (fun i => (i.zero, i.size, i.bytes)) = some (some (.slice none 0 0), 1, 24) := by kernel_rfl
end Go.Proofs.Ythbimjkcpmffcaa
