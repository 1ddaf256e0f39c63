/- Words on lists of vectors of the call's own. -/
import Derived.Test.YthbimjkcpmffcaaGreatNf
import Derived.Test.YthbimjkcpmffcaaGreatOw
namespace Go.Proofs.YthbimjkcpmffcaaGreat
open Go.RowKit
set_option linter.unusedVariables false
/-- A vector in memory of the call's own. -/
def VOwn (w : World) (base : Nat) (x : Vc) : Prop := w.ownsRow base 74 1 (.slice x.1 x.2.2.length x.2.1) x.2.2.length (x.2.2.map (Value.int .i8))
/-- A list of vectors, all in memory of the call's own. -/
def OwnV (w : World) (base : Nat) (A : Option Addr) (c : Nat) (L : List Vc) : Prop := w.ownsRow base 25 1 (.slice A L.length c) L.length (cellsV L) ∧ ∀ x ∈ L, VOwn w base x
theorem vown_rd {w : World} {base : Nat} {x : Vc} (h : VOwn w base x) : Rd .i8 w w.heap.size x.1 x.2.2 := by
  obtain ⟨A, c, hv, _, _, hrd, _⟩ := own_slice h
  injection hv with q1 q2 q3
  rw [q1]; exact hrd
/-- A row of vectors reads as such, wherever they lie. -/
theorem row_rdV {w : World} {base : Nat} {A : Option Addr} {c : Nat} {L : List Vc} (h : w.ownsRow base 25 1 (.slice A L.length c) L.length (cellsV L)) (hr : ∀ x ∈ L, Rd .i8 w w.heap.size x.1 x.2.2) : RdV w w.heap.size A L := fun hl => by
  obtain ⟨g, rfl, _⟩ := own_some h hl
  refine ⟨g, 0, rfl, (h.lt g rfl).2, fun i hi => ⟨?_, ?_⟩⟩
  · rw [Nat.zero_add, h.cellAt i (by omega)]
    simp [cellsV, List.getElem?_eq_getElem hi]
  · have := hr L[i] (List.getElem_mem hi)
    simpa [List.getElem?_eq_getElem hi] using this
theorem OwnV.rd {w : World} {base : Nat} {A : Option Addr} {c : Nat} {L : List Vc} (h : OwnV w base A c L) : RdV w w.heap.size A L := row_rdV h.1 (fun x hx => vown_rd (h.2 x hx))
theorem OwnV.below {w w' : World} {base : Nat} {A : Option Addr} {c : Nat} {L : List Vc} (h : OwnV w base A c L) (hb : Below w.heap.size w w') : OwnV w' base A c L := ⟨own_below h.1 hb, fun x hx => own_below (h.2 x hx) hb⟩
theorem OwnV.nil (w : World) (base : Nat) : OwnV w base none 0 [] := ⟨own_nil_row _ _ _, fun x hx => by simp at hx⟩
theorem VOwn.grown {w w' : World} {base b2 n : Nat} {x : Vc} {v : Value} {xs : List Value} (h : VOwn w base x) (ho : w.ownsRow b2 25 1 v n xs) (hg : w.grownBy w' v.ownBlock) : VOwn w' base x := by
  refine h.kept hg ?_
  rcases h.2 with ⟨hv, _⟩ | ⟨g, cap, cur, hv, _, hc, _⟩
  · rw [hv]; exact .inl rfl
  · rw [hv]
    rcases ho.2 with ⟨rfl, _⟩ | ⟨g', cap', cur', rfl, _, hc', _⟩
    · exact .inr (by simp [Value.ownBlock])
    · refine .inr fun e => ?_
      have e2 : g = g' := by simpa [Value.ownBlock] using e
      subst e2
      rw [hc] at hc'
      simp at hc'
theorem OwnV.snoc {W w3 : World} {base : Nat} {A : Option Addr} {c : Nat} {L : List Vc} {x : Vc} {v : Value} {o : Obj} (h : OwnV W base A c L) (hx : VOwn W base x) (hn : w3.ownsRow base 25 1 v (L.length + 1) (cellsV L ++ [.slice x.1 x.2.2.length x.2.1])) (hg : (W.alloc o).grownBy w3 (Value.slice A L.length c).ownBlock) :
    ∃ A2 c2, v = .slice A2 (L ++ [x]).length c2 ∧ OwnV w3 base A2 c2 (L ++ [x]) := by
  obtain ⟨A2, m, c2, rfl⟩ := own_form hn
  obtain rfl := own_len hn
  rw [cellsV_snoc] at hn
  refine ⟨A2, c2, by simp, ⟨by simpa using hn, fun y hy => ?_⟩⟩
  rcases List.mem_append.1 hy with h1 | h1
  · exact VOwn.grown (x := y) ((h.2 y h1).alloc o) (h.1.alloc o) hg
  · rw [List.mem_singleton] at h1
    subst h1
    exact VOwn.grown (x := y) (hx.alloc o) (h.1.alloc o) hg
theorem group_snoc (ms vs : List (List Int)) (v : List Int) (k : Nat) : groupL ms (vs ++ [v]) k = if nearestI ms v = k then groupL ms vs k ++ [v] else groupL ms vs k := by
  unfold groupL
  rw [List.filter_append]
  by_cases h : nearestI ms v = k <;> simp [h]
theorem take_vecs {L : List Vc} {q : Nat} {a : Option Addr} {c : Nat} {v : List Int} (h : L[q]? = some (a, c, v)) : (vecs L).take (q + 1) = (vecs L).take q ++ [v] := by
  rw [List.take_add_one, vecs_at h]; rfl
theorem Tryz.info25v : (Tryz.prog.info? 25).map (fun i => (i.zero, i.size, i.bytes)) = some (some (.slice none 0 0), 1, 24) := by kernel_rfl
theorem OwnV.base {w : World} {b b' : Nat} {A : Option Addr} {c : Nat} {L : List Vc} (h : OwnV w b A c L) (hb : b' ≤ b) : OwnV w b' A c L := ⟨own_base h.1 hb, fun x hx => own_base (h.2 x hx) hb⟩
end Go.Proofs.YthbimjkcpmffcaaGreat
