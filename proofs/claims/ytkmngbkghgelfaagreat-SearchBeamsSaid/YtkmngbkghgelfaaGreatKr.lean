/- A graph without some of its nodes: what it is. -/
import Derived.Test.YtkmngbkghgelfaaGreatKq
import Derived.Test.YtkmngbkghgelfaaGreatKj
namespace Go.Proofs.YtkmngbkghgelfaaGreat
open Go.RowKit
set_option linter.unusedVariables false
/-- Is a place gone? -/
def goneAt (P : List Int) (i : Nat) : Bool := decide ((i : Int) ∈ P)
def goneL (n : Nat) (P : List Int) : List Bool := (List.range n).map (goneAt P)
def bAt (l : List Bool) (i : Nat) : Bool := l[i]?.getD false
theorem goneL_len (n : Nat) (P : List Int) : (goneL n P).length = n := by simp [goneL]
theorem goneL_at {n : Nat} {P : List Int} {i : Nat} (h : i < n) : bAt (goneL n P) i = goneAt P i := by simp [bAt, goneL, h]
theorem goneL_nil (n : Nat) : goneL n [] = List.replicate n false := by
  apply List.ext_getElem?
  intro i
  by_cases h : i < n <;> simp [goneL, goneAt, h]
theorem goneL_set {n : Nat} {P : List Int} {p : Nat} (h : p < n) : (goneL n P).set p true = goneL n (P ++ [(p : Int)]) := by
  apply List.ext_getElem?
  intro i
  by_cases hp : p = i
  · subst hp; simp [goneL, goneAt, h]
  · rw [List.getElem?_set_ne hp]
    by_cases h1 : i < n
    · have : ¬ ((i : Int) = (p : Int)) := by omega
      simp [goneL, goneAt, h1, this]
    · simp [goneL, h1]
def cellsB (l : List Bool) : Array Value := (l.map Value.bool).toArray
theorem cellsB_made (n : Nat) : madeCells #[Value.bool false] n = cellsB (List.replicate n false) := by
  apply Array.ext'
  unfold madeCells cellsB
  apply List.ext_getElem
  · simp
  · intro i h1 h2
    simp [Nat.mod_one]
theorem cellsB_set (l : List Bool) (i : Nat) (v : Bool) : (cellsB l).setIfInBounds i (.bool v) = cellsB (l.set i v) := by
  unfold cellsB
  apply Array.ext'
  simp [List.map_set]
theorem cellsB_at {l : List Bool} {i : Nat} (h : i < l.length) : (cellsB l)[i]? = some (.bool (bAt l i)) := by
  unfold cellsB bAt
  simp [List.getElem?_eq_getElem h]
/-- The places that are to go are places, and unlike. -/
def OkTo (n : Nat) (P : List Int) : Prop := (∀ p ∈ P, 0 ≤ p ∧ p < (n : Int)) ∧ P.Nodup
instance (n : Nat) (P : List Int) : Decidable (OkTo n P) := by unfold OkTo; infer_instance
theorem OkTo.nil (n : Nat) : OkTo n [] := ⟨fun p h => by simp at h, List.nodup_nil⟩
theorem OkTo.snoc {n : Nat} {P : List Int} {p : Nat} (h : OkTo n P) (hp : p < n) (hg : goneAt P p = false) : OkTo n (P ++ [(p : Int)]) := by
  refine ⟨fun q hq => ?_, ?_⟩
  · rcases List.mem_append.1 hq with h1 | h1
    · exact h.1 q h1
    · rw [List.mem_singleton] at h1; subst h1; exact ⟨by omega, by omega⟩
  · refine List.nodup_append.2 ⟨h.2, by simp, fun a ha b hb => ?_⟩
    rw [List.mem_singleton] at hb
    subst hb
    intro e
    subst e
    simp [goneAt] at hg
    exact hg ha
theorem OkTo.take {n : Nat} {P : List Int} (h : OkTo n P) (k : Nat) : OkTo n (P.take k) := ⟨fun p hp => h.1 p (List.mem_of_mem_take hp), h.2.sublist (List.take_sublist k P)⟩
theorem okTo_range {n : Nat} {P : List Int} {k : Nat} {p : Int} (hp : P[k]? = some p) (h : ¬ (0 ≤ p ∧ p < (n : Int))) : ¬ OkTo n P := fun q => h (q.1 p (List.mem_of_getElem? hp))
theorem okTo_twice {n : Nat} {P : List Int} {k : Nat} {p : Nat} (hp : P[k]? = some (p : Int)) (h : goneAt (P.take k) p = true) : ¬ OkTo n P := fun q => by
  have hk : k < P.length := by rcases Nat.lt_or_ge k P.length with h1 | h1; exact h1; rw [List.getElem?_eq_none h1] at hp; cases hp
  have h1 := (q.take (k + 1)).2
  rw [List.take_add_one, hp] at h1
  have h2 := (List.nodup_append.1 h1).2.2 (p : Int) (by simpa [goneAt] using h) (p : Int) (by simp)
  exact h2 rfl
/-- Where a place comes to. -/
def toN (P : List Int) (i : Nat) : Nat := ((List.range i).filter fun j => !goneAt P j).length
theorem toN_zero (P : List Int) : toN P 0 = 0 := rfl
theorem toN_yes {P : List Int} {i : Nat} (h : goneAt P i = true) : toN P (i + 1) = toN P i := by
  unfold toN; rw [List.range_succ, List.filter_append]; simp [h]
theorem toN_no {P : List Int} {i : Nat} (h : goneAt P i = false) : toN P (i + 1) = toN P i + 1 := by
  unfold toN; rw [List.range_succ, List.filter_append]; simp [h]
theorem toN_le (P : List Int) (i : Nat) : toN P i ≤ i := by
  unfold toN
  have := List.length_filter_le (fun j => !goneAt P j) (List.range i)
  simpa using this
def toK (n : Nat) (P : List Int) (k : Nat) : List Int := (List.range k).map (fun i => ((toN P i : Nat) : Int)) ++ List.replicate (n - k) 0
theorem toK_zero (n : Nat) (P : List Int) : toK n P 0 = List.replicate n 0 := by simp [toK]
theorem toK_len {n : Nat} {P : List Int} {k : Nat} (h : k ≤ n) : (toK n P k).length = n := by simp [toK]; omega
theorem toK_set {n : Nat} {P : List Int} {k : Nat} (h : k < n) : (toK n P k).set k ((toN P k : Nat) : Int) = toK n P (k + 1) := by
  unfold toK
  rw [List.set_append_right _ _ (by simp), List.length_map, List.length_range, Nat.sub_self]
  obtain ⟨m, hm⟩ : ∃ m, n - k = m + 1 := ⟨n - k - 1, by omega⟩
  rw [hm, show n - (k + 1) = m by omega, List.replicate_succ, List.set_cons_zero, List.range_succ]
  simp
theorem toK_at {n : Nat} {P : List Int} {i : Nat} (h : i < n) : hAt (toK n P n) i = ((toN P i : Nat) : Int) := by
  unfold hAt toK
  rw [List.getElem?_append_left (by simpa using h)]
  simp [h]
/-- The neighbours that are left, and where they come to. -/
def keepO (P : List Int) (o : List Int) : List Int := (o.filter fun p => !goneAt P p.toNat).map fun p => ((toN P p.toNat : Nat) : Int)
theorem keepO_yes {P o : List Int} {j : Nat} {p : Nat} (hp : o[j]? = some (p : Int)) (h : goneAt P p = true) : keepO P (o.take (j + 1)) = keepO P (o.take j) := by
  unfold keepO; rw [List.take_add_one, hp, List.filter_append]; simp [h]
theorem keepO_no {P o : List Int} {j : Nat} {p : Nat} (hp : o[j]? = some (p : Int)) (h : goneAt P p = false) : keepO P (o.take (j + 1)) = keepO P (o.take j) ++ [((toN P p : Nat) : Int)] := by
  unfold keepO; rw [List.take_add_one, hp, List.filter_append, List.map_append]; simp [h]
theorem keepO_len (P o : List Int) : (keepO P o).length ≤ o.length := by
  unfold keepO; rw [List.length_map]; exact List.length_filter_le _ _
def dropNode (P : List Int) (x : Pn) : Pn := (x.1, x.2.1, keepO P x.2.2)
noncomputable def dropN (G : List Pn) (P : List Int) (k : Nat) : List Pn := ((List.range k).filter fun i => !goneAt P i).map fun i => dropNode P (nAt G i)
theorem dropN_zero (G : List Pn) (P : List Int) : dropN G P 0 = [] := rfl
theorem dropN_yes {G : List Pn} {P : List Int} {k : Nat} (h : goneAt P k = true) : dropN G P (k + 1) = dropN G P k := by
  unfold dropN; rw [List.range_succ, List.filter_append, List.map_append]; simp [h]
theorem dropN_no {G : List Pn} {P : List Int} {k : Nat} (h : goneAt P k = false) : dropN G P (k + 1) = dropN G P k ++ [dropNode P (nAt G k)] := by
  unfold dropN; rw [List.range_succ, List.filter_append, List.map_append]; simp [h]
theorem dropN_len (G : List Pn) (P : List Int) (k : Nat) : (dropN G P k).length = toN P k := by unfold dropN toN; simp
/-- May the places be dropped? -/
def dropB (G : List Pn) (s : Int) (P : List Int) : Bool := holdsB G s && decide (OkTo G.length P)
noncomputable def dropA (G : List Pn) (s : Int) (P : List Int) : List Pn := if dropB G s P then dropN G P G.length else []
noncomputable def dropS (G : List Pn) (s : Int) (P : List Int) : Int := if dropB G s P && decide (0 < G.length) && !goneAt P s.toNat then ((toN P s.toNat : Nat) : Int) else 0
/-- A graph's nodes of the call's own. -/
structure OwnG (w : World) (base : Nat) (A : Option Addr) (c : Nat) (L : List Gn) : Prop where
  row : w.ownsRow base 87 3 (.slice A L.length c) L.length (flatG L)
  vec : ∀ x ∈ L, w.ownsRow base 64 1 (.slice x.2.1.1 x.2.1.2.2.length x.2.1.2.1) x.2.1.2.2.length (x.2.1.2.2.map (Value.int .i8))
  out : ∀ x ∈ L, w.ownsRow base 3 1 (.slice x.2.2.1 x.2.2.2.2.length x.2.2.2.1) x.2.2.2.2.length (x.2.2.2.2.map (Value.int .i64))
  av : L.Pairwise fun x y => vbG x.2.1 = none ∨ vbG x.2.1 ≠ vbG y.2.1
  ao : L.Pairwise fun x y => vbG x.2.2 = none ∨ vbG x.2.2 ≠ vbG y.2.2
theorem OwnG.nil (w : World) (base : Nat) : OwnG w base none 0 [] := ⟨⟨rfl, .inl ⟨rfl, rfl⟩⟩, fun x h => by simp at h, fun x h => by simp at h, List.Pairwise.nil, List.Pairwise.nil⟩
theorem OwnG.below {w w' : World} {base : Nat} {A : Option Addr} {c : Nat} {L : List Gn} (h : OwnG w base A c L) (hb : Below w.heap.size w w') : OwnG w' base A c L :=
  ⟨own_below h.row hb, fun x hx => own_below (h.vec x hx) hb, fun x hx => own_below (h.out x hx) hb, h.av, h.ao⟩
theorem OwnG.base {w : World} {b b' : Nat} {A : Option Addr} {c : Nat} {L : List Gn} (h : OwnG w b A c L) (hb : b' ≤ b) : OwnG w b' A c L :=
  ⟨own_base h.row hb, fun x hx => own_base (h.vec x hx) hb, fun x hx => own_base (h.out x hx) hb, h.av, h.ao⟩
theorem OwnG.kg {w w' : World} {base b : Nat} {A : Option Addr} {c : Nat} {L : List Gn} (h : OwnG w base A c L) (hk : KG b w w') : OwnG w' base A c L :=
  ⟨hk.rn h.row, fun x hx => hk.r8 (h.vec x hx), fun x hx => hk.ri (h.out x hx), h.av, h.ao⟩
theorem OwnG.inG {w : World} {base lo : Nat} {A : Option Addr} {c : Nat} {L : List Gn} (h : OwnG w lo A c L) (hb : base ≤ lo) (hs : ∀ x ∈ pns L, x.2.1.length ≤ 20000 ∧ x.2.2.length ≤ 20000) : InG w base lo w.heap.size A c L :=
  ⟨own_base h.row hb, fun x hx => ⟨_, own_base (h.vec x hx) hb⟩, fun x hx => ⟨_, own_base (h.out x hx) hb⟩, fun x hx => by
    obtain ⟨q1, q2⟩ := hs _ (pns_mem hx)
    exact ⟨Nat.le_trans q1 (by omega), Nat.le_trans q2 (by omega)⟩, h.av, h.ao, fun g hg => h.row.lt g hg, fun x hx g hg => (h.vec x hx).lt g hg, fun x hx g hg => (h.out x hx).lt g hg⟩
theorem own_rdK {w : World} {base n c : Nat} {e : TypeId} {A : Option Addr} {k : IntKind} {xs : List Int} (h : w.ownsRow base e 1 (.slice A n c) n (xs.map (Value.int k))) : Rd k w w.heap.size A xs := by
  obtain ⟨A', c', hv, _, _, hrd, _⟩ := own_slice h
  injection hv with q1 q2 q3
  rw [q1]; exact hrd
theorem OwnG.rd {w : World} {base : Nat} {A : Option Addr} {c : Nat} {L : List Gn} (h : OwnG w base A c L) : RdG w w.heap.size A L := by
  by_cases hl : 0 < L.length
  · obtain ⟨g, rfl, -⟩ := own_some h.row hl
    exact rowG_rd h.row (fun x hx => ⟨own_rdK (h.vec x hx), own_rdK (h.out x hx)⟩)
  · exact fun h => absurd h hl
/-- An answer that is a graph, and an errno. -/
def GAns (w : World) (G : List Pn) (S E : Int) (e : Ending) (w' : World) : Prop :=
  ∃ A c T, e = .returned (.tuple #[.agg #[.slice A T.length c, .int .i64 S], .int .i64 E]) ∧ OwnG w' w.heap.size A c T ∧ pns T = G ∧ Below w.heap.size w w'
theorem GAns.nil (w : World) (E : Int) {w' : World} (h : Below w.heap.size w w') : GAns w [] 0 E (.returned (.tuple #[.agg #[.slice none 0 0, .int .i64 0], .int .i64 E])) w' := ⟨none, 0, [], rfl, OwnG.nil _ _, rfl, h⟩
end Go.Proofs.YtkmngbkghgelfaaGreat
