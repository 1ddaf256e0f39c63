/- Rows of spots: how a block's cells hold them; behind a sort, a store, a clear. -/
import Derived.Test.YtfokejlancmahaaGreatUd
import Derived.Test.YtfokejlancmahaaGreatTn
import Derived.Lib.SliceRun
import Derived.Laws.IdiomCopy
namespace Go.Proofs.YtfokejlancmahaaGreat
open Go.Shelf Go.RowKit Go.Lib
open Go.Sort hiding Below
set_option linter.unusedVariables false
set_option linter.unusedSimpArgs false
/-- Element j of a block's cells is the spot p. -/
def SpA (G : List Pn) (a : Nat) (cs : Array Value) (j p : Nat) : Prop :=
  cs[j * 3]? = some (.int .i64 (clQ G.length p : Nat)) ∧ cs[j * 3 + 1]? = some (.int .u64 (kQ G a p).1) ∧ cs[j * 3 + 2]? = some (.int .i64 (kQ G a p).2)
/-- A block's cells begin with the spots dk. -/
def SpC (G : List Pn) (a : Nat) (cs : Array Value) (dk : Array Nat) : Prop := ∀ j, j < dk.size → SpA G a cs j dk[j]!
theorem SpC.set {G : List Pn} {a : Nat} {cs : Array Value} {dk : Array Nat} (h : SpC G a cs dk) {i : Nat} (hi : i < dk.size) (u : Nat) :
    SpC G a (((cs.setIfInBounds (i * 3) (.int .i64 (clQ G.length u : Nat))).setIfInBounds (i * 3 + 1) (.int .u64 (kQ G a u).1)).setIfInBounds (i * 3 + 2) (.int .i64 (kQ G a u).2)) (dk.setIfInBounds i u) := fun j hj => by
  have hj' : j < dk.size := by simpa using hj
  have hb : ∀ c, c < 3 → i * 3 + c < cs.size := fun c hc => by
    have := (h i hi).2.2
    have h2 := (Array.getElem?_eq_some_iff.1 this).1
    omega
  by_cases e : j = i
  · subst e
    rw [getElem!_set_same dk j u hj']
    have b0 := hb 0 (by omega)
    have b1 := hb 1 (by omega)
    have b2 := hb 2 (by omega)
    refine ⟨?_, ?_, ?_⟩
    · rw [Array.getElem?_setIfInBounds_ne (by omega), Array.getElem?_setIfInBounds_ne (by omega), Array.getElem?_setIfInBounds_self_of_lt (by simpa using b0)]
    · rw [Array.getElem?_setIfInBounds_ne (by omega), Array.getElem?_setIfInBounds_self_of_lt (by simpa using b1)]
    · rw [Array.getElem?_setIfInBounds_self_of_lt (by simpa using b2)]
  · rw [getElem!_set_other dk i j u e]
    obtain ⟨h0, h1, h2⟩ := h j hj'
    refine ⟨?_, ?_, ?_⟩
    · rw [Array.getElem?_setIfInBounds_ne (by omega), Array.getElem?_setIfInBounds_ne (by omega), Array.getElem?_setIfInBounds_ne (by omega)]; exact h0
    · rw [Array.getElem?_setIfInBounds_ne (by omega), Array.getElem?_setIfInBounds_ne (by omega), Array.getElem?_setIfInBounds_ne (by omega)]; exact h1
    · rw [Array.getElem?_setIfInBounds_ne (by omega), Array.getElem?_setIfInBounds_ne (by omega), Array.getElem?_setIfInBounds_ne (by omega)]; exact h2
theorem encS_at (G : List Pn) (a p : Nat) : (encS G a p)[0]! = .int .i64 (clQ G.length p : Nat) ∧ (encS G a p)[1]! = .int .u64 (kQ G a p).1 ∧ (encS G a p)[2]! = .int .i64 (kQ G a p).2 := ⟨rfl, rfl, rfl⟩
theorem SpC.holds {G : List Pn} {a : Nat} {cs : Array Value} {dk : Array Nat} {w : World} {blk : Nat} {t : TypeId} (h : SpC G a cs dk) (hw : Whole w blk t cs) : HoldsK (encS G a) 3 w blk 0 dk := fun t ht => by
  rw [size_flatK] at ht
  rw [get_flatK _ _ _ _ ht, Nat.zero_add]
  refine ⟨?_, hw.frozen t⟩
  rw [hw.cell t]
  obtain ⟨h0, h1, h2⟩ := h (t / 3) (by omega)
  obtain ⟨e0, e1, e2⟩ := encS_at G a dk[t / 3]!
  have hm : t % 3 = 0 ∨ t % 3 = 1 ∨ t % 3 = 2 := by omega
  rcases hm with hm | hm | hm
  · rw [hm]; rw [show t / 3 * 3 = t by omega] at h0; rw [h0]; exact congrArg some e0.symm
  · rw [hm]; rw [show t / 3 * 3 + 1 = t by omega] at h1; rw [h1]; exact congrArg some e1.symm
  · rw [hm]; rw [show t / 3 * 3 + 2 = t by omega] at h2; rw [h2]; exact congrArg some e2.symm
theorem sorted_whole {G : List Pn} {a : Nat} {cs : Array Value} {d' : Array Nat} {w : World} {blk n : Nat} {t : TypeId} {os : Array Obj} (hw : Whole w blk t cs) (hl : d'.size * 3 ≤ cs.size) :
    (∃ cs', Whole (sortWorldK (encS G a) 3 w blk 0 n d' os) blk t cs' ∧ cs'.size = cs.size ∧ SpC G a cs' d') ∧ Turn [blk] w (sortWorldK (encS G a) 3 w blk 0 n d' os) := by
  have hb := hw.lt
  have hheap : (sortWorldK (encS G a) 3 w blk 0 n d' os).heap = (w.heap.modify blk (onCells (putCells id 0 (flatK (encS G a) 3 d')))) ++ os := rfl
  refine ⟨⟨putCells id 0 (flatK (encS G a) 3 d') cs, ?_, by simp [putCells], fun j hj => ?_⟩, ⟨rfl, rfl, rfl, ?_, fun k hk hn => ?_⟩⟩
  · unfold Whole
    rw [hheap, Array.getElem?_append_left (by simpa using hb), Array.getElem?_modify, if_pos rfl, show w.heap[blk]? = _ from hw]
    rfl
  · have hp : ∀ k, k < d'.size * 3 → (putCells id 0 (flatK (encS G a) 3 d') cs)[k]? = some ((encS G a d'[k / 3]!)[k % 3]!) := fun k hk => by
      unfold putCells
      rw [Array.getElem?_mapIdx, Array.getElem?_eq_getElem (by omega)]
      simp only [Option.map_some, size_flatK]
      rw [if_pos (by omega), Nat.sub_zero, get_flatK _ _ _ _ hk]; rfl
    obtain ⟨e0, e1, e2⟩ := encS_at G a d'[j]!
    refine ⟨?_, ?_, ?_⟩
    · rw [hp _ (by omega), show j * 3 / 3 = j by omega, show j * 3 % 3 = 0 by omega]; exact congrArg some e0
    · rw [hp _ (by omega), show (j * 3 + 1) / 3 = j by omega, show (j * 3 + 1) % 3 = 1 by omega]; exact congrArg some e1
    · rw [hp _ (by omega), show (j * 3 + 2) / 3 = j by omega, show (j * 3 + 2) % 3 = 2 by omega]; exact congrArg some e2
  · rw [hheap]; simp
  · rw [hheap, Array.getElem?_append_left (by simpa using hk), Array.getElem?_modify, if_neg (fun e => hn (by rw [e]; simp))]
/-- Behind a run of stores into a block. -/
theorem whole_setCells {t : TypeId} {b : Nat} : ∀ (vs : List Value) (o : Nat) (w : World) (cs : Array Value), Whole w b t cs → ∃ cs', Whole (w.setCells b o vs) b t cs' ∧ cs'.size = cs.size ∧ (∀ k, k < o → cs'[k]? = cs[k]?) ∧ Turn [b] w (w.setCells b o vs)
  | [], o, w, cs, h => ⟨cs, h, rfl, fun _ _ => rfl, Turn.refl _ _⟩
  | v :: r, o, w, cs, h => by
    obtain ⟨cs', h1, h2, h3, h4⟩ := whole_setCells r (o + 1) _ _ (h.set o v)
    refine ⟨cs', h1, by rw [h2]; simp, fun k hk => ?_, ?_⟩
    · rw [h3 k (by omega), Array.getElem?_setIfInBounds_ne (by omega)]
    · exact ((Turn.refl [b] w).setCell (p := ⟨b, o, none⟩) (.inl (by simp)) v).trans h4 (fun x hx => .inl hx)
theorem run_clear3 {P : Program} (w : World) (t e ty : TypeId) (z z0 z1 z2 : Value) (ht : P.underlying t = some (.slice e)) (hv : ∀ w, (zeroValue e).run P w = .ok z w) (hz : z.cells = #[z0, z1, z2]) (h0 : z0.oneCell' = true) (h1 : z1.oneCell' = true) (h2 : z2.oneCell' = true) (b o n c : Nat) (hn : 0 < n) (cs : Array Value) (tt : TypeId) (hw : Whole w b tt cs) (hl : o + n * 3 ≤ cs.size) :
    ∃ vs, (Builtin.clear_ #[t] ty #[.slice (some ⟨b, o, none⟩) n c]).run P w = .ok (.tuple #[]) (w.setCells b o vs) := by
  refine ⟨(Builtin.zeroCells #[z0, z1, z2] n).toList, ?_⟩
  have hl3 : (Builtin.zeroCells #[z0, z1, z2] n).toList.length = n * 3 := by simp [Builtin.zeroCells]
  have hst := run_storeCells_cells (P := P) b o (Builtin.zeroCells #[z0, z1, z2] n).toList 0 w (fun j hj => by
    rw [Nat.add_zero, hw.cell, Array.getElem?_eq_getElem (by omega)]; rfl) (fun j hj => hw.frozen _) (fun v hv' => by
    simp only [Builtin.zeroCells, Array.toList_map, List.mem_map] at hv'
    obtain ⟨i, -, rfl⟩ := hv'
    have hm : i % 3 = 0 ∨ i % 3 = 1 ∨ i % 3 = 2 := by omega
    rcases hm with hm | hm | hm
    · show (#[z0, z1, z2][i % 3]!).oneCell' = true; rw [hm]; exact h0
    · show (#[z0, z1, z2][i % 3]!).oneCell' = true; rw [hm]; exact h1
    · show (#[z0, z1, z2][i % 3]!).oneCell' = true; rw [hm]; exact h2)
  simp only [Nat.add_zero] at hst
  obtain ⟨m, rfl⟩ : ∃ m, n = m + 1 := ⟨n - 1, by omega⟩
  simp [Builtin.clear_, run_underlying ht, hv, hz, hst]
end Go.Proofs.YtfokejlancmahaaGreat
