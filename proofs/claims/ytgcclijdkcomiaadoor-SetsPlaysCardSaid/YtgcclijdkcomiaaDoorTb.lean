/- What the rows list, math/bits.deBruijn64tab, as the walks want it; and a start that has it. -/
import Derived.Test.YtgcclijdkcomiaaDoorRows
import Derived.Test.YtgcclijdkcomiaaDoorSa
import Derived.WalkKit
import Derived.ProofKit
import Derived.OpenShut
import Derived.ChangeOld
import Derived.SizedLaws
import Derived.Below
import Derived.ChangeVars
import Derived.JoinedOf
import Derived.LaidHandle
import Derived.MakeChecks
namespace Go.Proofs.YtgcclijdkcomiaaDoor
open Go.ChangeShapes Go.WideShapes Go.ChangeAt Go.RowKit
set_option linter.unusedVariables false

theorem int_cell {H : Type} {enc : TypeId × Value → H} {P : Program} {w : World} {base : Nat} {sp : Nat → Bool} {held : Bool} {fuel : Nat} {t : TypeId} {k : IntKind} {cs : List Value} {m : Int} {p : List MemPlace}
    (ht : P.underlying t = some (.int k)) (h : DataW.trod enc P w base sp held fuel t cs = some (.lit (.int k m), p)) : cs = [.int k m] := by
  cases fuel with
  | zero => simp [DataW.trod] at h
  | succ fuel =>
    simp only [DataW.trod, ht] at h
    split at h
    all_goals first
      | cases h; done
      | skip
    all_goals simp_all
theorem array_cells {H : Type} {enc : TypeId × Value → H} {P : Program} {w : World} {base : Nat} {sp : Nat → Bool} {held : Bool} {fuel n : Nat} {t e : TypeId} {k : IntKind} {cs : List Value} {ds : List (DataW H)} {p : List MemPlace}
    (ht : P.underlying t = some (.array n e)) (he : P.underlying e = some (.int k)) (hce : P.cellsOf e = 1) (h : DataW.trod enc P w base sp held fuel t cs = some (.agg ds, p)) :
    ∀ (i : Nat) (m : Int), i < n → ds[i]? = some (.lit (.int k m)) → cs[i]? = some (.int k m) := by
  cases fuel with
  | zero => simp [DataW.trod] at h
  | succ fuel =>
    simp only [DataW.trod, ht, hce] at h
    split at h
    · simp only [Option.map_eq_some_iff, Prod.mk.injEq, DataW.agg.injEq] at h
      obtain ⟨xs, hx, rfl, _⟩ := h
      intro i m hi hd
      have := mapM_some_get hx i i (by simp [hi])
      rw [List.getElem?_map] at hd
      cases hxi : xs[i]? with
      | none => rw [hxi] at hd; cases hd
      | some y =>
        rw [hxi] at hd this
        obtain ⟨y1, y2⟩ := y
        simp at hd
        subst hd
        have h1 := int_cell he this
        have h2 : (List.take 1 (List.drop (i * 1) cs))[0]? = some (.int k m) := by rw [h1]; rfl
        simpa using h2
    · cases h
theorem Tryd.tabVar : Tryd.prog.globalNamed "math/bits.deBruijn64tab" = some 0 := by kernel_rfl
theorem Tryd.tabType : (Tryd.prog.globals[0]?).map (·.type) = some 143 := by kernel_rfl
theorem Tryd.cells5 : Tryd.prog.cellsOf 5 = 1 := by kernel_rfl
abbrev tabLaid : List (String × DataW Unit) := [("math/bits.deBruijn64tab", Rows.laid_math_bits_deBruijn64tab)]
def tabData : List (DataW Unit) := Lib.deBruijn64tab.map fun m => .lit (.int .u8 (m : Nat))
theorem tab_data : (Rows.laid_math_bits_deBruijn64tab : DataW Unit) = .agg tabData := by rfl
theorem tab_of_laid {W : World} (h : laidMetH Tryd.prog tabLaid W) : Tab W := by
  rw [MakeChecks.laidMetH_plain _ _ _ (by kernel_rfl)] at h
  obtain ⟨ps, ⟨g, t, cs, fuel, p, q, hg, ht, hvar, hd, _, _⟩, _⟩ := h
  obtain rfl := Option.some.inj (Tryd.tabVar.symm.trans hg)
  obtain rfl := Option.some.inj (Tryd.tabType.symm.trans ht)
  rw [tab_data] at hd
  intro j hj
  have := array_cells Tryd.underlying143 Tryd.underlying5 Tryd.cells5 hd j ((Lib.deBruijn64tab.getD j 0 : Nat) : Int) hj (by
    unfold tabData
    rw [List.getElem?_map]
    have hl : j < Lib.deBruijn64tab.length := hj
    rw [List.getElem?_eq_getElem hl]
    simp [List.getD, List.getElem?_eq_getElem hl])
  have h2 := World.var?_cell hg hvar j
  rw [Array.getElem?_toList] at this
  rw [h2]
  exact this

/-- A start that has the table. -/
def tabCells : Array Value := (Lib.deBruijn64tab.map fun m => Value.int .u8 (m : Nat)).toArray
noncomputable def laidWorld (os : Os) : World :=
  { World.holding Tryd.prog os ⟨#[], #[], []⟩ with heap := (World.holding Tryd.prog os ⟨#[], #[], []⟩).heap.modify 0 fun
      | .cells _ t frozen => .cells tabCells t frozen
      | o => o }
theorem laidWorld_row (os : Os) (args : Array Value) : ((laidWorld os).forCall (fun _ _ => 0) ⟨#[], args, []⟩).memory.heap[0]? = some (.cells tabCells 143 (0, 0)) := by kernel_rfl
theorem tabCells_size : tabCells.size = 64 := by kernel_rfl
theorem tab_ints : tabCells.all (fun v => match v with | .iface _ _ => false | _ => true) = true := by kernel_rfl
set_option maxRecDepth 100000 in
theorem laidWorld_met (os : Os) (args : Array Value) : laidMetH Tryd.prog tabLaid ((laidWorld os).forCall (fun _ _ => 0) ⟨#[], args, []⟩).memory := by
  rw [MakeChecks.laidMetH_plain _ _ _ (by kernel_rfl)]
  refine ⟨_, ⟨0, 143, tabCells, 8, [], [], by kernel_rfl, by kernel_rfl, by kernel_rfl, by kernel_rfl, rfl, rfl⟩, by rw [tabCells_size]; decide, fun b off h => ?_⟩
  have hb : b = 0 := by
    simp [MemPlace.row] at h
    omega
  subst hb
  refine ⟨⟨_, _, laidWorld_row os args⟩, fun u v hc => ?_⟩
  simp only [World.cell?, laidWorld_row os args] at hc
  have := tab_ints
  rw [Array.all_eq_true'] at this
  have h2 := this _ (Array.mem_of_getElem? hc)
  cases h2
end Go.Proofs.YtgcclijdkcomiaaDoor
