/- The walks of layer 3 (vec) on distances: the iterator 'pairs', apart, isDim, Dist, and the document's Far and Dist. -/
import Derived.RangeFuncBox
import Derived.RangeFuncNested
import Derived.RangeFuncBound
import Derived.RangeFuncCalls
import Derived.RangeFuncLeaves
import Derived.Shelf.Abstract
import Derived.Shelf.RegionOpen
import Derived.WalkKit
import Derived.OwnWalkIn
import Derived.TacticsInMore
import Derived.LoopNIn
import Derived.LoopIn
import Derived.Maps.AppendAt
import Derived.Test.YtjihnkoimbcfnaaProg
import Derived.Test.YtjihnkoimbcfnaaB8
namespace Go.Proofs.Ytjihnkoimbcfnaa
open Go.RowKit Go.Shelf
set_option linter.unusedVariables false
attribute [local go_sem] Oper.semAt_some

/-- How far: the sum of the squares of what is between. -/
def farL (l : List (Int × Int)) : Int := (l.map fun p => (p.1 - p.2) * (p.1 - p.2)).sum
theorem farL_snoc (l : List (Int × Int)) (p : Int × Int) : farL (l ++ [p]) = farL l + (p.1 - p.2) * (p.1 - p.2) := by unfold farL; simp
theorem sq_bd {x : Int} (h1 : -255 ≤ x) (h2 : x ≤ 255) : 0 ≤ x * x ∧ x * x ≤ 65025 := by
  constructor
  · rcases Int.le_total 0 x with h | h
    · exact Int.mul_nonneg h h
    · have := Int.mul_nonneg (show 0 ≤ -x by omega) (show 0 ≤ -x by omega); rwa [Int.neg_mul_neg] at this
  · have h3 : x.natAbs ≤ 255 := by omega
    have h4 : x * x = ((x.natAbs * x.natAbs : Nat) : Int) := by simp
    rw [h4]
    have := Nat.mul_le_mul h3 h3
    omega
theorem farL_bd (l : List (Int × Int)) (h : ∀ p ∈ l, (-128 ≤ p.1 ∧ p.1 ≤ 127) ∧ (-128 ≤ p.2 ∧ p.2 ≤ 127)) : 0 ≤ farL l ∧ farL l ≤ 65025 * l.length := by
  induction l with
  | nil => simp [farL]
  | cons p l ih =>
    have h1 := ih (fun q hq => h q (by simp [hq]))
    have h2 := h p (by simp)
    have h3 := sq_bd (x := p.1 - p.2) (by omega) (by omega)
    have e : farL (p :: l) = (p.1 - p.2) * (p.1 - p.2) + farL l := by unfold farL; simp
    rw [e]
    simp only [List.length_cons]
    omega
/-- A number as an int8 may hold it. -/
def cl (x : Int) : Int := max (-128) (min 127 x)
theorem cl_bd (x : Int) : -128 ≤ cl x ∧ cl x ≤ 127 := by unfold cl; omega
theorem cl_id {x : Int} (h : -128 ≤ x ∧ x ≤ 127) : cl x = x := by unfold cl; omega
def farC (l : List (Int × Int)) : Int := farL (l.map fun p => (cl p.1, cl p.2))
theorem farC_snoc (l : List (Int × Int)) (p : Int × Int) : farC (l ++ [p]) = farC l + (cl p.1 - cl p.2) * (cl p.1 - cl p.2) := by unfold farC; rw [List.map_append]; exact farL_snoc _ _
theorem farC_bd (l : List (Int × Int)) : 0 ≤ farC l ∧ farC l ≤ 65025 * l.length := by
  have := farL_bd (l.map fun p => (cl p.1, cl p.2)) (fun p hp => by
    simp only [List.mem_map] at hp
    obtain ⟨q, _, rfl⟩ := hp
    exact ⟨cl_bd _, cl_bd _⟩)
  simpa [farC] using this
theorem farC_id (l : List (Int × Int)) (h : ∀ p ∈ l, (-128 ≤ p.1 ∧ p.1 ≤ 127) ∧ (-128 ≤ p.2 ∧ p.2 ≤ 127)) : farC l = farL l := by
  have e : (l.map fun p => (cl p.1, cl p.2)) = l := by
    conv => rhs; rw [← List.map_id l]
    apply List.map_congr_left
    intro p hp
    have := h p hp
    rw [cl_id this.1, cl_id this.2]; rfl
  unfold farC; rw [e]
theorem zip_bd {xs ys : List Int} (bx : ∀ x ∈ xs, -128 ≤ x ∧ x ≤ 127) (bY : ∀ x ∈ ys, -128 ≤ x ∧ x ≤ 127) : ∀ p ∈ xs.zip ys, (-128 ≤ p.1 ∧ p.1 ≤ 127) ∧ (-128 ≤ p.2 ∧ p.2 ≤ 127) := fun p hp =>
  ⟨bx _ (List.of_mem_zip (a := p.1) (b := p.2) hp).1, bY _ (List.of_mem_zip (a := p.1) (b := p.2) hp).2⟩
def far (xs ys : List Int) : Int := farL (xs.zip ys)

/-- All cells below block n, but for block s, read as they did. -/
def KpC (s n : Nat) (W W' : World) : Prop := ∀ b o, b < n → b ≠ s → W'.cell? ⟨b, o, none⟩ = W.cell? ⟨b, o, none⟩
theorem KpC.refl (s n : Nat) (W : World) : KpC s n W W := fun _ _ _ _ => rfl
theorem KpC.trans {s n : Nat} {A B C : World} (h : KpC s n A B) (g : KpC s n B C) : KpC s n A C := fun b o h1 h2 => (g b o h1 h2).trans (h b o h1 h2)
theorem KpC.rd {s n : Nat} {W W' : World} (h : KpC s n W W') (hs : s < n) {k : IntKind} {A : Option Addr} {xs : List Int} (hx : Rd k W s A xs) : Rd k W' s A xs := fun hl => by
  obtain ⟨b, off, hA, hB, hc⟩ := hx hl
  exact ⟨b, off, hA, hB, fun i hi => (h b (off + i) (by omega) (by omega)).trans (hc i hi)⟩
theorem zip_take_snoc (xs ys : List Int) (i : Nat) (x y : Int) (hl : ys.length = xs.length) (hi : i < xs.length) (hx : xs[i]?.getD 0 = x) (hy : ys[i]?.getD 0 = y) : (xs.zip ys).take (i + 1) = (xs.zip ys).take i ++ [(x, y)] := by
  rw [List.take_succ_eq_append_getElem (by simp; omega)]
  rw [← hx, ← hy, List.getElem?_eq_getElem hi, List.getElem?_eq_getElem (by omega)]
  simp

theorem Below.kpC {s m : Nat} {W W' : World} (h : Below m W W') : KpC s m W W' := fun b o hb _ => h.cell (p := ⟨b, o, none⟩) hb
theorem kpC_b {s : Nat} {w : World} (W : World) (l : Nat) (o o' : Obj) (hl : w.heap.size ≤ l) (h : W.heap[l]? = some o) (h1 : o.isCells = false) (h2 : o.isWalk = false) : KpC s w.heap.size W (W.putObj l o') :=
  Below.kpC (belowK_b (w := w) (Nat.le_refl _) W l o o' hl h h1 h2)
theorem kpC_set {s m : Nat} (W : World) (v : Value) : KpC s m W (W.setCell ⟨s, 0, none⟩ v) := fun b o _ hne => by
  unfold World.cell?
  rw [heap_setCell_other W ⟨s, 0, none⟩ b v hne]

/-- May a vector be of so many numbers? -/
def dimB (n : Int) : Bool := decide (1 ≤ n ∧ n ≤ 64)
end Go.Proofs.Ytjihnkoimbcfnaa
