/- The walks of the document's Hops and Reached (layer 9). -/
import Derived.Test.YtfokejlancmahaaGreatKi
import Derived.Test.YtfokejlancmahaaGreatGa
namespace Go.Proofs.YtfokejlancmahaaGreat
open Go.RowKit
set_option linter.unusedVariables false
theorem whole_rowK {w : World} {g base n cap : Nat} {t : TypeId} {cs : Array Value} (h : Whole w g t cs) (hc : cs.size = cap) (hn : n ≤ cap) (hm : cap ≤ 9223372036854775807) (hb : base ≤ g) : w.ownsRow base t 1 (.slice (some ⟨g, 0, none⟩) n cap) n (cs.toList.take n) := by
  refine ⟨?_, .inr ⟨g, cap, cs, rfl, hb, h, hn, hm, by rw [hc, Nat.mul_one], by rw [Nat.mul_one]⟩⟩
  rw [List.length_take, Nat.mul_one, Array.length_toList, hc]
  omega
def errG (b : Bool) : Int := if b then 0 else 1
/-- An answer that is a list of numbers, and an errno. -/
def IAns (w : World) (xs : List Int) (E : Int) (e : Ending) (w' : World) : Prop :=
  ∃ A c, e = .returned (.tuple #[.slice A xs.length c, .int .i64 E]) ∧ w'.ownsRow w.heap.size 3 1 (.slice A xs.length c) xs.length (xs.map (Value.int .i64)) ∧ Below w.heap.size w w'
theorem IAns.nil (w : World) (E : Int) {w' : World} (h : Below w.heap.size w w') : IAns w [] E (.returned (.tuple #[.slice none 0 0, .int .i64 E])) w' := ⟨none, 0, rfl, own_nil_row _ _ _, h⟩
/-- The first nodes that are reached. -/
noncomputable def reachK (G : List Pn) (s : Int) (k : Nat) : List Int := ((List.range k).filter fun i => decide (0 ≤ hopI G s.toNat i)).map fun (i : Nat) => (i : Int)
theorem reachK_yes {G : List Pn} {s : Int} {k : Nat} (h : 0 ≤ hopI G s.toNat k) : reachK G s (k + 1) = reachK G s k ++ [(k : Int)] := by
  unfold reachK
  rw [List.range_succ, List.filter_append, List.map_append]
  simp [h]
theorem reachK_no {G : List Pn} {s : Int} {k : Nat} (h : ¬ 0 ≤ hopI G s.toNat k) : reachK G s (k + 1) = reachK G s k := by
  unfold reachK
  rw [List.range_succ, List.filter_append, List.map_append]
  simp [h]
theorem reachK_len (G : List Pn) (s : Int) (k : Nat) : (reachK G s k).length ≤ k := by
  unfold reachK
  rw [List.length_map]
  have := List.length_filter_le (fun i => decide (0 ≤ hopI G s.toNat i)) (List.range k)
  simpa using this
end Go.Proofs.YtfokejlancmahaaGreat
