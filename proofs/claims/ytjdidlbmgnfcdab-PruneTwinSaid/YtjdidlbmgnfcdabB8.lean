/- The walks of the statements' own helpers on lists of int8: Beyond, TwinInt8s, LeftInt8s. -/
import Derived.Test.YtjdidlbmgnfcdabProg
import Derived.Test.YtjdidlbmgnfcdabA
import Derived.WalkKit
import Derived.WalkSpells
import Derived.WalkLawsBesides
import Derived.Below
import Derived.Lib.Hide
import Derived.Deep.QuietTactic
import Derived.BigQuiet
import Derived.Maps.AppendAt
namespace Go.Proofs.Ytjdidlbmgnfcdab
open Go.RowKit
set_option linter.unusedVariables false
/-- Beyond: are these sizes, taken together, more than 1048576? -/
def bey (xs : List Int) : Bool := decide (1048576 < xs.sum)
theorem sum_take (xs : List Int) (k : Nat) (v : Int) (hk : k < xs.length) (hv : xs[k]?.getD 0 = v) : (xs.take (k + 1)).sum = (xs.take k).sum + v := by
  rw [List.take_succ_eq_append_getElem hk, List.sum_append, ← hv, List.getElem?_eq_getElem hk]; simp
theorem sum_mono (xs : List Int) (h : ∀ x ∈ xs, 0 ≤ x) (k : Nat) : (xs.take k).sum ≤ xs.sum := by
  have e : xs.sum = (xs.take k).sum + (xs.drop k).sum := by rw [← List.sum_append, List.take_append_drop]
  have : ∀ l : List Int, (∀ x ∈ l, 0 ≤ x) → 0 ≤ l.sum := by
    intro l; induction l with
    | nil => simp
    | cons a l ih => intro hl; have := ih (fun x hx => hl x (by simp [hx])); have := hl a (by simp); simp; omega
  have := this (xs.drop k) (fun x hx => h x (List.mem_of_mem_drop hx))
  omega
theorem Try.info42 : (Try.prog.info? 42).map (fun i => (i.zero, i.size, i.bytes)) = some (some (.int .i8 0), 1, 1) := by kernel_rfl

theorem map_take {k : IntKind} (xs : List Int) (i : Nat) (v : Int) (hi : i < xs.length) (hv : xs[i]?.getD 0 = v) : (xs.take (i + 1)).map (Value.int k) = (xs.take i).map (Value.int k) ++ [.int k v] := by
  rw [List.take_succ_eq_append_getElem hi, ← hv, List.getElem?_eq_getElem hi, List.map_append]; rfl
end Go.Proofs.Ytjdidlbmgnfcdab
