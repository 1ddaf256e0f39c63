/- Package pq: what the bytes of a code name of lists of numbers; Look. -/
import Derived.Test.YthbimjkcpmffcaaGreatPk
import Derived.Laws.OwnMore
namespace Go.Proofs.YthbimjkcpmffcaaGreat
open Go.RowKit
set_option linter.unusedVariables false
/-- A row of the call's own, of n places, of which the first ones are filled. -/
structure FilZ (w : World) (base g n : Nat) (e : TypeId) (z : Value) (T : List Value) : Prop where
  row : w.ownsRow base e 1 (.slice (some ⟨g, 0, none⟩) n n) n (T ++ List.replicate (n - T.length) z)
  len : T.length ≤ n
theorem madeZ (z : Value) (n : Nat) : (madeCells #[z] (n * 1)).toList = List.replicate n z := by
  unfold madeCells
  rw [Nat.mul_one]
  refine List.ext_getElem (by simp) (fun i h1 h2 => ?_)
  simp [Nat.mod_one]
theorem FilZ.made {w : World} {base g n : Nat} {e : TypeId} {z : Value} (h : w.ownsRow base e 1 (.slice (some ⟨g, 0, none⟩) n n) n (madeCells #[z] (n * 1)).toList) : FilZ w base g n e z [] :=
  ⟨by rw [madeZ] at h; simpa using h, by simp⟩
theorem FilZ.below {w w' : World} {base g n : Nat} {e : TypeId} {z : Value} {T : List Value} (h : FilZ w base g n e z T) (hb : Below w.heap.size w w') : FilZ w' base g n e z T := ⟨own_below h.row hb, h.len⟩
theorem FilZ.cell {w : World} {base g n : Nat} {e : TypeId} {z : Value} {T : List Value} (h : FilZ w base g n e z T) (hk : T.length < n) : w.cell? ⟨g, T.length, none⟩ = some z := by
  rw [h.row.cellAt T.length (by simpa using hk), List.getElem?_append_right (Nat.le_refl _), Nat.sub_self, List.getElem?_replicate, if_pos (by omega)]
theorem FilZ.put {w : World} {base g n : Nat} {e : TypeId} {z : Value} {T : List Value} (h : FilZ w base g n e z T) (hk : T.length < n) (v : Value) : FilZ (w.setCell ⟨g, T.length, none⟩ v) base g n e z (T ++ [v]) := by
  have h1 := (h.row.stored T.length v).1
  have e1 : (T ++ List.replicate (n - T.length) z).set T.length v = (T ++ [v]) ++ List.replicate (n - (T ++ [v]).length) z := by
    rw [List.set_append_right _ _ (Nat.le_refl _), Nat.sub_self, show n - T.length = (n - (T ++ [v]).length) + 1 by simp; omega, List.replicate_succ, List.set_cons_zero, List.append_assoc]
    rfl
  rw [e1] at h1
  exact ⟨h1, by simp; omega⟩
theorem FilZ.done {w : World} {base g n : Nat} {e : TypeId} {z : Value} {T : List Value} (h : FilZ w base g n e z T) (hk : T.length = n) : w.ownsRow base e 1 (.slice (some ⟨g, 0, none⟩) n n) n T := by
  have := h.row
  rw [hk, Nat.sub_self] at this
  simpa using this
theorem FilZ.ge {w : World} {base g n : Nat} {e : TypeId} {z : Value} {T : List Value} (h : FilZ w base g n e z T) : base ≤ g ∧ g < w.heap.size := h.row.lt g rfl
theorem FilZ.frozen {w : World} {base g n : Nat} {e : TypeId} {z : Value} {T : List Value} (h : FilZ w base g n e z T) (k : Nat) : w.frozen? ⟨g, k, none⟩ = false := by
  obtain ⟨h1, h2 | ⟨g', cap, cur, hv, _, hg, _⟩⟩ := h.row
  · simp at h2
  · injection hv with q1
    injection q1 with q1
    injection q1 with q1
    subst q1
    exact (show Whole w g e cur from hg).frozen k
def valK (t : List (List Int)) (code : List Int) (k : Nat) : List Int := (List.range k).map fun p => (tAt t p)[cAt code p]?.getD 0
theorem valK_len (t : List (List Int)) (code : List Int) (k : Nat) : (valK t code k).length = k := by simp [valK]
theorem valK_succ (t : List (List Int)) (code : List Int) (k : Nat) : valK t code (k + 1) = valK t code k ++ [(tAt t k)[cAt code k]?.getD 0] := by simp [valK, List.range_succ]
theorem valK_at {t : List (List Int)} {code : List Int} {n k : Nat} (h : k < n) : (valK t code n)[k]? = some ((tAt t k)[cAt code k]?.getD 0) := by simp [valK, h]
theorem info64q : (Tryz.prog.info? 2).map (fun i => (i.zero, i.size, i.bytes)) = some (some (.int .i64 0), 1, 8) := by kernel_rfl
theorem below_of_grown0 {w w' : World} (h : w.grownBy w' none) : Below w.heap.size w w' := ⟨h.os, h.tape, h.output, h.size, fun k hk => h.block k hk (by simp)⟩
end Go.Proofs.YthbimjkcpmffcaaGreat
