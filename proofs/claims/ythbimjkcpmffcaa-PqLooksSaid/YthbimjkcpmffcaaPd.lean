/- What layer 8's calls answer, and what is asked of the program's; mathematics of parts of one vector, and of words alone. -/
import Derived.Test.YthbimjkcpmffcaaPc
namespace Go.Proofs.Ythbimjkcpmffcaa
open Go.RowKit
set_option linter.unusedVariables false
def encA (P : Int) (ps : List (List (List Int))) (v : List Int) : List Int := if bookB P ps v.length then encL ps v else []
def tabA (P : Int) (ps : List (List (List Int))) (v : List Int) : List (List Int) := if bookB P ps v.length then tabL ps v else []
instance (ps : List (List (List Int))) (code : List Int) : Decidable (codeOk ps code) := by unfold codeOk; infer_instance
instance (t : List (List Int)) (code : List Int) : Decidable (lookOk t code) := by unfold lookOk; infer_instance
def decB (P : Int) (ps : List (List (List Int))) (code : List Int) : Bool := bookB P ps (dimS ps) && decide (codeOk ps code)
def decA (P : Int) (ps : List (List (List Int))) (code : List Int) : List Int := if decB P ps code then decL ps code else []
def lookA (t : List (List Int)) (code : List Int) : Int := if lookOk t code then lookK t code t.length else 0
def bookA (vs : List (List Int)) (n k r : Int) (s : Nat) : List (List (List Int)) := if mayP vs n k r then bookL vs n.toNat k.toNat r.toNat s else []
def partsA (vs : List (List Int)) (n k r : Int) : Int := if mayP vs n k r then n else 0
/-- One step of means that are the vector alone: it stays. -/
theorem steps_alone {u : List Int} (h1 : 1 ≤ u.length) (h2 : u.length ≤ 64) (r : Nat) : stepsL [u] r [u] = [u] := by
  have hb : mayB [u] = true ∧ dimOf [u] = u.length := mayB_of (by simp) (by simp) h1 h2 (fun v hv => by simp at hv; rw [hv])
  have hm : mayM [u] [u] = true := decide_eq_true ⟨by simp, hb.1, by simp, fun i hi => by
    obtain rfl : i = 0 := by simpa using hi
    exact hb.2.symm⟩
  have hc := steps_cost0 hm r
  rw [costL_self] at hc
  have hz := cost_zero hc u (by simp)
  have hl := stepsL_len [u] [u] r
  have hq := mayM_yes (stepsL_may hm r)
  obtain ⟨x, hx⟩ : ∃ x, stepsL [u] r [u] = [x] := by
    match h : stepsL [u] r [u], hl with
    | [x], _ => exact ⟨x, rfl⟩
  rw [hx] at hz hq ⊢
  have hn : nearestI [x] u = 0 := nearI_one _ _
  rw [hn] at hz
  have hd := hq.2.2.2 0 (by simp)
  have : x = u := far_zero x u (by
    have e1 : (vAt [u] 0).length = u.length := rfl
    have e2 : dimOf [x] = x.length := rfl
    omega) hz
  rw [this]
theorem parts_book {v : List Int} {n s : Nat} (h1 : 1 ≤ n) (h2 : n ≤ v.length) (h3 : v.length ≤ 64) {p : Nat} (hp : p < n) : pAt (bookL [v] n 1 1 s) p = [partAt v p n] := by
  rw [bookL_at hp]
  have e : subL [v] p n = [partAt v p n] := rfl
  have ef := firstL_all [partAt v p n] ((s + p) % 18446744073709551616)
  have el : [partAt v p n].length = 1 := rfl
  rw [el] at ef
  rw [e, ef]
  have hl := part_len (v := v) (p := p) h1 hp
  have hs := beg_step (p := p) h1 h2
  have hle := beg_le (p := p + 1) (d := v.length) h1 (by omega)
  exact steps_alone (by omega) (by omega) 1
theorem beg_one (p n : Nat) (h : 1 ≤ n) : beg p n n = p := by unfold beg; exact Nat.mul_div_cancel p (by omega)
theorem part_whole (v : List Int) : partAt v 0 1 = v := by
  unfold partAt seg beg
  simp
theorem part_each {v : List Int} {p : Nat} (hp : p < v.length) : partAt v p v.length = [v[p]?.getD 0] := by
  unfold partAt
  rw [beg_one _ _ (by omega), beg_one _ _ (by omega)]
  unfold seg
  rw [show p + 1 - p = 1 by omega, List.getElem?_eq_getElem hp]
  have h1 : v.drop p = v[p] :: v.drop (p + 1) := List.drop_eq_getElem_cons hp
  rw [h1]
  rfl
/-- The words' p-th numbers. -/
def colL (ws : List (List Int)) (p : Nat) : List (List Int) := ws.map fun u => [u[p]?.getD 0]
theorem one_ok {ws : List (List Int)} {d : Nat} (h1 : 1 ≤ ws.length) (h2 : ws.length ≤ 64) (h3 : 1 ≤ d) (h4 : d ≤ 64) (h : ∀ u ∈ ws, u.length = d) : BookOk [ws] d := by
  refine ⟨h3, h4, by simp, by simpa using h3, fun p hp => ?_⟩
  obtain rfl : p = 0 := by simpa using hp
  refine ⟨h1, h2, rfl, fun w hw => ?_⟩
  show _ = beg (0 + 1) 1 d - beg 0 1 d
  rw [show beg (0 + 1) 1 d = d by unfold beg; simp, beg_zero]
  exact h _ (vAt_mem hw)
theorem many_ok {ws : List (List Int)} {d : Nat} (h1 : 1 ≤ ws.length) (h2 : ws.length ≤ 64) (h3 : 1 ≤ d) (h4 : d ≤ 64) : BookOk ((List.range d).map (colL ws)) d := by
  have hl : ((List.range d).map (colL ws)).length = d := by simp
  have hat : ∀ p, p < d → pAt ((List.range d).map (colL ws)) p = colL ws p := fun p hp => by simp [pAt, hp]
  refine ⟨h3, h4, by rw [hl]; exact h3, by rw [hl]; omega, fun p hp => ?_⟩
  rw [hl] at hp ⊢
  rw [hat p hp, hat 0 (by omega), beg_one _ _ h3, beg_one _ _ h3]
  refine ⟨by simpa [colL] using h1, by simpa [colL] using h2, by simp [colL], fun w hw => ?_⟩
  have := vAt_mem hw
  unfold colL at this
  obtain ⟨u, _, hu⟩ := List.mem_map.1 this
  unfold colL
  rw [← hu]
  simp
end Go.Proofs.Ythbimjkcpmffcaa
