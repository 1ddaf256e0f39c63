/- The chapter's graph of layer 11; alive. -/
import Derived.Test.YtkmngbkghgelfaaFl
import Derived.Test.YtkmngbkghgelfaaFb
namespace Go.Proofs.Ytkmngbkghgelfaa
open Go.Shelf Go.RowKit Go.Lib
open Go.Sort hiding Below
set_option linter.unusedVariables false
set_option linter.unusedSimpArgs false
def smallS : List Pn := [(7, [0], [1]), (8, [5], [2]), (9, [9], []), (6, [8], [0])]
theorem smallS_small : GSmall smallS := by
  constructor <;> decide
theorem smallS_ok : ∀ x ∈ smallS, PnOk x := by
  intro x hx
  simp [smallS] at hx
  rcases hx with rfl | rfl | rfl | rfl <;> simp [PnOk] <;> omega
theorem smallS_may9 : mayS smallS 0 [9] = true := by decide
theorem smallS_b1 : beamB smallS 0 [9] 2 3 = true := by decide
theorem smallS_b2 : beamB smallS 0 [0] 1 1 = true := by decide
theorem smallS_b3 : beamB smallS 0 [9] 2 1 = false := by decide
theorem smallS_e : exactB smallS 0 [9] 2 = true := by decide
theorem smallS_h1 : beamH smallS 0 [9] 2 3 = [(9, 0), (8, 16)] := by decide
theorem smallS_o1 : beamO smallS 0 [9] 2 3 = [0, 1, 2] := by decide
theorem smallS_h2 : beamH smallS 0 [0] 1 1 = [(7, 0)] := by decide
theorem smallS_o2 : beamO smallS 0 [0] 1 1 = [0] := by decide
theorem smallS_h3 : beamH smallS 0 [9] 2 1 = [] := by decide
theorem smallS_o3 : beamO smallS 0 [9] 2 1 = [] := by decide
theorem smallS_x : exactH smallS 0 [9] 2 = [(9, 0), (6, 1)] := by
  unfold exactH
  rw [if_pos smallS_e]
  have h := (all_come (G := smallS) (v := [9]) (m := 2) (mayS_yes smallS_may9).nd (by decide) 4 (by decide)).2
  show (srt (hlP smallS [9] (List.range 4))).take 2 = _
  rw [← h]
  decide
theorem sh_small : shN [9, 8] [9, 6] = 1 := by decide
theorem lit_rd8S {w : World} {B b : Nat} {a : Int} (h : w.cell? ⟨b, 0, none⟩ = some (.int .i8 a)) (hB : b < B) : Rd .i8 w B (some ⟨b, 0, none⟩) [a] := fun _ => ⟨b, 0, rfl, hB, fun i hi => by
  obtain rfl : i = 0 := by simpa using hi
  exact h⟩
theorem lit_rd64S {w : World} {B b : Nat} {a : Int} (h : w.cell? ⟨b, 0, none⟩ = some (.int .i64 a)) (hB : b < B) : Rd .i64 w B (some ⟨b, 0, none⟩) [a] := fun _ => ⟨b, 0, rfl, hB, fun i hi => by
  obtain rfl : i = 0 := by simpa using hi
  exact h⟩
set_option maxRecDepth 100000 in
set_option maxHeartbeats 4000000 in
theorem smallS_any (w : World) : Calls Try.prog 12 #[] w fun e w' => ∃ A L, e = .returned (.agg #[.slice A 4 4, .int .i64 0]) ∧ RdG w' w'.heap.size A L ∧ pns L = smallS ∧ (∀ x ∈ L, x.2.1.1 = none → x.2.1.2.1 = 0) ∧ (∀ x ∈ L, x.2.2.2.2.length ≤ x.2.2.2.1) ∧ Below w.heap.size w w' := by
  go_enter Try.func12, Try.ntmps12
  go_wp2_with fail
  refine bodyPost_ret (v := .agg #[.slice (some ⟨w.heap.size + 1 + 1 + 1 + 1 + 1 + 1 + 1 + 1, 0, none⟩) 4 4, .int .i64 0]) (by rw [resCellG rfl]; go_simp) rfl ?_
  refine ⟨_, [(7, (some ⟨w.heap.size + 1, 0, none⟩, 1, [0]), (some ⟨w.heap.size + 1 + 1, 0, none⟩, 1, [1])), (8, (some ⟨w.heap.size + 1 + 1 + 1, 0, none⟩, 1, [5]), (some ⟨w.heap.size + 1 + 1 + 1 + 1, 0, none⟩, 1, [2])), (9, (some ⟨w.heap.size + 1 + 1 + 1 + 1 + 1, 0, none⟩, 1, [9]), (none, 0, [])), (6, (some ⟨w.heap.size + 1 + 1 + 1 + 1 + 1 + 1, 0, none⟩, 1, [8]), (some ⟨w.heap.size + 1 + 1 + 1 + 1 + 1 + 1 + 1, 0, none⟩, 1, [0]))], rfl, fun _ => ⟨_, 0, rfl, ?_, fun i hi => ?_⟩, rfl, ?_, ?_, ?_⟩
  · simp [go_sem] <;> omega
  · have hi' : i < 4 := hi
    match i, hi' with
    | 0, _ => exact ⟨by simp [go_sem], by simp [go_sem], by simp [go_sem], lit_rd8S (by simp [go_sem]) (by simp [go_sem] <;> omega), lit_rd64S (by simp [go_sem]) (by simp [go_sem] <;> omega)⟩
    | 1, _ => exact ⟨by simp [go_sem], by simp [go_sem], by simp [go_sem], lit_rd8S (by simp [go_sem]) (by simp [go_sem] <;> omega), lit_rd64S (by simp [go_sem]) (by simp [go_sem] <;> omega)⟩
    | 2, _ => exact ⟨by simp [go_sem], by simp [go_sem], by simp [go_sem], lit_rd8S (by simp [go_sem]) (by simp [go_sem] <;> omega), fun h => absurd h (Nat.not_lt_zero _)⟩
    | 3, _ => exact ⟨by simp [go_sem], by simp [go_sem], by simp [go_sem], lit_rd8S (by simp [go_sem]) (by simp [go_sem] <;> omega), lit_rd64S (by simp [go_sem]) (by simp [go_sem] <;> omega)⟩
  · intro x hx
    simp at hx
    rcases hx with rfl | rfl | rfl | rfl <;> simp
  · intro x hx
    simp at hx
    rcases hx with rfl | rfl | rfl | rfl <;> simp
  · exact Below.trans (by repeat (first | exact Below.refl _ _ | apply below_one | (refine Below.setCell ?_ (Nat.le_refl _) _))) (Below.refl _ _)
end Go.Proofs.Ytkmngbkghgelfaa
