/- The walk of the statements' helper 'alive': some answers that the document fixes. -/
import Derived.Test.YtfjigfmjhfoecaaC
import Derived.Lib.SlBytesConst
namespace Go.Proofs.Ytfjigfmjhfoecaa
open Go.RowKit
set_option linter.unusedVariables false
theorem sum_1to9 : more 0 (nats [49, 50, 51, 52, 53, 54, 55, 56, 57]) = 3808858755 := by decide +kernel
theorem sum_zeros : more 0 (nats (List.replicate 32 0)) = 2324772522 := by decide +kernel
theorem more_7 : more 7 (nats []) = 7 := by decide +kernel
/-- A row in a new block reads as its numbers. -/
theorem rd_newF (w : World) (k : IntKind) (t : TypeId) (xs : List Int) (fr : Nat × Nat) : Rd k (w.alloc (.cells (xs.map (Value.int k)).toArray t fr)) (w.heap.size + 1) (some ⟨w.heap.size, 0, none⟩) xs := fun _ => by
  refine ⟨w.heap.size, 0, rfl, by omega, fun i hi => ?_⟩
  rw [cell_of_row _ w.heap.size (0 + i) (xs.map (Value.int k)).toArray t fr (heap_alloc_new w _)]
  simp [List.getElem?_eq_getElem hi]
theorem made_one (k : IntKind) (n : Nat) : (madeCells #[Value.int k 0] n).toList = (List.replicate n 0).map (Value.int k) := by
  unfold madeCells
  apply List.ext_getElem
  · simp
  · intro i h1 h2
    simp [Nat.mod_one]
theorem made32 : (madeCells #[Value.int IntKind.u8 0] 32).toList = (List.replicate 32 0).map (Value.int .u8) := made_one .u8 32
theorem rd_nil (w : World) (k : IntKind) (B : Nat) : Rd k w B none [] := fun h => by simp at h
set_option maxRecDepth 100000 in
set_option maxHeartbeats 1000000 in
theorem alive_any (w : World) : Calls Try.prog 16 #[] w fun e w' => e = .returned (.bool true) ∧ Below w.heap.size w w' := by
  have kc := fun (w : World) (C : Array Value) (n c : Nat) => Lib.run_convert_bytes_const (P := Try.prog) w 22 5 C n c Try.underlying22 Try.underlying5
  obtain ⟨w1, e1⟩ : ∃ w1, w.alloc (.cells #[.int .u8 49, .int .u8 50, .int .u8 51, .int .u8 52, .int .u8 53, .int .u8 54, .int .u8 55, .int .u8 56, .int .u8 57] 5 (9, 10)) = w1 := ⟨_, rfl⟩
  have s1 : w.heap.size + 1 = w1.heap.size := by rw [← e1]; simp
  have b1 : Below w.heap.size w w1 := by rw [← e1]; exact (Below.refl _ _).alloc (Nat.le_refl _) _
  have H1 := Lib.hid (sum_any (some ⟨w.heap.size, 0, none⟩) 9 [49, 50, 51, 52, 53, 54, 55, 56, 57] 9 rfl w1 (by rw [← s1, ← e1]; exact rd_newF w .u8 5 [49, 50, 51, 52, 53, 54, 55, 56, 57] (9, 10)) (by simp) (by simp) (by simp))
  rw [sum_1to9] at H1
  go_enter Try.func16, Try.ntmps16
  go_wp2_with fail
  refine H1.out.mono ?_
  rintro e w2 ⟨rfl, hB2⟩
  clear e1 H1 kc
  have hB2' : Below w.heap.size w w2 := b1.trans (hB2.mono b1.size)
  clear hB2 b1 s1
  obtain ⟨i0, hi, hz0, hz1, hz2⟩ := info_parts Try.info5
  go_wp2_with (at_make; refine wpList_make_full _ rfl _ _ 22 rfl w2.heap.size 5 i0 (.int .u8 0) 1 Try.underlying22 hi hz0 hz1 _ _ _ _ 32 rfl rfl rfl rfl ?b2 ?b3 (Nat.le_refl _) ?_)
  case b2 => rw [hz2]; omega
  case b3 => unfold maxLen; omega
  intro w3 hown3 hg3
  have hB3 : Below w.heap.size w w3 := hB2'.grown hg3 hB2'.size (by simp)
  rw [made32] at hown3
  have hr3 := rd_own (xs := List.replicate 32 0) (k := .u8) hown3
  have H2 := Lib.hid (sum_any (some ⟨w2.heap.size, 0, none⟩) 32 (List.replicate 32 0) 32 rfl w3 hr3 (by simp) (by simp) (by simp))
  rw [sum_zeros] at H2
  clear hown3 hg3 hB2' hr3
  go_wp2_with fail
  refine H2.out.mono ?_
  rintro e w4 ⟨rfl, hB4⟩
  have hB4' : Below w.heap.size w w4 := hB3.trans (hB4.mono hB3.size)
  have H3 := Lib.hid (more_any 7 (by omega) none 0 [] 0 rfl w4 (rd_nil _ _ _) (by simp) (by simp) (by simp))
  rw [more_7] at H3
  clear H2 hB3 hB4
  go_wp2_with fail
  refine H3.out.mono ?_
  rintro e w5 ⟨rfl, hB5⟩
  have hB5' : Below w.heap.size w w5 := hB4'.trans (hB5.mono hB4'.size)
  clear H3 hB4' hB5
  go_wp2
  go_ret
  exact ⟨rfl, hB5'⟩
end Go.Proofs.Ytfjigfmjhfoecaa
