/- The walk of the statements' helper 'alive': some answers that the document fixes. -/
import Derived.Test.YtlkkmeeijjaeiaaH
namespace Go.Proofs.Ytlkkmeeijjaeiaa
open Go.RowKit
set_option linter.unusedVariables false
theorem put300 : putL 300 = [172, 2] := by rw [putL_big (by omega), putL_small (by omega)]; rfl
theorem getE_80 : getE [128, 0] = 5 := by decide
theorem item5 : putItemL 5 [1, -1] = [5, 2, 1, 255] := by
  unfold putItemL; rw [putL_small (by omega), putL_small (by simp)]; rfl
theorem itE_521 : itE [5, 2, 1] = 4 := by decide
theorem fold_m1 : foldS (-1) = 1 := by decide
theorem unfold_3 : unfoldS 3 = -2 := by decide
/-- A row in a new block reads as its numbers. -/
theorem rd_new (w : World) (k : IntKind) (t : TypeId) (xs : List Int) : Rd k (w.alloc (.cells (xs.map (Value.int k)).toArray t)) (w.heap.size + 1) (some ⟨w.heap.size, 0, none⟩) xs := fun _ => by
  refine ⟨w.heap.size, 0, rfl, by omega, fun i hi => ?_⟩
  rw [cell_of_row _ w.heap.size (0 + i) (xs.map (Value.int k)).toArray t (0, 0) (heap_alloc_new w _)]
  simp [List.getElem?_eq_getElem hi]
set_option maxRecDepth 100000 in
set_option maxHeartbeats 1000000 in
theorem alive_any (w : World) : Calls Try.prog 34 #[] w fun e w' => e = .returned (.bool true) ∧ Below w.heap.size w w' := by
  have P1 := Lib.hid (put_yes 300 (by omega) w)
  have P2 := Lib.hid (fun W => put_no 4611686018427387904 (by omega) W)
  go_enter Try.func34, Try.ntmps34
  go_wp2_with fail
  refine P1.out.mono ?_
  rintro e w1 ⟨g1, cap1, rfl, hown1, hB1⟩
  rw [put300] at hown1 ⊢
  clear P1
  go_wp2_with fail
  refine (P2.out w1).mono ?_
  rintro e w' ⟨rfl, rfl⟩
  clear P2
  have r1 := rd_own (xs := [172, 2]) hown1
  obtain ⟨w2, e2⟩ : ∃ w2, w1.alloc (.cells #[.int .u8 128, .int .u8 0] 5) = w2 := ⟨_, rfl⟩
  have s2 : w1.heap.size + 1 = w2.heap.size := by rw [← e2]; simp
  have b2 : Below w1.heap.size w1 w2 := by rw [← e2]; exact (Below.refl _ _).alloc (Nat.le_refl _) _
  have G := Lib.hid (get_any (some ⟨w1.heap.size, 0, none⟩) 2 [128, 0] 2 rfl w2 (w1.heap.size + 1) (by rw [← e2]; exact rd_new w1 .u8 5 [128, 0]) (by omega) (by simp) (by simp) (by simp))
  rw [getE_80] at G
  have hB2 : Below w.heap.size w w2 := hB1.trans (b2.mono hB1.size)
  have r2 := (r1.below b2).more (by omega : w1.heap.size ≤ w2.heap.size)
  clear hown1 r1 b2 s2 hB1
  go_wp2_with fail
  refine G.out.mono ?_
  rintro e w3 ⟨rfl, hB3⟩
  clear e2 G
  have r3 := (r2.below hB3).more hB3.size
  have hB3' : Below w.heap.size w w3 := hB2.trans (hB3.mono hB2.size)
  clear r2 hB2 hB3
  obtain ⟨w4, e4⟩ : ∃ w4, w3.alloc (.cells #[.int .i8 1, .int .i8 (-1)] 74) = w4 := ⟨_, rfl⟩
  have s4 : w3.heap.size + 1 = w4.heap.size := by rw [← e4]; simp
  have b4 : Below w3.heap.size w3 w4 := by rw [← e4]; exact (Below.refl _ _).alloc (Nat.le_refl _) _
  have PI := Lib.hid (putItem_yes 5 (some ⟨w3.heap.size, 0, none⟩) [1, -1] 2 2 rfl w4 (by omega) (by simp) (by simp) (by rw [← s4, ← e4]; exact rd_new w3 .i8 74 [1, -1]) (by simp))
  have r4 := (r3.below b4).more (by omega : w3.heap.size ≤ w4.heap.size)
  have hB4 : Below w.heap.size w w4 := hB3'.trans (b4.mono hB3'.size)
  clear r3 b4 hB3' s4
  go_wp2_with fail
  refine PI.out.mono ?_
  rintro e w5 ⟨g5, cap5, rfl, hown5, hB5⟩
  rw [item5] at hown5 ⊢
  clear e4 PI
  have r5 := (r4.below hB5).more hB5.size
  have q5 := rd_own (xs := [5, 2, 1, 255]) hown5
  have hB5' : Below w.heap.size w w5 := hB4.trans (hB5.mono hB4.size)
  clear r4 hB4 hB5 hown5
  obtain ⟨w6, e6⟩ : ∃ w6, w5.alloc (.cells #[.int .u8 5, .int .u8 2, .int .u8 1] 5) = w6 := ⟨_, rfl⟩
  have s6 : w5.heap.size + 1 = w6.heap.size := by rw [← e6]; simp
  have b6 : Below w5.heap.size w5 w6 := by rw [← e6]; exact (Below.refl _ _).alloc (Nat.le_refl _) _
  have GI := Lib.hid (getItem_bad (some ⟨w5.heap.size, 0, none⟩) 3 [5, 2, 1] 3 rfl w6 (by rw [← s6, ← e6]; exact rd_new w5 .u8 5 [5, 2, 1]) (by simp) (by simp) (by simp) (by rw [itE_521]; decide))
  rw [itE_521] at GI
  have r6 := (r5.below b6).more (by omega : w5.heap.size ≤ w6.heap.size)
  have q6 := (q5.below b6).more (by omega : w5.heap.size ≤ w6.heap.size)
  have hB6 : Below w.heap.size w w6 := hB5'.trans (b6.mono hB5'.size)
  clear r5 q5 b6 hB5' s6
  go_wp2_with fail
  refine GI.out.mono ?_
  rintro e w7 ⟨he, hB7⟩
  unfold itNo at he
  subst he
  clear e6 GI
  have r7 := (r6.below hB7).more hB7.size
  have q7 := (q6.below hB7).more hB7.size
  have hB7' : Below w.heap.size w w7 := hB6.trans (hB7.mono hB6.size)
  clear r6 q6 hB6 hB7
  obtain ⟨w8, e8⟩ : ∃ w8, w7.alloc (.cells #[.int .u64 0, .slice none 0 0] 54) = w8 := ⟨_, rfl⟩
  have b8 : Below w7.heap.size w7 w8 := by rw [← e8]; exact (Below.refl _ _).alloc (Nat.le_refl _) _
  have z8 : w8.heap.size = w7.heap.size + 1 := by rw [← e8]; simp
  have Z8 := Lib.hid z8
  obtain ⟨w9, e9⟩ : ∃ w9, w8.alloc (.cells #[.int .u8 172, .int .u8 2] 5) = w9 := ⟨_, rfl⟩
  have b9 : Below w8.heap.size w8 w9 := by rw [← e9]; exact (Below.refl _ _).alloc (Nat.le_refl _) _
  have z9 : w9.heap.size = w8.heap.size + 1 := by rw [← e9]; simp
  have r9 := (((r7.below b8).more b8.size).below b9).more b9.size
  have q9 := (((q7.below b8).more b8.size).below b9).more b9.size
  have hB9 : Below w.heap.size w w9 := (hB7'.trans (b8.mono hB7'.size)).trans (b9.mono (by have := hB7'.size; omega))
  have n9 : Rd .u8 w9 w9.heap.size (some ⟨w7.heap.size + 1, 0, none⟩) [172, 2] := by rw [z9, ← z8, ← e9]; exact rd_new w8 .u8 5 [172, 2]
  have S1 := Lib.hid (sameBytes_any (some ⟨g1, 0, none⟩) (some ⟨w7.heap.size + 1, 0, none⟩) cap1 2 [172, 2] 2 2 rfl rfl w9 w9.heap.size n9 r9 (by simp))
  have E8 := Lib.hid e8
  have E9 := Lib.hid e9
  clear b8 z8 b9 z9 r7 q7 hB7' n9 r9 e8 e9
  go_wp2_with fail
  rw [E8.out, E9.out]
  refine S1.out.mono ?_
  rintro e w' ⟨rfl, nq, rfl⟩
  clear S1 E8 E9 Z8
  have q10 : Rd .u8 (w9.drewN nq) (w9.drewN nq).heap.size (some ⟨g5, 0, none⟩) [5, 2, 1, 255] := q9
  have hB10 : Below w.heap.size w (w9.drewN nq) := below_drewN hB9 nq
  clear q9 hB9
  generalize w9.drewN nq = v0 at *
  obtain ⟨v1, e1⟩ : ∃ v1, v0.alloc (.cells #[.int .u8 5, .int .u8 2, .int .u8 1, .int .u8 255] 5) = v1 := ⟨_, rfl⟩
  have b1 : Below v0.heap.size v0 v1 := by rw [← e1]; exact (Below.refl _ _).alloc (Nat.le_refl _) _
  have z1 : v1.heap.size = v0.heap.size + 1 := by rw [← e1]; simp
  have n1 : Rd .u8 v1 v1.heap.size (some ⟨v0.heap.size, 0, none⟩) [5, 2, 1, 255] := by rw [z1, ← e1]; exact rd_new v0 .u8 5 [5, 2, 1, 255]
  have S2 := Lib.hid (sameBytes_any (some ⟨g5, 0, none⟩) (some ⟨v0.heap.size, 0, none⟩) cap5 4 [5, 2, 1, 255] 4 4 rfl rfl v1 v1.heap.size n1 ((q10.below b1).more b1.size) (by simp))
  have hBv : Below w.heap.size w v1 := hB10.trans (b1.mono hB10.size)
  clear q10 hB10 b1 z1 n1
  go_wp2_with fail
  refine S2.out.mono ?_
  rintro e w' ⟨rfl, nq2, rfl⟩
  clear e1 S2
  have hBu : Below w.heap.size w (v1.drewN nq2) := below_drewN hBv nq2
  clear hBv
  generalize v1.drewN nq2 = u at *
  have F1 := Lib.hid (fold_any (-1) (by omega) u)
  have F2 := Lib.hid (unfold_any 3 (by omega) u)
  rw [fold_m1] at F1
  rw [unfold_3] at F2
  go_wp2_with fail
  refine F1.out.mono ?_
  rintro e w' ⟨rfl, rfl⟩
  go_wp2_with fail
  refine F2.out.mono ?_
  rintro e w' ⟨rfl, rfl⟩
  go_wp2
  go_ret
  exact ⟨rfl, hBu⟩
end Go.Proofs.Ytlkkmeeijjaeiaa
