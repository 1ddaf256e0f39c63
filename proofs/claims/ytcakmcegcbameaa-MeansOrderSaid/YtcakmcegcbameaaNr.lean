/- What is asked of layer 7's Nearest; alive. -/
import Derived.Test.YtcakmcegcbameaaN2
namespace Go.Proofs.Ytcakmcegcbameaa
open Go.RowKit
set_option linter.unusedVariables false
def NearSpec : Prop := ∀ (A : Option Addr) (c : Nat) (L : List Vc) (B : Option Addr) (d : Nat) (v : List Int) (w : World), VArg w A L → NArg w B v →
  Calls Try.prog 13 #[.slice A L.length c, .slice B v.length d] w fun e w' => e = .returned (.tuple #[.int .i64 (nearA (vecs L) v), .int .i64 (errE (mayM (vecs L) [v]))]) ∧ Below w.heap.size w w'
/-- Literal lists of vectors of one number each. -/
theorem cell_lit {w : World} {o : Obj} {b i : Nat} {v : Value} (h : w.cell? ⟨b, i, none⟩ = some v) : (w.alloc o).cell? ⟨b, i, none⟩ = some v := (World.cell?_alloc_lt w o ⟨b, i, none⟩ (World.block_lt_of_cell? w _ h)).trans h
theorem lit_rd {w : World} {B b : Nat} {a : Int} (h : w.cell? ⟨b, 0, none⟩ = some (.int .i8 a)) (hB : b < B) : Rd .i8 w B (some ⟨b, 0, none⟩) [a] := fun _ => ⟨b, 0, rfl, hB, fun i hi => by
  obtain rfl : i = 0 := by simpa using hi
  exact h⟩
theorem lit3 {w : World} {g b1 b2 b3 : Nat} {a b c : Int} (hg : g < w.heap.size) (c1 : w.cell? ⟨g, 0, none⟩ = some (.slice (some ⟨b1, 0, none⟩) 1 1)) (c2 : w.cell? ⟨g, 1, none⟩ = some (.slice (some ⟨b2, 0, none⟩) 1 1)) (c3 : w.cell? ⟨g, 2, none⟩ = some (.slice (some ⟨b3, 0, none⟩) 1 1))
    (d1 : w.cell? ⟨b1, 0, none⟩ = some (.int .i8 a)) (d2 : w.cell? ⟨b2, 0, none⟩ = some (.int .i8 b)) (d3 : w.cell? ⟨b3, 0, none⟩ = some (.int .i8 c)) : RdV w w.heap.size (some ⟨g, 0, none⟩) [(some ⟨b1, 0, none⟩, 1, [a]), (some ⟨b2, 0, none⟩, 1, [b]), (some ⟨b3, 0, none⟩, 1, [c])] := fun _ => by
  refine ⟨g, 0, rfl, hg, fun i hi => ?_⟩
  have hi' : i < 3 := hi
  rw [Nat.zero_add]
  match i, hi' with
  | 0, _ => exact ⟨c1, lit_rd d1 (World.block_lt_of_cell? w _ d1)⟩
  | 1, _ => exact ⟨c2, lit_rd d2 (World.block_lt_of_cell? w _ d2)⟩
  | 2, _ => exact ⟨c3, lit_rd d3 (World.block_lt_of_cell? w _ d3)⟩
theorem lit2 {w : World} {g b1 b2 : Nat} {a b : Int} (hg : g < w.heap.size) (c1 : w.cell? ⟨g, 0, none⟩ = some (.slice (some ⟨b1, 0, none⟩) 1 1)) (c2 : w.cell? ⟨g, 1, none⟩ = some (.slice (some ⟨b2, 0, none⟩) 1 1))
    (d1 : w.cell? ⟨b1, 0, none⟩ = some (.int .i8 a)) (d2 : w.cell? ⟨b2, 0, none⟩ = some (.int .i8 b)) : RdV w w.heap.size (some ⟨g, 0, none⟩) [(some ⟨b1, 0, none⟩, 1, [a]), (some ⟨b2, 0, none⟩, 1, [b])] := fun _ => by
  refine ⟨g, 0, rfl, hg, fun i hi => ?_⟩
  have hi' : i < 2 := hi
  rw [Nat.zero_add]
  match i, hi' with
  | 0, _ => exact ⟨c1, lit_rd d1 (World.block_lt_of_cell? w _ d1)⟩
  | 1, _ => exact ⟨c2, lit_rd d2 (World.block_lt_of_cell? w _ d2)⟩
theorem lit1 {w : World} {g b1 : Nat} {a : Int} (hg : g < w.heap.size) (c1 : w.cell? ⟨g, 0, none⟩ = some (.slice (some ⟨b1, 0, none⟩) 1 1)) (d1 : w.cell? ⟨b1, 0, none⟩ = some (.int .i8 a)) : RdV w w.heap.size (some ⟨g, 0, none⟩) [(some ⟨b1, 0, none⟩, 1, [a])] := fun _ => by
  refine ⟨g, 0, rfl, hg, fun i hi => ?_⟩
  have hi' : i < 1 := hi
  rw [Nat.zero_add]
  match i, hi' with
  | 0, _ => exact ⟨c1, lit_rd d1 (World.block_lt_of_cell? w _ d1)⟩
theorem litArg {w : World} {A : Option Addr} {L : List Vc} (h : RdV w w.heap.size A L) (hs : L.length ≤ 3) (hv : ∀ v ∈ vecs L, v.length ≤ 1) (hb : B8 (vecs L)) : VArg w A L := ⟨h, by omega, fun v hv' => by have := hv v hv'; omega, hb⟩
set_option maxRecDepth 100000 in
set_option maxHeartbeats 4000000 in
theorem alive_any (hS : StepSpec) (hC : CostSpec) (hN : NearSpec) (hT : TrainSpec) (w : World) : Calls Try.prog 17 #[] w fun e w' => e = .returned (.bool true) ∧ Below w.heap.size w w' := by
  have HS := Lib.hid hS
  have HC := Lib.hid hC
  have HN := Lib.hid hN
  have HT := Lib.hid hT
  clear hS hC hN hT
  go_enter Try.func17, Try.ntmps17
  go_wp2_with fail
  refine (HS.out _ _ [(some ⟨w.heap.size, 0, none⟩, 1, [0]), (some ⟨w.heap.size + 1, 0, none⟩, 1, [10]), (some ⟨w.heap.size + 1 + 1, 0, none⟩, 1, [90])] _ _ [(some ⟨w.heap.size + 1 + 1 + 1 + 1, 0, none⟩, 1, [1]), (some ⟨w.heap.size + 1 + 1 + 1 + 1 + 1, 0, none⟩, 1, [3]), (some ⟨w.heap.size + 1 + 1 + 1 + 1 + 1 + 1, 0, none⟩, 1, [9])] _ (litArg (lit3 (by simp <;> omega) (by simp [go_sem]) (by simp [go_sem]) (by simp [go_sem]) (by simp [go_sem]) (by simp [go_sem]) (by simp [go_sem])) (by simp) (by simp [vecs]) (by intro v hv; simp [vecs] at hv; rcases hv with rfl | rfl | rfl <;> intro x hx <;> simp at hx <;> omega)) (litArg (lit3 (by simp <;> omega) (by simp [go_sem]) (by simp [go_sem]) (by simp [go_sem]) (by simp [go_sem]) (by simp [go_sem]) (by simp [go_sem])) (by simp) (by simp [vecs]) (by intro v hv; simp [vecs] at hv; rcases hv with rfl | rfl | rfl <;> intro x hx <;> simp at hx <;> omega))).mono ?_
  rintro e w1 ⟨A1, k1, L1, rfl, o1, p1, v1, b1⟩
  have E1 : errE (mayM (vecs [(some ⟨w.heap.size, 0, none⟩, 1, [0]), (some ⟨w.heap.size + 1, 0, none⟩, 1, [10]), (some ⟨w.heap.size + 1 + 1, 0, none⟩, 1, [90])]) (vecs [(some ⟨w.heap.size + 1 + 1 + 1 + 1, 0, none⟩, 1, [1]), (some ⟨w.heap.size + 1 + 1 + 1 + 1 + 1, 0, none⟩, 1, [3]), (some ⟨w.heap.size + 1 + 1 + 1 + 1 + 1 + 1, 0, none⟩, 1, [9])])) = 0 := show errE (mayM [[0], [10], [90]] [[1], [3], [9]]) = 0 by decide
  have V1 := Lib.hid (show vecs L1 = [[2], [9], [90]] from v1.trans (show stepA [[0], [10], [90]] [[1], [3], [9]] = [[2], [9], [90]] by decide))
  have cw1 : Below w.heap.size w w1 := Below.trans (by repeat (first | exact Below.refl _ _ | apply below_one)) (b1.mono (by simp <;> omega))
  have C1 := Lib.hid cw1
  have O1 := Lib.hid o1
  rw [E1]
  clear p1 v1 E1 b1 o1 cw1
  dsimp only
  go_wp2_with fail
  refine (HC.out _ _ [(some ⟨w1.heap.size, 0, none⟩, 1, [0]), (some ⟨w1.heap.size + 1, 0, none⟩, 1, [10])] _ _ [(some ⟨w1.heap.size + 1 + 1 + 1, 0, none⟩, 1, [1]), (some ⟨w1.heap.size + 1 + 1 + 1 + 1, 0, none⟩, 1, [9]), (some ⟨w1.heap.size + 1 + 1 + 1 + 1 + 1, 0, none⟩, 1, [5])] _ (litArg (lit2 (by simp <;> omega) (by simp [go_sem]) (by simp [go_sem]) (by simp [go_sem]) (by simp [go_sem])) (by simp) (by simp [vecs]) (by intro v hv; simp [vecs] at hv; rcases hv with rfl | rfl <;> intro x hx <;> simp at hx <;> omega)) (litArg (lit3 (by simp <;> omega) (by simp [go_sem]) (by simp [go_sem]) (by simp [go_sem]) (by simp [go_sem]) (by simp [go_sem]) (by simp [go_sem])) (by simp) (by simp [vecs]) (by intro v hv; simp [vecs] at hv; rcases hv with rfl | rfl | rfl <;> intro x hx <;> simp at hx <;> omega))).mono ?_
  rintro e w2 ⟨rfl, b2⟩
  have E2 : errE (mayM (vecs [(some ⟨w1.heap.size, 0, none⟩, 1, [0]), (some ⟨w1.heap.size + 1, 0, none⟩, 1, [10])]) (vecs [(some ⟨w1.heap.size + 1 + 1 + 1, 0, none⟩, 1, [1]), (some ⟨w1.heap.size + 1 + 1 + 1 + 1, 0, none⟩, 1, [9]), (some ⟨w1.heap.size + 1 + 1 + 1 + 1 + 1, 0, none⟩, 1, [5])])) = 0 := show errE (mayM [[0], [10]] [[1], [9], [5]]) = 0 by decide
  have F2 : costA (vecs [(some ⟨w1.heap.size, 0, none⟩, 1, [0]), (some ⟨w1.heap.size + 1, 0, none⟩, 1, [10])]) (vecs [(some ⟨w1.heap.size + 1 + 1 + 1, 0, none⟩, 1, [1]), (some ⟨w1.heap.size + 1 + 1 + 1 + 1, 0, none⟩, 1, [9]), (some ⟨w1.heap.size + 1 + 1 + 1 + 1 + 1, 0, none⟩, 1, [5])]) = 27 := show costA [[0], [10]] [[1], [9], [5]] = 27 by decide
  have cw2 : Below w1.heap.size w1 w2 := Below.trans (by repeat (first | exact Below.refl _ _ | apply below_one)) (b2.mono (by simp <;> omega))
  have O2 := Lib.hid (O1.out.below cw2)
  have C2 := Lib.hid (C1.out.trans (cw2.mono C1.out.size))
  rw [E2, F2]
  clear E2 F2 b2 cw2 O1 C1
  dsimp only
  go_wp2_with fail
  refine (HN.out _ _ [(some ⟨w2.heap.size, 0, none⟩, 1, [0]), (some ⟨w2.heap.size + 1, 0, none⟩, 1, [10])] (some ⟨w2.heap.size + 1 + 1 + 1, 0, none⟩) _ [5] _ (litArg (lit2 (by simp <;> omega) (by simp [go_sem]) (by simp [go_sem]) (by simp [go_sem]) (by simp [go_sem])) (by simp) (by simp [vecs]) (by intro v hv; simp [vecs] at hv; rcases hv with rfl | rfl <;> intro x hx <;> simp at hx <;> omega)) ⟨lit_rd (by simp [go_sem]) (by simp <;> omega), by simp, by intro x hx; simp at hx; omega⟩).mono ?_
  rintro e w3 ⟨rfl, b3⟩
  have E3 : errE (mayM (vecs [(some ⟨w2.heap.size, 0, none⟩, 1, [0]), (some ⟨w2.heap.size + 1, 0, none⟩, 1, [10])]) [[5]]) = 0 := show errE (mayM [[0], [10]] [[5]]) = 0 by decide
  have F3 : nearA (vecs [(some ⟨w2.heap.size, 0, none⟩, 1, [0]), (some ⟨w2.heap.size + 1, 0, none⟩, 1, [10])]) [5] = 0 := show nearA [[0], [10]] [5] = 0 by decide
  have cw3 : Below w2.heap.size w2 w3 := Below.trans (by repeat (first | exact Below.refl _ _ | apply below_one)) (b3.mono (by simp <;> omega))
  have O3 := Lib.hid (O2.out.below cw3)
  have C3 := Lib.hid (C2.out.trans (cw3.mono C2.out.size))
  rw [E3, F3]
  clear E3 F3 b3 cw3 O2 C2
  dsimp only
  go_wp2_with fail
  refine (HT.out _ _ [(some ⟨w3.heap.size, 0, none⟩, 1, [1]), (some ⟨w3.heap.size + 1, 0, none⟩, 1, [3]), (some ⟨w3.heap.size + 1 + 1, 0, none⟩, 1, [9])] 1 1 7 _ (litArg (lit3 (by simp <;> omega) (by simp [go_sem]) (by simp [go_sem]) (by simp [go_sem]) (by simp [go_sem]) (by simp [go_sem]) (by simp [go_sem])) (by simp) (by simp [vecs]) (by intro v hv; simp [vecs] at hv; rcases hv with rfl | rfl | rfl <;> intro x hx <;> simp at hx <;> omega)) (by decide)).mono ?_
  rintro e w4 ⟨A4, k4, L4, rfl, o4, p4, v4, b4⟩
  have E4 : errE (mayTB (vecs [(some ⟨w3.heap.size, 0, none⟩, 1, [1]), (some ⟨w3.heap.size + 1, 0, none⟩, 1, [3]), (some ⟨w3.heap.size + 1 + 1, 0, none⟩, 1, [9])]) 1 1) = 0 := show errE (mayTB [[1], [3], [9]] 1 1) = 0 by decide
  have V4 := Lib.hid (show vecs L4 = [[4]] from v4.trans (show trainA [[1], [3], [9]] 1 1 7 = [[4]] by decide))
  have cw4 : Below w3.heap.size w3 w4 := Below.trans (by repeat (first | exact Below.refl _ _ | apply below_one)) (b4.mono (by simp <;> omega))
  have P4 := Lib.hid o4
  have O4 := Lib.hid (O3.out.below cw4)
  have C4 := Lib.hid (C3.out.trans (cw4.mono C3.out.size))
  rw [E4]
  clear p4 v4 E4 b4 o4 cw4 O3 C3
  dsimp only
  go_wp2_with fail
  refine (HT.out _ _ [(some ⟨w4.heap.size, 0, none⟩, 1, [1]), (some ⟨w4.heap.size + 1, 0, none⟩, 1, [3])] 3 1 7 _ (litArg (lit2 (by simp <;> omega) (by simp [go_sem]) (by simp [go_sem]) (by simp [go_sem]) (by simp [go_sem])) (by simp) (by simp [vecs]) (by intro v hv; simp [vecs] at hv; rcases hv with rfl | rfl <;> intro x hx <;> simp at hx <;> omega)) (by decide)).mono ?_
  rintro e w5 ⟨A5, k5, L5, rfl, o5, p5, v5, b5⟩
  have E5 : errE (mayTB (vecs [(some ⟨w4.heap.size, 0, none⟩, 1, [1]), (some ⟨w4.heap.size + 1, 0, none⟩, 1, [3])]) 3 1) = 1 := show errE (mayTB [[1], [3]] 3 1) = 1 by decide
  have cw5 : Below w4.heap.size w4 w5 := Below.trans (by repeat (first | exact Below.refl _ _ | apply below_one)) (b5.mono (by simp <;> omega))
  have P5 := Lib.hid (P4.out.below cw5)
  have O5 := Lib.hid (O4.out.below cw5)
  have C5 := Lib.hid (C4.out.trans (cw5.mono C4.out.size))
  rw [E5]
  clear p5 v5 E5 b5 o5 cw5 O4 C4 P4 HS HC HN HT
  dsimp only
  have A5' := Lib.hid (argOf O5.out V1.out (by simp) (by intro v hv; simp at hv; rcases hv with rfl | rfl | rfl <;> simp) (by intro v hv; simp at hv; rcases hv with rfl | rfl | rfl <;> intro x hx <;> simp at hx <;> omega))
  have D5' := Lib.hid (argOf P5.out V4.out (by simp) (by intro v hv; simp at hv; rcases hv with rfl <;> simp) (by intro v hv; simp at hv; rcases hv with rfl <;> intro x hx <;> simp at hx <;> omega))
  clear O5 P5
  go_wp2_with fail
  refine (same_arg _ _ L1 _ 3 [(some ⟨w5.heap.size, 0, none⟩, 1, [2]), (some ⟨w5.heap.size + 1, 0, none⟩, 1, [9]), (some ⟨w5.heap.size + 1 + 1, 0, none⟩, 1, [90])] _ (A5'.out.below (by repeat (first | exact Below.refl _ _ | apply below_one))) (litArg (lit3 (by simp <;> omega) (by simp [go_sem]) (by simp [go_sem]) (by simp [go_sem]) (by simp [go_sem]) (by simp [go_sem]) (by simp [go_sem])) (by simp) (by simp [vecs]) (by intro v hv; simp [vecs] at hv; rcases hv with rfl | rfl | rfl <;> intro x hx <;> simp at hx <;> omega))).mono ?_
  rintro e w6 ⟨rfl, b6⟩
  have E6 : decide (vecs L1 = vecs [(some ⟨w5.heap.size, 0, none⟩, 1, [2]), (some ⟨w5.heap.size + 1, 0, none⟩, 1, [9]), (some ⟨w5.heap.size + 1 + 1, 0, none⟩, 1, [90])]) = true := decide_eq_true V1.out
  have cw6 : Below w5.heap.size w5 w6 := Below.trans (by repeat (first | exact Below.refl _ _ | apply below_one)) (b6.mono (by simp <;> omega))
  have D6 := Lib.hid (D5'.out.below cw6)
  have C6 := Lib.hid (C5.out.trans (cw6.mono C5.out.size))
  rw [E6]
  clear E6 b6 cw6 A5' D5' C5
  dsimp only
  go_wp2_with fail
  refine (same_arg _ _ L4 _ 1 [(some ⟨w6.heap.size, 0, none⟩, 1, [4])] _ (D6.out.below (by repeat (first | exact Below.refl _ _ | apply below_one))) (litArg (lit1 (by simp <;> omega) (by simp [go_sem]) (by simp [go_sem])) (by simp) (by simp [vecs]) (by intro v hv; simp [vecs] at hv; rcases hv with rfl <;> intro x hx <;> simp at hx <;> omega))).mono ?_
  rintro e w7 ⟨rfl, b7⟩
  have E7 : decide (vecs L4 = vecs [(some ⟨w6.heap.size, 0, none⟩, 1, [4])]) = true := decide_eq_true V4.out
  have cw7 : Below w6.heap.size w6 w7 := Below.trans (by repeat (first | exact Below.refl _ _ | apply below_one)) (b7.mono (by simp <;> omega))
  have C7 := Lib.hid (C6.out.trans (cw7.mono C6.out.size))
  rw [E7]
  clear E7 b7 cw7 D6 C6
  dsimp only
  go_wp2
  go_ret
  exact ⟨rfl, C7.out⟩
end Go.Proofs.Ytcakmcegcbameaa
