/- Pruning: some answers that the document fixes (alive). -/
import Derived.Test.YtjdidlbmgnfcdaaUi
import Derived.Test.YtjdidlbmgnfcdaaBs
import Derived.Deep.Cut
namespace Go.Proofs.Ytjdidlbmgnfcdaa
open Go.RowKit
set_option linter.unusedVariables false
set_option linter.unusedSimpArgs false
def pG : List Pn := [(0, [0], []), (1, [1], []), (2, [2], []), (3, [-3], [])]
theorem pG_check : checkB pG 0 1 2 1 1 1 = true := by decide +kernel
theorem pG_small : GSmall pG := ⟨by decide +kernel, .inl (by decide)⟩
theorem pG_ok : ∀ x ∈ pG, PnOk x := by
  intro x hx
  simp [pG] at hx
  rcases hx with rfl | rfl | rfl | rfl <;> (unfold PnOk; simp)
theorem pG_k1 : keepA pG 0 1 2 1 1 1 0 [3, 2, 1, 1, 0] = [1, 3] := by decide +kernel
theorem pG_b1 : keepB pG 0 1 2 1 1 1 0 [3, 2, 1, 1, 0] = true := by decide +kernel
theorem pG_k2 : keepA pG 0 1 2 1 1 1 3 [0, 1, 2] = [0] := by decide +kernel
theorem pG_b2 : keepB pG 0 1 2 1 1 1 3 [0, 1, 2] = true := by decide +kernel
theorem pG_k3 : keepA pG 0 1 2 1 1 1 0 [9] = [] := by decide +kernel
theorem pG_b3 : keepB pG 0 1 2 1 1 1 0 [9] = false := by decide +kernel
theorem pG_d1 : domB pG 0 1 2 1 1 1 0 1 2 = true := by decide +kernel
theorem pG_a1 : askB pG 0 1 2 1 1 1 0 [1, 2] = true := by decide +kernel
theorem pG_d2 : domB pG 0 1 2 1 1 1 0 1 3 = false := by decide +kernel
theorem pG_a2 : askB pG 0 1 2 1 1 1 0 [1, 3] = true := by decide +kernel
theorem litQ8 {w : World} {B b : Nat} {a : Int} (h : w.cell? ⟨b, 0, none⟩ = some (.int .i8 a)) (hB : b < B) : Rd .i8 w B (some ⟨b, 0, none⟩) [a] := fun _ => ⟨b, 0, rfl, hB, fun i hi => by
  obtain rfl : i = 0 := by simpa using hi
  exact h⟩
/-- The chapter's graph, and its setup, as they were made. -/
def aliveW (w : World) : World := (((((((w.alloc (.cells #[.int .i8 0] 66)).alloc (.cells #[.int .i8 1] 66)).alloc (.cells #[.int .i8 2] 66)).alloc (.cells #[.int .i8 (-3)] 66)).alloc (.cells #[.int .u64 0, .slice (some ⟨w.heap.size, 0, none⟩) 1 1, .slice none 0 0, .int .u64 1, .slice (some ⟨w.heap.size + 1, 0, none⟩) 1 1, .slice none 0 0, .int .u64 2, .slice (some ⟨w.heap.size + 1 + 1, 0, none⟩) 1 1, .slice none 0 0, .int .u64 3, .slice (some ⟨w.heap.size + 1 + 1 + 1, 0, none⟩) 1 1, .slice none 0 0] 37)).alloc (.cells #[.slice (some ⟨w.heap.size + 1 + 1 + 1 + 1, 0, none⟩) 4 4, .int .i64 0] 24)).alloc (.cells #[.int .i64 1, .int .i64 2, .int .i64 1, .int .i64 1, .int .i64 1] 26))
structure PgG (w : World) (A : Option Addr) (L : List Gn) : Prop where
  rd : RdG w w.heap.size A L
  hv : pns L = pG
  room : ∀ x ∈ L, x.2.2.2.2.length ≤ x.2.2.2.1
theorem PgG.below {w w' : World} {A : Option Addr} {L : List Gn} (h : PgG w A L) (hb : Below w.heap.size w w') : PgG w' A L := ⟨(h.rd.below hb).more hb.size, h.hv, h.room⟩
theorem PgG.len {w : World} {A : Option Addr} {L : List Gn} (h : PgG w A L) : L.length = 4 := by have := pns_len L; rw [h.hv] at this; exact this.symm
theorem PgG.arg {w : World} {A : Option Addr} {L : List Gn} (h : PgG w A L) : GArg w A L := ⟨h.rd, by rw [h.hv]; exact pG_small, by rw [h.hv]; exact pG_ok⟩
set_option maxRecDepth 100000 in
theorem aliveW_is (w : World) : (∃ L, PgG (aliveW w) (some ⟨w.heap.size + 1 + 1 + 1 + 1, 0, none⟩) L) ∧ Below w.heap.size w (aliveW w) ∧ Whole (aliveW w) (w.heap.size + 1 + 1 + 1 + 1 + 1) 24 #[.slice (some ⟨w.heap.size + 1 + 1 + 1 + 1, 0, none⟩) 4 4, .int .i64 0] ∧ Whole (aliveW w) (w.heap.size + 1 + 1 + 1 + 1 + 1 + 1) 26 #[.int .i64 1, .int .i64 2, .int .i64 1, .int .i64 1, .int .i64 1] := by
  unfold aliveW
  refine ⟨⟨[(0, (some ⟨w.heap.size, 0, none⟩, 1, [0]), (none, 0, [])), (1, (some ⟨w.heap.size + 1, 0, none⟩, 1, [1]), (none, 0, [])), (2, (some ⟨w.heap.size + 1 + 1, 0, none⟩, 1, [2]), (none, 0, [])), (3, (some ⟨w.heap.size + 1 + 1 + 1, 0, none⟩, 1, [-3]), (none, 0, []))], fun _ => ⟨_, 0, rfl, ?_, fun i hi => ?_⟩, rfl, ?_⟩, ?_, ?_, ?_⟩
  · simp [go_sem] <;> omega
  · have hi' : i < 4 := hi
    match i, hi' with
    | 0, _ => exact ⟨by simp [go_sem], by simp [go_sem], by simp [go_sem], litQ8 (by simp [go_sem]) (by simp [go_sem] <;> omega), fun h => absurd h (Nat.not_lt_zero _)⟩
    | 1, _ => exact ⟨by simp [go_sem], by simp [go_sem], by simp [go_sem], litQ8 (by simp [go_sem]) (by simp [go_sem] <;> omega), fun h => absurd h (Nat.not_lt_zero _)⟩
    | 2, _ => exact ⟨by simp [go_sem], by simp [go_sem], by simp [go_sem], litQ8 (by simp [go_sem]) (by simp [go_sem] <;> omega), fun h => absurd h (Nat.not_lt_zero _)⟩
    | 3, _ => exact ⟨by simp [go_sem], by simp [go_sem], by simp [go_sem], litQ8 (by simp [go_sem]) (by simp [go_sem] <;> omega), fun h => absurd h (Nat.not_lt_zero _)⟩
  · intro x hx
    simp at hx
    rcases hx with rfl | rfl | rfl | rfl <;> simp
  · exact below_one (below_one (below_one (below_one (below_one (below_one (below_one (Below.refl _ _) _) _) _) _) _) _) _
  · refine Whole.alloc ?_ _
    have := Whole.new ((((((w.alloc (.cells #[.int .i8 0] 66)).alloc (.cells #[.int .i8 1] 66)).alloc (.cells #[.int .i8 2] 66)).alloc (.cells #[.int .i8 (-3)] 66)).alloc (.cells #[.int .u64 0, .slice (some ⟨w.heap.size, 0, none⟩) 1 1, .slice none 0 0, .int .u64 1, .slice (some ⟨w.heap.size + 1, 0, none⟩) 1 1, .slice none 0 0, .int .u64 2, .slice (some ⟨w.heap.size + 1 + 1, 0, none⟩) 1 1, .slice none 0 0, .int .u64 3, .slice (some ⟨w.heap.size + 1 + 1 + 1, 0, none⟩) 1 1, .slice none 0 0] 37))) 24 #[.slice (some ⟨w.heap.size + 1 + 1 + 1 + 1, 0, none⟩) 4 4, .int .i64 0]
    simpa only [World.size_alloc] using this
  · have := Whole.new (((((((w.alloc (.cells #[.int .i8 0] 66)).alloc (.cells #[.int .i8 1] 66)).alloc (.cells #[.int .i8 2] 66)).alloc (.cells #[.int .i8 (-3)] 66)).alloc (.cells #[.int .u64 0, .slice (some ⟨w.heap.size, 0, none⟩) 1 1, .slice none 0 0, .int .u64 1, .slice (some ⟨w.heap.size + 1, 0, none⟩) 1 1, .slice none 0 0, .int .u64 2, .slice (some ⟨w.heap.size + 1 + 1, 0, none⟩) 1 1, .slice none 0 0, .int .u64 3, .slice (some ⟨w.heap.size + 1 + 1 + 1, 0, none⟩) 1 1, .slice none 0 0] 37)).alloc (.cells #[.slice (some ⟨w.heap.size + 1 + 1 + 1 + 1, 0, none⟩) 4 4, .int .i64 0] 24))) 26 #[.int .i64 1, .int .i64 2, .int .i64 1, .int .i64 1, .int .i64 1]
    simpa only [World.size_alloc] using this
theorem litsQ (w : World) (xs : List Int) : Rd .i64 (w.alloc (.cells (xs.map (Value.int .i64)).toArray 3)) (w.alloc (.cells (xs.map (Value.int .i64)).toArray 3)).heap.size (some ⟨w.heap.size, 0, none⟩) xs := by
  have := rd_newF w .i64 3 xs (0, 0)
  rw [World.size_alloc]; exact this
theorem own_rdU {w : World} {base n c : Nat} {e : TypeId} {A : Option Addr} {k : IntKind} {xs : List Int} (h : w.ownsRow base e 1 (.slice A n c) n (xs.map (Value.int k))) : Rd k w w.heap.size A xs := by
  obtain ⟨A', c', hv, _, _, hrd, _⟩ := own_slice h
  injection hv with q1 q2 q3
  rw [q1]; exact hrd
/-- An answer that is a list of two, or one. -/
def Ans2 (w : World) (n : Nat) (xs : List Value) (E : Int) (e : Ending) (w' : World) : Prop := ∃ V c, e = .returned (.tuple #[.slice V n c, .int .i64 E]) ∧ w'.ownsRow w.heap.size 3 1 (.slice V n c) n xs ∧ Below w.heap.size w w'
theorem keep1Q {w : World} {A : Option Addr} {L : List Gn} (h : PgG w A L) : Calls Try.prog 19 #[.agg #[.slice A 4 4, .int .i64 0], .agg #[.int .i64 1, .int .i64 2, .int .i64 1, .int .i64 1, .int .i64 1], .int .i64 0, .slice (some ⟨w.heap.size, 0, none⟩) 5 5] (w.alloc (.cells #[.int .i64 3, .int .i64 2, .int .i64 1, .int .i64 1, .int .i64 0] 3)) (Ans2 (w.alloc (.cells #[.int .i64 3, .int .i64 2, .int .i64 1, .int .i64 1, .int .i64 0] 3)) 2 [.int .i64 1, .int .i64 3] 0) := by
  have h2 := h.below (below_one (Below.refl _ _) (.cells #[.int .i64 3, .int .i64 2, .int .i64 1, .int .i64 1, .int .i64 0] 3))
  have := keep_any A 4 L 0 1 2 1 1 1 0 (some ⟨w.heap.size, 0, none⟩) 5 [3, 2, 1, 1, 0] _ h2.arg h2.room (litsQ w [3, 2, 1, 1, 0]) (by simp)
  rw [h.len, h.hv, pG_k1, pG_b1] at this
  exact this
theorem keep2Q {w : World} {A : Option Addr} {L : List Gn} (h : PgG w A L) : Calls Try.prog 19 #[.agg #[.slice A 4 4, .int .i64 0], .agg #[.int .i64 1, .int .i64 2, .int .i64 1, .int .i64 1, .int .i64 1], .int .i64 3, .slice (some ⟨w.heap.size, 0, none⟩) 3 3] (w.alloc (.cells #[.int .i64 0, .int .i64 1, .int .i64 2] 3)) (Ans2 (w.alloc (.cells #[.int .i64 0, .int .i64 1, .int .i64 2] 3)) 1 [.int .i64 0] 0) := by
  have h2 := h.below (below_one (Below.refl _ _) (.cells #[.int .i64 0, .int .i64 1, .int .i64 2] 3))
  have := keep_any A 4 L 0 1 2 1 1 1 3 (some ⟨w.heap.size, 0, none⟩) 3 [0, 1, 2] _ h2.arg h2.room (litsQ w [0, 1, 2]) (by simp)
  rw [h.len, h.hv, pG_k2, pG_b2] at this
  exact this
theorem keep3Q {w : World} {A : Option Addr} {L : List Gn} (h : PgG w A L) : Calls Try.prog 19 #[.agg #[.slice A 4 4, .int .i64 0], .agg #[.int .i64 1, .int .i64 2, .int .i64 1, .int .i64 1, .int .i64 1], .int .i64 0, .slice (some ⟨w.heap.size, 0, none⟩) 1 1] (w.alloc (.cells #[.int .i64 9] 3)) (Ans2 (w.alloc (.cells #[.int .i64 9] 3)) 0 [] 1) := by
  have h2 := h.below (below_one (Below.refl _ _) (.cells #[.int .i64 9] 3))
  have := keep_any A 4 L 0 1 2 1 1 1 0 (some ⟨w.heap.size, 0, none⟩) 1 [9] _ h2.arg h2.room (litsQ w [9]) (by simp)
  rw [h.len, h.hv, pG_k3, pG_b3] at this
  exact this
theorem domin1Q {w : World} {A : Option Addr} {L : List Gn} (h : PgG w A L) : Calls Try.prog 15 #[.agg #[.slice A 4 4, .int .i64 0], .agg #[.int .i64 1, .int .i64 2, .int .i64 1, .int .i64 1, .int .i64 1], .int .i64 0, .int .i64 1, .int .i64 2] w fun e w' => e = .returned (.tuple #[.bool true, .int .i64 0]) ∧ Below w.heap.size w w' := by
  have := dominQ_any A 4 L 0 1 2 1 1 1 0 1 2 w h.arg h.room
  rw [h.len, h.hv, pG_d1, pG_a1] at this
  exact this
theorem domin2Q {w : World} {A : Option Addr} {L : List Gn} (h : PgG w A L) : Calls Try.prog 15 #[.agg #[.slice A 4 4, .int .i64 0], .agg #[.int .i64 1, .int .i64 2, .int .i64 1, .int .i64 1, .int .i64 1], .int .i64 0, .int .i64 1, .int .i64 3] w fun e w' => e = .returned (.tuple #[.bool false, .int .i64 0]) ∧ Below w.heap.size w w' := by
  have := dominQ_any A 4 L 0 1 2 1 1 1 0 1 3 w h.arg h.room
  rw [h.len, h.hv, pG_d2, pG_a2] at this
  exact this
set_option maxRecDepth 100000 in
set_option maxHeartbeats 4000000 in
theorem aliveQ_any (w : World) : Calls Try.prog 18 #[] w fun e w' => e = .returned (.bool true) ∧ Below w.heap.size w w' := by
  obtain ⟨⟨L, hg⟩, hb, hz, hy⟩ := aliveW_is w
  have HB := Lib.hid hb
  have HGG := Lib.hid hg
  have HZ := Lib.hid hz
  have HY := Lib.hid hy
  clear hg hb hz hy
  go_enter Try.func18, Try.ntmps18
  go_upto_region 3 with fail
  obtain ⟨w1, ew1⟩ : ∃ w1, aliveW w = w1 := ⟨_, rfl⟩
  rw [ew1] at HB HGG HZ HY
  unfold aliveW at ew1
  rw [ew1]
  obtain ⟨h4, eh4⟩ : ∃ h, w.heap.size + 1 + 1 + 1 + 1 = h := ⟨_, rfl⟩
  rw [eh4] at HGG HZ HY ⊢
  clear ew1
  have HCL : Hid (∀ W, Below w1.heap.size w1 W → (W.cell? ⟨h4 + 1, 0, none⟩ = some (.slice (some ⟨h4, 0, none⟩) 4 4) ∧ W.cell? ⟨h4 + 1, 1, none⟩ = some (.int .i64 0)) ∧ W.cell? ⟨h4 + 1 + 1, 0, none⟩ = some (.int .i64 1) ∧ W.cell? ⟨h4 + 1 + 1, 1, none⟩ = some (.int .i64 2) ∧ W.cell? ⟨h4 + 1 + 1, 2, none⟩ = some (.int .i64 1) ∧ W.cell? ⟨h4 + 1 + 1, 3, none⟩ = some (.int .i64 1) ∧ W.cell? ⟨h4 + 1 + 1, 4, none⟩ = some (.int .i64 1)) := Lib.hid (fun W h => by
    have z := HZ.out.below h HZ.out.lt
    have y := HY.out.below h HY.out.lt
    exact ⟨⟨z.cell 0, z.cell 1⟩, y.cell 0, y.cell 1, y.cell 2, y.cell 3, y.cell 4⟩)
  obtain ⟨⟨y0, y1⟩, q0, q1, q2, q3, q4⟩ := HCL.out _ (Below.refl _ _)
  go_wp2_with fail
  refine (keep1Q HGG.out).mono ?_
  rintro e w2 ⟨V2, c2, rfl, o2, b2⟩
  dsimp only
  have b12 : Below w1.heap.size w1 w2 := (below_one (Below.refl _ _) _).trans (b2.mono (by rw [World.size_alloc]; omega))
  have HB2 := Lib.hid b12
  have HO2 := Lib.hid o2
  clear y0 y1 q0 q1 q2 q3 q4 b2 o2 b12
  obtain ⟨⟨y0, y1⟩, q0, q1, q2, q3, q4⟩ := HCL.out _ HB2.out
  go_wp2_with fail
  refine (keep2Q (HGG.out.below HB2.out)).mono ?_
  rintro e w3 ⟨V3, c3, rfl, o3, b3⟩
  dsimp only
  have b23 : Below w2.heap.size w2 w3 := (below_one (Below.refl _ _) _).trans (b3.mono (by rw [World.size_alloc]; omega))
  have HO3 := Lib.hid o3
  have HO2' := Lib.hid (own_below HO2.out b23)
  have HB3 := Lib.hid (HB2.out.trans (b23.mono HB2.out.size))
  clear y0 y1 q0 q1 q2 q3 q4 b3 o3 b23 HO2
  obtain ⟨⟨y0, y1⟩, q0, q1, q2, q3, q4⟩ := HCL.out _ HB3.out
  go_wp2_with fail
  refine (domin1Q (HGG.out.below HB3.out)).mono ?_
  rintro e w4 ⟨rfl, b4⟩
  dsimp only
  have HO34 := Lib.hid (own_below HO3.out b4)
  have HO24 := Lib.hid (own_below HO2'.out b4)
  have HB4 := Lib.hid (HB3.out.trans (b4.mono HB3.out.size))
  clear y0 y1 q0 q1 q2 q3 q4 b4 HO3 HO2'
  obtain ⟨⟨y0, y1⟩, q0, q1, q2, q3, q4⟩ := HCL.out _ HB4.out
  go_wp2_with fail
  refine (domin2Q (HGG.out.below HB4.out)).mono ?_
  rintro e w5 ⟨rfl, b5⟩
  dsimp only
  have HO35 := Lib.hid (own_below HO34.out b5)
  have HO25 := Lib.hid (own_below HO24.out b5)
  have HB5 := Lib.hid (HB4.out.trans (b5.mono HB4.out.size))
  clear y0 y1 q0 q1 q2 q3 q4 b5 HO34 HO24
  obtain ⟨⟨y0, y1⟩, q0, q1, q2, q3, q4⟩ := HCL.out _ HB5.out
  go_wp2_with fail
  refine (keep3Q (HGG.out.below HB5.out)).mono ?_
  rintro e w6 ⟨V6, c6, rfl, o6, b6⟩
  dsimp only
  have b56 : Below w5.heap.size w5 w6 := (below_one (Below.refl _ _) _).trans (b6.mono (by rw [World.size_alloc]; omega))
  have HO36 := Lib.hid (own_below HO35.out b56)
  have HO26 := Lib.hid (own_below HO25.out b56)
  have HB6 := Lib.hid (HB5.out.trans (b56.mono HB5.out.size))
  clear y0 y1 q0 q1 q2 q3 q4 b6 b56 o6 HO35 HO25
  have eq1 : eqZ [1, 3] [1, 3] = true := by decide
  have eq2 : eqZ [0] [0] = true := by decide
  have bl : Below w6.heap.size w6 (w6.alloc (.cells #[.int .i64 1, .int .i64 3] 3)) := below_one (Below.refl _ _) _
  have S1 := sameZ_any V2 (some ⟨w6.heap.size, 0, none⟩) c2 2 [1, 3] [1, 3] (w6.alloc (.cells #[.int .i64 1, .int .i64 3] 3)) _ (own_rdU (xs := [1, 3]) (own_below HO26.out bl)) (litsQ w6 [1, 3]) (by simp) (by simp)
  rw [eq1] at S1
  have HBL := Lib.hid bl
  clear bl eq1
  go_wp2_with fail
  refine S1.mono ?_
  rintro e w7 ⟨rfl, nq, rfl⟩
  dsimp only
  obtain ⟨w7, ew7⟩ : ∃ w7, (w6.alloc (.cells #[.int .i64 1, .int .i64 3] 3)).drewN nq = w7 := ⟨_, rfl⟩
  have b67 : Below w6.heap.size w6 w7 := by rw [← ew7]; exact below_drewN HBL.out nq
  rw [ew7]
  have bl : Below w7.heap.size w7 (w7.alloc (.cells #[.int .i64 0] 3)) := below_one (Below.refl _ _) _
  have S2 := sameZ_any V3 (some ⟨w7.heap.size, 0, none⟩) c3 1 [0] [0] (w7.alloc (.cells #[.int .i64 0] 3)) _ (own_rdU (xs := [0]) (own_below (own_below HO36.out b67) bl)) (litsQ w7 [0]) (by simp) (by simp)
  rw [eq2] at S2
  have HB7 := Lib.hid (HB6.out.trans (b67.mono HB6.out.size))
  have HBL7 := Lib.hid bl
  clear bl eq2 ew7 b67 S1
  go_wp2_with fail
  refine S2.mono ?_
  rintro e w8 ⟨rfl, nq2, rfl⟩
  dsimp only
  go_wp2
  go_ret
  exact ⟨rfl, HB.out.trans ((HB7.out.trans ((below_drewN HBL7.out nq2).mono HB7.out.size)).mono HB.out.size)⟩
end Go.Proofs.Ytjdidlbmgnfcdaa
