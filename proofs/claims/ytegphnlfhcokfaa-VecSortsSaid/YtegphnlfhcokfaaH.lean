/- The walks of SameInt8s and of alive (layer 3's). -/
import Derived.Test.YtegphnlfhcokfaaG
import Derived.Test.YtegphnlfhcokfaaV
namespace Go.Proofs.Ytegphnlfhcokfaa
open Go.RowKit Go.Shelf
set_option linter.unusedVariables false
def eqB (xs ys : List Int) : Bool := decide (xs = ys)
theorem take_ext {xs ys : List Int} (hl : ys.length = xs.length) (h : ∀ j, j < xs.length → xs[j]? = ys[j]?) : xs = ys := by
  apply List.ext_getElem?
  intro i
  rcases Nat.lt_or_ge i xs.length with h1 | h1
  · exact h i h1
  · rw [List.getElem?_eq_none h1, List.getElem?_eq_none (by omega)]
theorem drewN_drewN' (w : World) (a b : Nat) : (w.drewN a).drewN b = w.drewN (a + b) := by simp [go_sem]
set_option maxHeartbeats 400000 in
theorem same8_any (A B : Option Addr) (c d : Nat) (xs ys : List Int) (w : World) (D : Nat) (hx : Rd .i8 w D A xs) (hy : Rd .i8 w D B ys) (hxl : xs.length ≤ 140737488355328) (hyl : ys.length ≤ 140737488355328) :
    Calls Try.prog 26 #[.slice A xs.length c, .slice B ys.length d] w fun e w' => e = .returned (.bool (eqB xs ys)) ∧ ∃ nq, w' = w.drewN nq := by
  by_cases hl : ys.length = xs.length
  · have HL := Lib.hid hl
    rw [hl]
    clear hl
    go_enter Try.func26, Try.ntmps26
    go_wp2
    go_loopw [5] (fun i wr => ∃ k nq : Nat, k ≤ xs.length ∧ i = .int .i64 k ∧ wr = w.drewN nq ∧ Hid (∀ j, j < k → xs[j]? = ys[j]?)) (fun i _ => xs.length - (intOf i).toNat)
    case atStart => exact ⟨0, 0, by omega, rfl, rfl, (fun j hj => absurd hj (Nat.not_lt_zero _) : ∀ j, j < 0 → xs[j]? = ys[j]?)⟩
    case round =>
      obtain ⟨k, nq, hk, rfl, rfl, HK⟩ := hrel
      by_cases hlt : k < xs.length
      · have hlt' : k < ys.length := by have := HL.out; omega
        obtain ⟨b, off, x, rfl, hbs, hcx, hvx⟩ := hx.at_ hlt
        obtain ⟨b', off', y, rfl, hbs', hcy, hvy⟩ := hy.at_ (i := k) hlt'
        have h1 : (0 : Int) ≤ (k : Int) := by omega
        have h2 : (k : Int) < (xs.length : Int) := by omega
        have ex : xs[k]? = some x := by rw [← hvx.out, List.getElem?_eq_getElem hlt]; rfl
        have ey : ys[k]? = some y := by rw [← hvy.out, List.getElem?_eq_getElem hlt']; rfl
        by_cases he : x = y
        · subst he
          have HN : Hid (∀ j, j < k + 1 → xs[j]? = ys[j]?) := fun j hj => by
            rcases Nat.lt_or_ge j k with h | h
            · exact HK.out j h
            · obtain rfl : j = k := by omega
              rw [ex, ey]
          clear ex ey hvx hvy
          have ne : (x != x) = false := by simp
          go_wp2
          go_quiet (fail)
          go_wp2
          go_roundw
          case rel => exact ⟨k + 1, _, by omega, by go_num, rfl, HN⟩
          case measure => simp [intOf]; omega
        · have E := Lib.hid (show eqB xs ys = false from decide_eq_false (fun h => he (by rw [h, ey] at ex; simpa using ex.symm)))
          have ne : (x != y) = true := by simpa using he
          clear ex ey hvx hvy he
          go_wp2
          go_quiet (fail)
          go_wp2
          go_ret
          exact ⟨retb E.out.symm, _, drewN_drewN' _ _ _⟩
      · have E := Lib.hid (show eqB xs ys = true from decide_eq_true (take_ext HL.out (fun j hj => HK.out j (by omega))))
        go_wp2
        go_ret
        exact ⟨retb E.out.symm, nq, rfl⟩
  · have ne : ((xs.length : Int) != (ys.length : Int)) = true := by simp; omega
    have E := Lib.hid (show eqB xs ys = false from decide_eq_false (fun h => hl (by rw [h])))
    clear hl
    go_enter Try.func26, Try.ntmps26
    go_wp2
    go_ret
    exact ⟨retb E.out.symm, 0, rfl⟩

theorem two_new (w : World) (t t' : TypeId) (xs ys : List Int) : Rd .i8 ((w.alloc (.cells (xs.map (Value.int .i8)).toArray t)).alloc (.cells (ys.map (Value.int .i8)).toArray t')) (w.heap.size + 1) (some ⟨w.heap.size, 0, none⟩) xs := by
  have h := rd_newF w .i8 t xs (0, 0)
  exact h.below ((Below.refl _ _).alloc (by simp) _)
theorem alive13 (w : World) : Calls Try.prog 13 #[.slice (some ⟨w.heap.size, 0, none⟩) 2 2, .slice (some ⟨w.heap.size + 1, 0, none⟩) 2 2] ((w.alloc (.cells #[.int .i8 1, .int .i8 2] 53)).alloc (.cells #[.int .i8 4, .int .i8 (-2)] 53)) fun e w' => e = .returned (.tuple #[.int .i64 25, .int .i64 0]) ∧ Below w.heap.size w w' := by
  have hB : Below w.heap.size w ((w.alloc (.cells #[.int .i8 1, .int .i8 2] 53)).alloc (.cells #[.int .i8 4, .int .i8 (-2)] 53)) := ((Below.refl _ _).alloc (Nat.le_refl _) _).alloc (by simp) _
  have hx : Rd .i8 ((w.alloc (.cells #[.int .i8 1, .int .i8 2] 53)).alloc (.cells #[.int .i8 4, .int .i8 (-2)] 53)) (w.heap.size + 1) (some ⟨w.heap.size, 0, none⟩) [1, 2] := two_new w 53 53 [1, 2] [4, -2]
  have hy : Rd .i8 ((w.alloc (.cells #[.int .i8 1, .int .i8 2] 53)).alloc (.cells #[.int .i8 4, .int .i8 (-2)] 53)) (w.heap.size + 1 + 1) (some ⟨w.heap.size + 1, 0, none⟩) [4, -2] := by
    have := rd_newF (w.alloc (.cells #[.int .i8 1, .int .i8 2] 53)) .i8 53 [4, -2] (0, 0)
    rw [World.size_alloc] at this
    exact this
  have := dist_yes (some ⟨w.heap.size, 0, none⟩) (some ⟨w.heap.size + 1, 0, none⟩) 2 2 [1, 2] [4, -2] (by decide) (by decide) rfl 2 rfl _ (hx.more (by simp)) (hy.more (by simp)) (by decide) (by decide)
  refine this.mono fun e w' ⟨h1, h2⟩ => ⟨?_, hB.trans (h2.mono hB.size)⟩
  rw [h1, show far [1, 2] [4, -2] = 25 by decide]
/-- Slices that lie in new blocks, read as vectors. -/
theorem rdV_row {w : World} {B g : Nat} {t : TypeId} {L : List Vc} (hc : Whole w g t (L.map fun v => Value.slice v.1 v.2.2.length v.2.1).toArray) (hg : g < B) (hr : ∀ v ∈ L, Rd .i8 w B v.1 v.2.2) : RdV w B (some ⟨g, 0, none⟩) L := fun hl => by
  refine ⟨g, 0, rfl, hg, fun i hi => ⟨?_, ?_⟩⟩
  · rw [Nat.zero_add, hc.cell i]
    simp [List.getElem?_eq_getElem hi]
  · rw [List.getElem?_eq_getElem hi]
    exact hr _ (List.getElem_mem _)
theorem one_new {w : World} {B : Nat} (t : TypeId) (xs : List Int) (hB : w.heap.size < B) {w' : World} (h : Below (w.heap.size + 1) (w.alloc (.cells (xs.map (Value.int .i8)).toArray t)) w') : Rd .i8 w' B (some ⟨w.heap.size, 0, none⟩) xs :=
  ((rd_newF w .i8 t xs (0, 0)).below h).more hB
/-- What alive is told of Mean. -/
def Mean2 (w : World) (e : Ending) (w' : World) : Prop := ∃ g, e = .returned (.tuple #[.slice (some ⟨g, 0, none⟩) 2 2, .int .i64 0]) ∧ Rd .i8 w' w'.heap.size (some ⟨g, 0, none⟩) [2, -2] ∧ Below w.heap.size w w'
def al29 (w : World) : World := ((w.alloc (.cells #[.int .i8 1, .int .i8 (-1)] 53)).alloc (.cells #[.int .i8 2, .int .i8 (-2)] 53)).alloc (.cells #[.slice (some ⟨w.heap.size, 0, none⟩) 2 2, .slice (some ⟨w.heap.size + 1, 0, none⟩) 2 2] 22)
theorem alive29 (w : World) : Calls Try.prog 29 #[.slice (some ⟨w.heap.size + 2, 0, none⟩) 2 2] (al29 w) (Mean2 w) := by
  have hz : (al29 w).heap.size = w.heap.size + 3 := by simp [al29]
  have hB : Below w.heap.size w (al29 w) := by unfold al29; exact (((Below.refl _ _).alloc (Nat.le_refl _) _).alloc (by simp) _).alloc (by simp; omega) _
  have h1 : Rd .i8 (al29 w) (w.heap.size + 3) (some ⟨w.heap.size, 0, none⟩) [1, -1] := one_new (w := w) 53 [1, -1] (by omega) (by unfold al29; exact (((Below.refl _ _).alloc (by simp) _).alloc (by simp) _))
  have h2 : Rd .i8 (al29 w) (w.heap.size + 3) (some ⟨w.heap.size + 1, 0, none⟩) [2, -2] := by
    have := one_new (w := w.alloc (.cells #[.int .i8 1, .int .i8 (-1)] 53)) (B := w.heap.size + 3) (w' := al29 w) 53 [2, -2] (by simp) (by unfold al29; exact ((Below.refl _ _).alloc (by simp) _))
    rw [World.size_alloc] at this
    exact this
  have hW : Whole (al29 w) (w.heap.size + 2) 22 #[.slice (some ⟨w.heap.size, 0, none⟩) 2 2, .slice (some ⟨w.heap.size + 1, 0, none⟩) 2 2] := by
    have := Whole.new ((w.alloc (.cells #[.int .i8 1, .int .i8 (-1)] 53)).alloc (.cells #[.int .i8 2, .int .i8 (-2)] 53)) 22 #[.slice (some ⟨w.heap.size, 0, none⟩) 2 2, .slice (some ⟨w.heap.size + 1, 0, none⟩) 2 2]
    rw [World.size_alloc, World.size_alloc] at this
    exact this
  have hv : RdV (al29 w) (w.heap.size + 3) (some ⟨w.heap.size + 2, 0, none⟩) [(some ⟨w.heap.size, 0, none⟩, 2, [1, -1]), (some ⟨w.heap.size + 1, 0, none⟩, 2, [2, -2])] := rdV_row hW (by omega) (by
    intro v hv
    simp only [List.mem_cons, List.not_mem_nil, or_false] at hv
    rcases hv with rfl | rfl
    · exact h1
    · exact h2)
  have key := mean_yes (some ⟨w.heap.size + 2, 0, none⟩) 2 _ 2 rfl (al29 w) (hv.more (by omega)) (by show mayB [[1, -1], [2, -2]] = true; decide) (by show B8 [[1, -1], [2, -2]]; unfold B8; decide)
  refine key.mono fun e w' ⟨g1, g2, g3⟩ => ⟨(al29 w).heap.size, g1, ?_, hB.trans (g3.mono hB.size)⟩
  have := rd_own g2
  rw [show meanL (vecs [(some ⟨w.heap.size, 0, none⟩, 2, [1, -1]), (some ⟨w.heap.size + 1, 0, none⟩, 2, [2, -2])]) = [2, -2] from (by decide : meanL [[1, -1], [2, -2]] = [2, -2])] at this
  exact this
def Mid3 (w : World) (e : Ending) (w' : World) : Prop := e = .returned (.tuple #[.int .i64 3, .int .i64 0]) ∧ Below w.heap.size w w'
def al30a (w : World) : World := (((w.alloc (.cells #[.int .i8 0] 53)).alloc (.cells #[.int .i8 9] 53)).alloc (.cells #[.int .i8 4] 53)).alloc (.cells #[.int .i8 5] 53)
def al30 (w : World) : World := (al30a w).alloc (.cells #[.slice (some ⟨w.heap.size, 0, none⟩) 1 1, .slice (some ⟨w.heap.size + 1, 0, none⟩) 1 1, .slice (some ⟨w.heap.size + 2, 0, none⟩) 1 1, .slice (some ⟨w.heap.size + 3, 0, none⟩) 1 1] 22)
theorem alive30 (w : World) : Calls Try.prog 30 #[.slice (some ⟨w.heap.size + 4, 0, none⟩) 4 4] (al30 w) (Mid3 w) := by
  have hz : (al30 w).heap.size = w.heap.size + 5 := by simp [al30, al30a]
  have hB : Below w.heap.size w (al30 w) := by unfold al30 al30a; exact (((((Below.refl _ _).alloc (Nat.le_refl _) _).alloc (by simp) _).alloc (by simp; omega) _).alloc (by simp; omega) _).alloc (by simp; omega) _
  have h1 : Rd .i8 (al30 w) (w.heap.size + 5) (some ⟨w.heap.size, 0, none⟩) [0] := one_new (w := w) 53 [0] (by omega) (by unfold al30 al30a; exact ((((Below.refl _ _).alloc (by simp) _).alloc (by simp) _).alloc (by simp) _).alloc (by simp) _)
  have h2 : Rd .i8 (al30 w) (w.heap.size + 5) (some ⟨w.heap.size + 1, 0, none⟩) [9] := by
    have := one_new (w := w.alloc (.cells #[.int .i8 0] 53)) (B := w.heap.size + 5) (w' := al30 w) 53 [9] (by simp) (by unfold al30 al30a; exact (((Below.refl _ _).alloc (by simp) _).alloc (by simp) _).alloc (by simp) _)
    rw [World.size_alloc] at this
    exact this
  have h3 : Rd .i8 (al30 w) (w.heap.size + 5) (some ⟨w.heap.size + 2, 0, none⟩) [4] := by
    have := one_new (w := (w.alloc (.cells #[.int .i8 0] 53)).alloc (.cells #[.int .i8 9] 53)) (B := w.heap.size + 5) (w' := al30 w) 53 [4] (by simp) (by unfold al30 al30a; exact ((Below.refl _ _).alloc (by simp) _).alloc (by simp) _)
    rw [World.size_alloc, World.size_alloc] at this
    exact this
  have h4 : Rd .i8 (al30 w) (w.heap.size + 5) (some ⟨w.heap.size + 3, 0, none⟩) [5] := by
    have := one_new (w := ((w.alloc (.cells #[.int .i8 0] 53)).alloc (.cells #[.int .i8 9] 53)).alloc (.cells #[.int .i8 4] 53)) (B := w.heap.size + 5) (w' := al30 w) 53 [5] (by simp) (by unfold al30 al30a; exact (Below.refl _ _).alloc (by simp) _)
    rw [World.size_alloc, World.size_alloc, World.size_alloc] at this
    exact this
  have hW : Whole (al30 w) (w.heap.size + 4) 22 #[.slice (some ⟨w.heap.size, 0, none⟩) 1 1, .slice (some ⟨w.heap.size + 1, 0, none⟩) 1 1, .slice (some ⟨w.heap.size + 2, 0, none⟩) 1 1, .slice (some ⟨w.heap.size + 3, 0, none⟩) 1 1] := by
    have := Whole.new (al30a w) 22 #[.slice (some ⟨w.heap.size, 0, none⟩) 1 1, .slice (some ⟨w.heap.size + 1, 0, none⟩) 1 1, .slice (some ⟨w.heap.size + 2, 0, none⟩) 1 1, .slice (some ⟨w.heap.size + 3, 0, none⟩) 1 1]
    rw [show (al30a w).heap.size = w.heap.size + 4 by simp [al30a]] at this
    exact this
  have hv : RdV (al30 w) (w.heap.size + 5) (some ⟨w.heap.size + 4, 0, none⟩) [(some ⟨w.heap.size, 0, none⟩, 1, [0]), (some ⟨w.heap.size + 1, 0, none⟩, 1, [9]), (some ⟨w.heap.size + 2, 0, none⟩, 1, [4]), (some ⟨w.heap.size + 3, 0, none⟩, 1, [5])] := rdV_row hW (by omega) (by
    intro v hv
    simp only [List.mem_cons, List.not_mem_nil, or_false] at hv
    rcases hv with rfl | rfl | rfl | rfl
    · exact h1
    · exact h2
    · exact h3
    · exact h4)
  have key := middle_yes (some ⟨w.heap.size + 4, 0, none⟩) 4 _ 4 rfl (al30 w) (hv.more (by omega)) (by show mayB [[0], [9], [4], [5]] = true; decide) (by show B8 [[0], [9], [4], [5]]; unfold B8; decide)
  refine key.mono fun e w' hk => ?_
  obtain ⟨k, g1, g2, g3, g4⟩ := hk
  have g2' : k < 4 := g2
  have g3' : MidP [[0], [9], [4], [5]] [5] 4 k := by
    have e5 : meanL [[0], [9], [4], [5]] = [5] := by decide
    have g5 : MidP [[0], [9], [4], [5]] (meanL [[0], [9], [4], [5]]) 4 k := g3
    rw [e5] at g5
    exact g5
  have e3 : k = 3 := by
    have := g3'.1 3 (by omega)
    have h0 : frAt [[0], [9], [4], [5]] [5] 0 = 25 := by decide
    have h1 : frAt [[0], [9], [4], [5]] [5] 1 = 16 := by decide
    have h2 : frAt [[0], [9], [4], [5]] [5] 2 = 1 := by decide
    have h3 : frAt [[0], [9], [4], [5]] [5] 3 = 0 := by decide
    match k, g2' with
    | 0, _ => omega
    | 1, _ => omega
    | 2, _ => omega
    | 3, _ => rfl
  subst e3
  exact ⟨g1, hB.trans (g4.mono hB.size)⟩
def Sort3 (w : World) (e : Ending) (w' : World) : Prop := ∃ g, e = .returned (.slice (some ⟨g, 0, none⟩) 3 3) ∧ w'.cell? ⟨g, 0, none⟩ = some (.int .u64 2) ∧ w'.cell? ⟨g, 4, none⟩ = some (.int .u64 1) ∧ g < w'.heap.size ∧ Below w.heap.size w w'
theorem alive17 (w : World) : Calls Try.prog 17 #[.slice (some ⟨w.heap.size, 0, none⟩) 3 3] (w.alloc (.cells #[.int .u64 1, .int .i64 9, .int .u64 3, .int .i64 2, .int .u64 2, .int .i64 2] 35)) (Sort3 w) := by
  have hB : Below w.heap.size w (w.alloc (.cells #[.int .u64 1, .int .i64 9, .int .u64 3, .int .i64 2, .int .u64 2, .int .i64 2] 35)) := (Below.refl _ _).alloc (Nat.le_refl _) _
  have hx : RdH (w.alloc (.cells #[.int .u64 1, .int .i64 9, .int .u64 3, .int .i64 2, .int .u64 2, .int .i64 2] 35)) (w.heap.size + 1) (some ⟨w.heap.size, 0, none⟩) [(1, 9), (3, 2), (2, 2)] := fun _ => by
    refine ⟨w.heap.size, 0, rfl, by omega, fun t ht => ?_⟩
    rw [Nat.zero_add, (Whole.new w 35 #[.int .u64 1, .int .i64 9, .int .u64 3, .int .i64 2, .int .u64 2, .int .i64 2]).cell t]
    show (flatH [(1, 9), (3, 2), (2, 2)]).toArray[t]? = _
    rw [List.getElem?_toArray]
  have key := sort_any (some ⟨w.heap.size, 0, none⟩) 3 [(1, 9), (3, 2), (2, 2)] 3 rfl _ (hx.more (by simp)) (by decide)
  refine key.mono fun e w' hk => ?_
  obtain ⟨g, g1, g2, g3, g4⟩ := hk
  have es : srtH [(1, 9), (3, 2), (2, 2)].toArray = [(2, 2), (3, 2), (1, 9)] := by simp [srtH, ltH, List.mergeSort, List.MergeSort.Internal.splitInTwo]
  rw [es] at g2
  exact ⟨g, g1, by rw [g2.cell 0]; rfl, by rw [g2.cell 4]; rfl, g2.lt, hB.trans (g4.mono hB.size)⟩
set_option maxRecDepth 100000 in
set_option maxHeartbeats 2000000 in
theorem alive_any (w : World) : Calls Try.prog 25 #[] w fun e w' => e = .returned (.bool true) ∧ Below w.heap.size w w' := by
  have H1 := Lib.hid (alive13 w)
  have H2 := Lib.hid (fun W => dist_no none none 0 0 0 0 (.inl rfl) W)
  have H3 := Lib.hid alive29
  have H4 := Lib.hid alive30
  have H5 := Lib.hid alive17
  unfold al29 at H3
  unfold al30 al30a at H4
  go_enter Try.func25, Try.ntmps25
  go_wp2_with fail
  refine H1.out.mono ?_
  rintro e w1 ⟨rfl, hB1⟩
  clear H1
  go_wp2_with fail
  refine (H2.out w1).mono ?_
  rintro e w2 ⟨rfl, rfl⟩
  clear H2
  go_wp2_with fail
  refine (H3.out w1).mono ?_
  intro e w3 h3
  obtain ⟨g3, rfl, hr3, hB3⟩ := h3
  have hB3' := hB1.trans (hB3.mono hB1.size)
  clear H3 hB1 hB3
  go_wp2_with fail
  refine (H4.out w3).mono ?_
  intro e w4 h4
  obtain ⟨rfl, hB4⟩ := h4
  have hB4' := hB3'.trans (hB4.mono hB3'.size)
  have hr4 := (hr3.below hB4).more hB4.size
  clear H4 hB3' hr3 hB4
  go_wp2_with fail
  refine (H5.out w4).mono ?_
  intro e w5 h5
  obtain ⟨g5, rfl, hc0, hc4, hg5, hB5⟩ := h5
  have hB5' := hB4'.trans (hB5.mono hB4'.size)
  have hr5 := (hr4.below hB5).more hB5.size
  clear H5 hB4' hr4 hB5
  have hB6 : Below w5.heap.size w5 (w5.alloc (.cells #[.int .i8 2, .int .i8 (-2)] 53)) := (Below.refl _ _).alloc (Nat.le_refl _) _
  have H6 := Lib.hid (same8_any (some ⟨g3, 0, none⟩) (some ⟨w5.heap.size, 0, none⟩) 2 2 [2, -2] [2, -2] (w5.alloc (.cells #[.int .i8 2, .int .i8 (-2)] 53)) (w5.heap.size + 1) ((hr5.below hB6).more (by omega)) (rd_newF w5 .i8 53 [2, -2] (0, 0)) (by decide) (by decide))
  rw [show eqB [2, -2] [2, -2] = true by decide] at H6
  have hc0' := (hB6.cell (p := ⟨g5, 0, none⟩) hg5).trans hc0
  have hc4' := (hB6.cell (p := ⟨g5, 4, none⟩) hg5).trans hc4
  have hB7 := hB5'.trans (hB6.mono hB5'.size)
  go_wp2_with fail
  refine H6.out.mono ?_
  rintro e w6 ⟨rfl, nq, rfl⟩
  clear H6 hr5 hB6 hc0 hc4
  generalize w5.alloc (.cells #[.int .i8 2, .int .i8 (-2)] 53) = w6 at hc0' hc4' hB7 ⊢
  go_wp2
  go_ret
  exact ⟨rfl, below_drewN hB7 nq⟩
end Go.Proofs.Ytegphnlfhcokfaa
