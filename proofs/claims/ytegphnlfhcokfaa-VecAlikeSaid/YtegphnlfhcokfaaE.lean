/- The walk of the statement VecDists. -/
import Derived.Test.YtegphnlfhcokfaaD
namespace Go.Proofs.Ytegphnlfhcokfaa
open Go.RowKit Go.Shelf
set_option linter.unusedVariables false
theorem refDist_no (A B : Option Addr) (c d n m : Nat) (h : n = 0 ∨ 64 < n ∨ m ≠ n) (w : World) :
    Calls Try.prog 14 #[.slice A n c, .slice B m d] w fun e w' => e = .returned (.tuple #[.int .i64 0, .int .i64 1]) ∧ w = w' := by
  by_cases h1 : n = 0
  · subst h1
    clear h
    go_enter Try.func14, Try.ntmps14
    go_wp2
    go_ret2
    exact ⟨rfl, rfl⟩
  · by_cases h2 : 64 < n
    · clear h
      go_enter Try.func14, Try.ntmps14
      go_wp2
      go_ret2
      exact ⟨rfl, rfl⟩
    · have hne : ((m : Int) != (n : Int)) = true := by simp; omega
      clear h
      go_enter Try.func14, Try.ntmps14
      go_wp2
      go_ret2
      exact ⟨rfl, rfl⟩
theorem refDist_yes (A B : Option Addr) (c d : Nat) (xs ys : List Int) (h1 : 1 ≤ xs.length) (h2 : xs.length ≤ 64) (hl : ys.length = xs.length) (n : Nat) (hn : n = xs.length)
    (w : World) (D : Nat) (hx : Rd .i8 w D A xs) (hy : Rd .i8 w D B ys) (bx : ∀ x ∈ xs, -128 ≤ x ∧ x ≤ 127) (bY : ∀ x ∈ ys, -128 ≤ x ∧ x ≤ 127) :
    Calls Try.prog 14 #[.slice A xs.length c, .slice B n d] w fun e w' => e = .returned (.tuple #[.int .i64 (far xs ys), .int .i64 0]) ∧ ∃ nq, w' = w.drewN nq := by
  subst hn
  have H2 := Lib.hid (refFar_any A B c d xs ys (by omega) hl w D hx hy bx bY)
  clear hl hx hy bx bY
  go_enter Try.func14, Try.ntmps14
  go_wp2_with fail
  refine H2.out.mono ?_
  rintro e w' ⟨rfl, nq, rfl⟩
  go_wp2
  go_ret2
  exact ⟨rfl, nq, rfl⟩
theorem dist_both (xs ys : List Int) (bx : ∀ x ∈ xs, -128 ≤ x ∧ x ≤ 127) (bY : ∀ x ∈ ys, -128 ≤ x ∧ x ≤ 127) :
    ∃ V E : Int, (∀ (A B : Option Addr) (c d : Nat) (w : World), Rd .i8 w w.heap.size A xs → Rd .i8 w w.heap.size B ys → Calls Try.prog 13 #[.slice A xs.length c, .slice B ys.length d] w fun e w' => e = .returned (.tuple #[.int .i64 V, .int .i64 E]) ∧ Below w.heap.size w w') ∧
      (∀ (A B : Option Addr) (c d : Nat) (w : World) (D : Nat), Rd .i8 w D A xs → Rd .i8 w D B ys → Calls Try.prog 14 #[.slice A xs.length c, .slice B ys.length d] w fun e w' => e = .returned (.tuple #[.int .i64 V, .int .i64 E]) ∧ ∃ nq, w' = w.drewN nq) := by
  by_cases h : xs.length = 0 ∨ 64 < xs.length ∨ ys.length ≠ xs.length
  · exact ⟨0, 1, fun A B c d w _ _ => (dist_no A B c d _ _ h w).mono fun e w' ⟨h1, h2⟩ => ⟨h1, by subst h2; exact Below.refl _ _⟩, fun A B c d w D _ _ => (refDist_no A B c d _ _ h w).mono fun e w' ⟨h1, h2⟩ => ⟨h1, 0, by subst h2; rfl⟩⟩
  · exact ⟨far xs ys, 0, fun A B c d w hx hy => dist_yes A B c d xs ys (by omega) (by omega) (by omega) _ (by omega) w hx hy bx bY, fun A B c d w D hx hy => refDist_yes A B c d xs ys (by omega) (by omega) (by omega) _ (by omega) w D hx hy bx bY⟩
theorem beyond_two (n m : Nat) (hn : n ≤ 140737488355328) (hm : m ≤ 140737488355328) (w : World) : Calls Try.prog 11 #[.slice (some ⟨w.heap.size, 0, none⟩) 2 2] (w.alloc (.cells #[.int .i64 (n : Int), .int .i64 (m : Int)] 3)) fun e w' => e = .returned (.bool (bey [(n : Int), (m : Int)])) ∧ w.alloc (.cells #[.int .i64 (n : Int), .int .i64 (m : Int)] 3) = w' :=
  beyond_any (some ⟨w.heap.size, 0, none⟩) 2 [(n : Int), (m : Int)] 2 rfl _ (w.heap.size + 1) (rd_newF w .i64 3 [(n : Int), (m : Int)] (0, 0)) (by simp; omega) (by simp)
theorem bey_two {n m : Nat} (h : bey [(n : Int), (m : Int)] = false) : n + m ≤ 1048576 := by unfold bey at h; simp at h; omega
set_option maxRecDepth 100000 in
set_option maxHeartbeats 400000 in
theorem vecDists_far (A B : Option Addr) (c d n m : Nat) (w : World) (hn : n ≤ 140737488355328) (hm : m ≤ 140737488355328) (hbey : bey [(n : Int), (m : Int)] = true) :
    Calls Try.prog 3 #[.slice A n c, .slice B m d] w fun e w' => e = .returned (.bool true) ∧ Below w.heap.size w w' := by
  have H17 := Lib.hid (beyond_two n m hn hm w)
  rw [hbey] at H17
  clear hbey
  go_enter Try.func3, Try.ntmps3
  go_wp2_with fail
  refine H17.out.mono ?_
  rintro e w2 ⟨rfl, rfl⟩
  go_wp2
  go_ret
  exact ⟨rfl, (Below.refl _ _).alloc (Nat.le_refl _) _⟩
set_option maxRecDepth 100000 in
set_option maxHeartbeats 1000000 in
theorem vecDists_near (A B : Option Addr) (c d : Nat) (xs ys : List Int) (w : World) (hx : Rd .i8 w w.heap.size A xs) (bx : ∀ x ∈ xs, -128 ≤ x ∧ x ≤ 127) (hc : xs.length ≤ c) (hm : c ≤ 140737488351232)
    (hy : Rd .i8 w w.heap.size B ys) (bY : ∀ x ∈ ys, -128 ≤ x ∧ x ≤ 127) (hd : ys.length ≤ d) (hm' : d ≤ 140737488351232) (hbey : bey [(xs.length : Int), (ys.length : Int)] = false) :
    Calls Try.prog 3 #[.slice A xs.length c, .slice B ys.length d] w fun e w' => e = .returned (.bool true) ∧ Below w.heap.size w w' := by
  have hlen := bey_two hbey
  obtain ⟨V, E, h13, h14⟩ := dist_both xs ys bx bY
  have H13 := Lib.hid h13
  have H14 := Lib.hid h14
  have H11 := Lib.hid (beyond_two xs.length ys.length (by omega) (by omega) w)
  rw [hbey] at H11
  clear h13 h14 hbey bx bY
  go_enter Try.func3, Try.ntmps3
  go_wp2_with fail
  refine H11.out.mono ?_
  rintro e w1 ⟨rfl, rfl⟩
  have hB1 : Below w.heap.size w (w.alloc (.cells #[.int .i64 (xs.length : Int), .int .i64 (ys.length : Int)] 3)) := (Below.refl _ _).alloc (Nat.le_refl _) _
  generalize w.alloc (.cells #[.int .i64 (xs.length : Int), .int .i64 (ys.length : Int)] 3) = w1 at hB1 ⊢
  have h1 := Lib.hid (twinInt8s_any A c xs xs.length rfl w1 ((hx.below hB1).more hB1.size) (by omega))
  clear H11
  go_wp2_with fail
  refine h1.out.mono ?_
  rintro e w2 ⟨rfl, hB2, hown2⟩
  have hB2' := hB1.trans (hB2.mono hB1.size)
  have hT : Rd .i8 w2 w2.heap.size (some ⟨w1.heap.size, 0, none⟩) (xs ++ [77]) := rd_own hown2
  have h2 := Lib.hid (twinInt8s_any B d ys ys.length rfl w2 ((hy.below hB2').more hB2'.size) (by omega))
  have LT := hown2.lt _ rfl
  clear h1 hown2 hB1 hB2
  generalize w1.heap.size = g1 at hT LT ⊢
  go_wp2_with fail
  refine h2.out.mono ?_
  rintro e w3 ⟨rfl, hB3, hown3⟩
  have hB3' := hB2'.trans (hB3.mono hB2'.size)
  have hT3 : Rd .i8 w3 w3.heap.size (some ⟨g1, 0, none⟩) (xs ++ [77]) := (hT.below hB3).more hB3.size
  have hU3 : Rd .i8 w3 w3.heap.size (some ⟨w2.heap.size, 0, none⟩) (ys ++ [77]) := rd_own hown3
  have hT3' : Rd .i8 w3 w3.heap.size (some ⟨g1, 0, none⟩) xs := by simpa using hT3.take xs.length
  have hU3' : Rd .i8 w3 w3.heap.size (some ⟨w2.heap.size, 0, none⟩) ys := by simpa using hU3.take ys.length
  generalize w2.heap.size = g2 at hU3 hU3' ⊢
  have h3 := Lib.hid (H13.out (some ⟨g1, 0, none⟩) (some ⟨g2, 0, none⟩) (xs.length + 1) (ys.length + 1) w3 hT3' hU3')
  clear hT hT3' hU3' hown3 hB3 hB2' h2 LT H13
  go_wp2_with fail
  refine h3.out.mono ?_
  rintro e w4 ⟨rfl, hB4⟩
  have hB4' := hB3'.trans (hB4.mono hB3'.size)
  have hT4 := (hT3.below hB4).more hB4.size
  have hU4 := (hU3.below hB4).more hB4.size
  have hx4 := (hx.below hB4').more hB4'.size
  have hy4 := (hy.below hB4').more hB4'.size
  have h4 := Lib.hid (H14.out A B c d w4 _ hx4 hy4)
  have HLA := Lib.hid (fun nq => leftInt8s_any (some ⟨g1, 0, none⟩) A (xs.length + 1) c xs xs.length rfl (w4.drewN nq) _ hx4 hT4 hc (by omega) (by omega) (by omega))
  have HLB := Lib.hid (fun nq => leftInt8s_any (some ⟨g2, 0, none⟩) B (ys.length + 1) d ys ys.length rfl (w4.drewN nq) _ hy4 hU4 hd (by omega) (by omega) (by omega))
  clear hT3 hU3 hT4 hU4 hx4 hy4 h3 hB3' hB4 hx hy H14
  go_wp2_with fail
  refine h4.out.mono ?_
  rintro e w5 ⟨rfl, n5, rfl⟩
  go_wp2_with fail
  refine (HLA.out n5).mono ?_
  rintro e w6 ⟨rfl, n6, rfl⟩
  go_wp2_with fail
  refine (HLB.out (n5 + n6)).mono ?_
  rintro e w7 ⟨rfl, n7, rfl⟩
  go_wp2
  go_ret
  exact ⟨rfl, below_drewN hB4' _⟩
end Go.Proofs.Ytegphnlfhcokfaa
