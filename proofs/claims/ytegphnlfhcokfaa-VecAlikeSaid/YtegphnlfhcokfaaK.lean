/- The walk of the statement VecThree. -/
import Derived.Test.YtegphnlfhcokfaaH
namespace Go.Proofs.Ytegphnlfhcokfaa
open Go.RowKit Go.Shelf
set_option linter.unusedVariables false
theorem far_cons (x y : Int) (xs ys : List Int) : far (x :: xs) (y :: ys) = (x - y) * (x - y) + far xs ys := by unfold far farL; simp
theorem far_nil (ys : List Int) : far [] ys = 0 := by unfold far farL; simp
theorem far_nil' (xs : List Int) : far xs [] = 0 := by unfold far farL; simp
theorem sq_four (x y z : Int) : (x - z) * (x - z) ≤ 2 * ((x - y) * (x - y) + (y - z) * (y - z)) := by
  obtain ⟨p, hp⟩ : ∃ p, p = x - y := ⟨_, rfl⟩
  obtain ⟨q, hq⟩ : ∃ q, q = y - z := ⟨_, rfl⟩
  have e : x - z = p + q := by omega
  rw [e, ← hp, ← hq]
  have h : 0 ≤ (p - q) * (p - q) := by
    rcases Int.le_total 0 (p - q) with h | h
    · exact Int.mul_nonneg h h
    · have := Int.mul_nonneg (show 0 ≤ -(p - q) by omega) (show 0 ≤ -(p - q) by omega); rwa [Int.neg_mul_neg] at this
  rw [Int.sub_mul, Int.mul_sub, Int.mul_sub] at h
  rw [Int.add_mul, Int.mul_add, Int.mul_add]
  have := Int.mul_comm p q
  omega
theorem far_four : ∀ (xs ys zs : List Int), ys.length = xs.length → zs.length = xs.length → far xs zs ≤ 2 * (far xs ys + far ys zs)
  | [], _, _, h1, h2 => by
    obtain rfl := List.eq_nil_of_length_eq_zero h1
    obtain rfl := List.eq_nil_of_length_eq_zero h2
    simp [far_nil]
  | x :: xs, y :: ys, z :: zs, h1, h2 => by
    have ih := far_four xs ys zs (by simpa using h1) (by simpa using h2)
    rw [far_cons, far_cons, far_cons]
    have := sq_four x y z
    omega
  | _ :: _, [], _, h1, _ => by simp at h1
  | _ :: _, _ :: _, [], _, h2 => by simp at h2
theorem far_bd {xs ys : List Int} (bx : ∀ x ∈ xs, -128 ≤ x ∧ x ≤ 127) (bY : ∀ x ∈ ys, -128 ≤ x ∧ x ≤ 127) (h : xs.length ≤ 64) : 0 ≤ far xs ys ∧ far xs ys ≤ 4161600 := by
  have := farL_bd (xs.zip ys) (zip_bd bx bY)
  have hl : (xs.zip ys).length ≤ 64 := by rw [List.length_zip]; omega
  unfold far; omega
set_option maxRecDepth 100000 in
set_option maxHeartbeats 400000 in
theorem vecThree_no (A B D : Option Addr) (a b d n m l : Nat) (w : World) (h : n = 0 ∨ 64 < n ∨ m ≠ n ∨ l ≠ n) :
    Calls Try.prog 6 #[.slice A n a, .slice B m b, .slice D l d] w fun e w' => e = .returned (.bool true) ∧ Below w.heap.size w w' := by
  have HA := Lib.hid alive_any
  have fin : ∀ (G : Prop), (∀ w1, Below w.heap.size w w1 → ∀ w2, Below w1.heap.size w1 w2 → Below w.heap.size w w2) := fun _ w1 h1 w2 h2 => h1.trans (h2.mono h1.size)
  by_cases h0 : n = 0
  · subst h0
    clear h
    go_enter Try.func6, Try.ntmps6
    go_wp2_with fail
    refine (HA.out w).mono ?_
    rintro e w1 ⟨rfl, hB1⟩
    go_wp2_with fail
    refine (HA.out _).mono ?_
    rintro e w3 ⟨rfl, hB3⟩
    go_wp2
    go_ret
    exact ⟨rfl, hB1.trans (hB3.mono hB1.size)⟩
  · have hz : ((n : Int) == 0) = false := by rw [beq_eq_false_iff_ne]; omega
    by_cases h1 : 64 < n
    · have hz1 : decide (64 < (n : Int)) = true := decide_eq_true (by omega)
      clear h h0
      go_enter Try.func6, Try.ntmps6
      go_wp2_with fail
      refine (HA.out w).mono ?_
      rintro e w1 ⟨rfl, hB1⟩
      go_wp2_with fail
      refine (HA.out _).mono ?_
      rintro e w3 ⟨rfl, hB3⟩
      go_wp2
      go_ret
      exact ⟨rfl, hB1.trans (hB3.mono hB1.size)⟩
    · have hz1 : decide (64 < (n : Int)) = false := decide_eq_false (by omega)
      by_cases h2 : m = n
      · have h3 : l ≠ n := by omega
        subst h2
        have n1 : ((m : Int) != (m : Int)) = false := by simp
        have n2 : ((l : Int) != (m : Int)) = true := by simp; omega
        clear h h0 h3
        go_enter Try.func6, Try.ntmps6
        go_wp2_with fail
        refine (HA.out w).mono ?_
        rintro e w1 ⟨rfl, hB1⟩
        go_wp2_with fail
        refine (HA.out _).mono ?_
        rintro e w3 ⟨rfl, hB3⟩
        go_wp2
        go_ret
        exact ⟨rfl, hB1.trans (hB3.mono hB1.size)⟩
      · have n1 : ((m : Int) != (n : Int)) = true := by simp; omega
        clear h h0 h2
        go_enter Try.func6, Try.ntmps6
        go_wp2_with fail
        refine (HA.out w).mono ?_
        rintro e w1 ⟨rfl, hB1⟩
        go_wp2_with fail
        refine (HA.out _).mono ?_
        rintro e w3 ⟨rfl, hB3⟩
        go_wp2
        go_ret
        exact ⟨rfl, hB1.trans (hB3.mono hB1.size)⟩
set_option maxRecDepth 100000 in
set_option maxHeartbeats 1000000 in
theorem vecThree_yes (A B D : Option Addr) (a b d : Nat) (xs ys zs : List Int) (n : Nat) (hn : xs.length = n) (hy : ys.length = n) (hz : zs.length = n) (h1 : 1 ≤ n) (h2 : n ≤ 64) (w : World)
    (rx : Rd .i8 w w.heap.size A xs) (ry : Rd .i8 w w.heap.size B ys) (rz : Rd .i8 w w.heap.size D zs) (bx : ∀ x ∈ xs, -128 ≤ x ∧ x ≤ 127) (bY : ∀ x ∈ ys, -128 ≤ x ∧ x ≤ 127) (bz : ∀ x ∈ zs, -128 ≤ x ∧ x ≤ 127) :
    Calls Try.prog 6 #[.slice A n a, .slice B n b, .slice D n d] w fun e w' => e = .returned (.bool true) ∧ Below w.heap.size w w' := by
  have HA := Lib.hid alive_any
  have DD : ∀ W, Below w.heap.size w W → ∀ (P Q : Option Addr) (p q : Nat) (us vs : List Int), us.length = n → vs.length = n → Rd .i8 w w.heap.size P us → Rd .i8 w w.heap.size Q vs → (∀ x ∈ us, -128 ≤ x ∧ x ≤ 127) → (∀ x ∈ vs, -128 ≤ x ∧ x ≤ 127) →
      Calls Try.prog 13 #[.slice P n p, .slice Q n q] W fun e w' => e = .returned (.tuple #[.int .i64 (far us vs), .int .i64 0]) ∧ Below w.heap.size w w' := fun W hW P Q p q us vs e1 e2 r1 r2 b1 b2 => by
    have := dist_yes P Q p q us vs (by omega) (by omega) (by omega) n (by omega) W ((r1.below hW).more hW.size) ((r2.below hW).more hW.size) b1 b2
    rw [e1] at this
    exact this.mono fun e w' ⟨g1, g2⟩ => ⟨g1, hW.trans (g2.mono hW.size)⟩
  have H1 := Lib.hid (fun W hW => DD W hW A B a b xs ys hn hy rx ry bx bY)
  have H2 := Lib.hid (fun W hW => DD W hW B D b d ys zs hy hz ry rz bY bz)
  have H3 := Lib.hid (fun W hW => DD W hW A D a d xs zs hn hz rx rz bx bz)
  have k1 := far_bd bx bY (by omega)
  have k2 := far_bd bY bz (by omega)
  have k3 := far_four xs ys zs (by omega) (by omega)
  clear DD rx ry rz bx bY bz hn hy hz
  generalize far xs ys = fx at H1 k1 k3
  generalize far ys zs = fy at H2 k2 k3
  generalize far xs zs = fz at H3 k3
  have z0 : ((n : Int) == 0) = false := by rw [beq_eq_false_iff_ne]; omega
  have z1 : decide (64 < (n : Int)) = false := decide_eq_false (by omega)
  have n1 : ((n : Int) != (n : Int)) = false := by simp
  go_enter Try.func6, Try.ntmps6
  go_wp2_with fail
  refine (HA.out w).mono ?_
  rintro e w1 ⟨rfl, hB1⟩
  go_wp2_with fail
  refine (H1.out w1 hB1).mono ?_
  rintro e w2 ⟨rfl, hB2⟩
  go_wp2_with fail
  refine (H2.out w2 hB2).mono ?_
  rintro e w3 ⟨rfl, hB3⟩
  go_wp2_with fail
  refine (H3.out w3 hB3).mono ?_
  rintro e w4 ⟨rfl, hB4⟩
  go_wp2
  go_ret
  exact ⟨rfl, hB4⟩
end Go.Proofs.Ytegphnlfhcokfaa
