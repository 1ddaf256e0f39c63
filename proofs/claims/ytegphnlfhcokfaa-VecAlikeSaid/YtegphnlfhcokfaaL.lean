/- The walk of the statement VecBoth. -/
import Derived.Test.YtegphnlfhcokfaaE
import Derived.Test.YtegphnlfhcokfaaK
import Derived.Test.YtegphnlfhcokfaaGa
import Derived.Deep.AppendLies
import Derived.Deep.RegionLaw
namespace Go.Proofs.Ytegphnlfhcokfaa
open Go.RowKit Go.Shelf
set_option linter.unusedVariables false
theorem far_comm : ∀ (xs ys : List Int), far xs ys = far ys xs
  | [], ys => by rw [far_nil, far_nil']
  | x :: xs, [] => by rw [far_nil, far_nil']
  | x :: xs, y :: ys => by
    rw [far_cons, far_cons, far_comm xs ys]
    have : x - y = -(y - x) := by omega
    rw [this, Int.neg_mul_neg]
theorem far_nonneg : ∀ (xs ys : List Int), 0 ≤ far xs ys
  | [], ys => by rw [far_nil]; omega
  | x :: xs, [] => by rw [far_nil']; omega
  | x :: xs, y :: ys => by
    rw [far_cons]
    have := far_nonneg xs ys
    have h : 0 ≤ (x - y) * (x - y) := by
      rcases Int.le_total 0 (x - y) with h | h
      · exact Int.mul_nonneg h h
      · have := Int.mul_nonneg (show 0 ≤ -(x - y) by omega) (show 0 ≤ -(x - y) by omega); rwa [Int.neg_mul_neg] at this
    omega
theorem far_self : ∀ (xs : List Int), far xs xs = 0
  | [] => far_nil _
  | x :: xs => by rw [far_cons, far_self xs, Int.sub_self]; rfl
theorem sq_zero {x : Int} (h : x * x ≤ 0) (h' : 0 ≤ x * x) : x = 0 := by
  have : x * x = 0 := by omega
  rcases Int.mul_eq_zero.1 this with h | h <;> exact h
theorem far_zero : ∀ (xs ys : List Int), ys.length = xs.length → far xs ys = 0 → xs = ys
  | [], ys, hl, _ => (List.eq_nil_of_length_eq_zero hl).symm
  | x :: xs, [], hl, _ => by simp at hl
  | x :: xs, y :: ys, hl, h => by
    rw [far_cons] at h
    have h1 := far_nonneg xs ys
    have h2 : 0 ≤ (x - y) * (x - y) := by
      have := far_nonneg [x] [y]
      rw [far_cons, far_nil] at this
      omega
    have h3 := sq_zero (x := x - y) (by omega) h2
    have h4 := far_zero xs ys (by simpa using hl) (by omega)
    rw [h4, show x = y by omega]
theorem far_snoc : ∀ (xs ys : List Int) (p q : Int), ys.length = xs.length → far (xs ++ [p]) (ys ++ [q]) = far xs ys + (p - q) * (p - q)
  | [], ys, p, q, hl => by
    obtain rfl := List.eq_nil_of_length_eq_zero hl
    rw [List.nil_append, List.nil_append, far_cons, far_nil]; omega
  | x :: xs, [], p, q, hl => by simp at hl
  | x :: xs, y :: ys, p, q, hl => by
    rw [List.cons_append, List.cons_append, far_cons, far_cons, far_snoc xs ys p q (by simpa using hl)]; omega
theorem eqB_far {xs ys : List Int} (hl : ys.length = xs.length) : eqB xs ys = decide (far xs ys = 0) := by
  unfold eqB
  by_cases h : xs = ys
  · subst h; simp [far_self]
  · rw [decide_eq_false h, decide_eq_false (fun h' => h (far_zero xs ys hl h'))]
theorem dist_noB (A B : Option Addr) (c d n m : Nat) (h : n = 0 ∨ 64 < n ∨ m ≠ n) (w : World) : Calls Try.prog 13 #[.slice A n c, .slice B m d] w fun e w' => e = .returned (.tuple #[.int .i64 0, .int .i64 1]) ∧ w = w' := dist_no A B c d n m h w
set_option maxRecDepth 100000 in
set_option maxHeartbeats 400000 in
theorem vecBoth_far (A B : Option Addr) (c d n m : Nat) (p q : Int) (w : World) (hn : n ≤ 140737488355328) (hm : m ≤ 140737488355328) (hbey : bey [(n : Int), (m : Int)] = true) :
    Calls Try.prog 5 #[.slice A n c, .slice B m d, .agg #[.int .i8 p, .int .i8 q]] w fun e w' => e = .returned (.bool true) ∧ Below w.heap.size w w' := by
  have HA := Lib.hid alive_any
  have hB0 : Below w.heap.size w (w.alloc (.cells #[.int .i8 p, .int .i8 q] 54)) := (Below.refl _ _).alloc (Nat.le_refl _) _
  go_enter Try.func5, Try.ntmps5
  go_wp2_with fail
  refine (HA.out _).mono ?_
  rintro e w1 ⟨rfl, hB1⟩
  have hB1' := hB0.trans (hB1.mono (by simp))
  have H17 := Lib.hid (beyond_two n m hn hm w1)
  rw [hbey] at H17
  clear hbey hB0 hB1
  go_wp2_with fail
  refine H17.out.mono ?_
  rintro e w2 ⟨rfl, rfl⟩
  have hB2 := below_one hB1' (.cells #[.int .i64 (n : Int), .int .i64 (m : Int)] 3)
  generalize w1.alloc (.cells #[.int .i64 (n : Int), .int .i64 (m : Int)] 3) = w2 at hB2 ⊢
  clear hB1' H17
  go_wp2_with fail
  refine (HA.out _).mono ?_
  rintro e w3 ⟨rfl, hB3⟩
  go_wp2
  go_ret
  exact ⟨rfl, hB2.trans (hB3.mono hB2.size)⟩
set_option maxRecDepth 100000 in
set_option maxHeartbeats 1000000 in
theorem vecBoth_no (A B : Option Addr) (c d n m : Nat) (p q : Int) (w : World) (hbey : bey [(n : Int), (m : Int)] = false) (hno : n = 0 ∨ 64 < n ∨ m ≠ n) :
    Calls Try.prog 5 #[.slice A n c, .slice B m d, .agg #[.int .i8 p, .int .i8 q]] w fun e w' => e = .returned (.bool true) ∧ Below w.heap.size w w' := by
  have hlen := bey_two hbey
  have H1 := Lib.hid (fun W => dist_no A B c d n m hno W)
  have H2 := Lib.hid (fun W => dist_no B A d c m n (by omega) W)
  clear hno
  have HA := Lib.hid alive_any
  have hB0 : Below w.heap.size w (w.alloc (.cells #[.int .i8 p, .int .i8 q] 54)) := (Below.refl _ _).alloc (Nat.le_refl _) _
  have hW0 := Whole.new w 54 #[.int .i8 p, .int .i8 q]
  go_enter Try.func5, Try.ntmps5
  go_wp2_with fail
  refine (HA.out _).mono ?_
  rintro e w1 ⟨rfl, hB1⟩
  have hB1' := hB0.trans (hB1.mono (by simp))
  have hW1 := hW0.below hB1 hW0.lt
  have H17 := Lib.hid (beyond_two n m (by omega) (by omega) w1)
  rw [hbey] at H17
  clear hbey hB0 hB1 hW0
  go_wp2_with fail
  refine H17.out.mono ?_
  rintro e w2 ⟨rfl, rfl⟩
  have hB2 := below_one hB1' (.cells #[.int .i64 (n : Int), .int .i64 (m : Int)] 3)
  have hW2 := hW1.alloc (.cells #[.int .i64 (n : Int), .int .i64 (m : Int)] 3)
  generalize w1.alloc (.cells #[.int .i64 (n : Int), .int .i64 (m : Int)] 3) = w2 at hB2 hW2 ⊢
  clear hB1' H17 HA hW1
  clear hW2
  go_wp2_with fail
  refine (H1.out w2).mono ?_
  rintro e w3 ⟨rfl, rfl⟩
  go_wp2_with fail
  refine (H2.out w2).mono ?_
  rintro e w3 ⟨rfl, rfl⟩
  go_wp2
  go_ret
  exact ⟨rfl, hB2⟩
set_option maxRecDepth 100000 in
set_option maxHeartbeats 4000000 in
theorem vecBoth_full (A B : Option Addr) (c d : Nat) (xs ys : List Int) (n : Nat) (p q : Int) (w : World) (hn : xs.length = n) (hm : ys.length = n) (h1 : 1 ≤ n) (h64 : n = 64) (hbey : bey [(n : Int), (n : Int)] = false)
    (rx : Rd .i8 w w.heap.size A xs) (ry : Rd .i8 w w.heap.size B ys) (bx : ∀ x ∈ xs, -128 ≤ x ∧ x ≤ 127) (bY : ∀ x ∈ ys, -128 ≤ x ∧ x ≤ 127) (bp : -128 ≤ p ∧ p ≤ 127) (bq : -128 ≤ q ∧ q ≤ 127) (hc : n ≤ c) (hd : n ≤ d) :
    Calls Try.prog 5 #[.slice A n c, .slice B n d, .agg #[.int .i8 p, .int .i8 q]] w fun e w' => e = .returned (.bool true) ∧ Below w.heap.size w w' := by
  have H1 := Lib.hid (fun W (hW : Below w.heap.size w W) => (dist_yes A B c d xs ys (by omega) (by omega) (by omega) n (by omega) W ((rx.below hW).more hW.size) ((ry.below hW).more hW.size) bx bY).mono fun e w' h => (⟨h.1, hW.trans (h.2.mono hW.size), h.2⟩ : e = _ ∧ Below w.heap.size w w' ∧ Below W.heap.size W w'))
  have H2 := Lib.hid (fun W (hW : Below w.heap.size w W) => (dist_yes B A d c ys xs (by omega) (by omega) (by omega) n (by omega) W ((ry.below hW).more hW.size) ((rx.below hW).more hW.size) bY bx).mono fun e w' h => (⟨h.1, hW.trans (h.2.mono hW.size), h.2⟩ : e = _ ∧ Below w.heap.size w w' ∧ Below W.heap.size W w'))
  rw [hn] at H1
  rw [hm] at H2
  rw [far_comm ys xs] at H2
  have H26 := Lib.hid (fun W (hW : Below w.heap.size w W) => same8_any A B c d xs ys W _ (rx.below hW) (ry.below hW) (by omega) (by omega))
  rw [hn, hm, eqB_far (by omega)] at H26
  have kf := far_bd bx bY (by omega)
  have hlen := bey_two hbey
  have kf0 : decide (far xs ys < 0) = false := decide_eq_false (by omega)
  have nef : (far xs ys != far xs ys) = false := by simp
  obtain ⟨r, hr⟩ : ∃ r, decide (far xs ys = 0) = r := ⟨_, rfl⟩
  have hr' : (far xs ys == 0) = r := by rw [← hr]; cases h : (far xs ys == 0) <;> simp_all
  rw [hr] at H26
  clear hr
  generalize far xs ys = fx at H1 H2 kf kf0 nef hr'
  have hbb : (r != r) = false := by cases r <;> rfl
  have hbe : (r == r) = true := by cases r <;> rfl
  subst h64
  have HA := Lib.hid alive_any
  have hB0 : Below w.heap.size w (w.alloc (.cells #[.int .i8 p, .int .i8 q] 54)) := (Below.refl _ _).alloc (Nat.le_refl _) _
  have hW0 := Whole.new w 54 #[.int .i8 p, .int .i8 q]
  go_enter Try.func5, Try.ntmps5
  go_wp2_with fail
  refine (HA.out _).mono ?_
  rintro e w1 ⟨rfl, hB1⟩
  have hB1' := hB0.trans (hB1.mono (by simp))
  have hW1 := hW0.below hB1 hW0.lt
  have H17 := Lib.hid (beyond_two 64 64 (by omega) (by omega) w1)
  rw [hbey] at H17
  clear hbey hB0 hB1 hW0
  go_wp2_with fail
  refine H17.out.mono ?_
  rintro e w2 ⟨rfl, rfl⟩
  have hB2 := below_one hB1' (.cells #[.int .i64 (64 : Int), .int .i64 (64 : Int)] 3)
  have hW2 := hW1.alloc (.cells #[.int .i64 (64 : Int), .int .i64 (64 : Int)] 3)
  generalize w1.alloc (.cells #[.int .i64 (64 : Int), .int .i64 (64 : Int)] 3) = w2 at hB2 hW2 ⊢
  clear hB1' H17 HA hW1
  go_wp2_with fail
  refine (H1.out w2 hB2).mono ?_
  rintro e w3 ⟨rfl, hB3, hb3⟩
  have hW3 := hW2.below hb3 hW2.lt
  go_wp2_with fail
  refine (H2.out w3 hB3).mono ?_
  rintro e w4 ⟨rfl, hB4, hb4⟩
  have hW4 := hW3.below hb4 hW3.lt
  clear H1 H2 hB2 hB3 hW2 hW3 hb3 hb4
  go_wp2_with fail
  refine (H26.out w4 hB4).mono ?_
  rintro e w5 ⟨rfl, n5, rfl⟩
  have H26b := Lib.hid (H26.out (w4.drewN n5) (below_drewN hB4 n5))
  go_wp2_with fail
  refine H26b.out.mono ?_
  rintro e w6 ⟨rfl, n6, rfl⟩
  go_wp2
  go_ret
  exact ⟨rfl, below_drewN hB4 _⟩
set_option maxRecDepth 100000 in
set_option maxHeartbeats 4000000 in
theorem vecBoth_near (A B : Option Addr) (c d : Nat) (xs ys : List Int) (n : Nat) (p q : Int) (w : World) (hn : xs.length = n) (hm : ys.length = n) (h1 : 1 ≤ n) (h64 : n < 64) (hbey : bey [(n : Int), (n : Int)] = false)
    (rx : Rd .i8 w w.heap.size A xs) (ry : Rd .i8 w w.heap.size B ys) (bx : ∀ x ∈ xs, -128 ≤ x ∧ x ≤ 127) (bY : ∀ x ∈ ys, -128 ≤ x ∧ x ≤ 127) (bp : -128 ≤ p ∧ p ≤ 127) (bq : -128 ≤ q ∧ q ≤ 127) (hc : n ≤ c) (hd : n ≤ d) :
    Calls Try.prog 5 #[.slice A n c, .slice B n d, .agg #[.int .i8 p, .int .i8 q]] w fun e w' => e = .returned (.bool true) ∧ Below w.heap.size w w' := by
  have H1 := Lib.hid (fun W (hW : Below w.heap.size w W) => (dist_yes A B c d xs ys (by omega) (by omega) (by omega) n (by omega) W ((rx.below hW).more hW.size) ((ry.below hW).more hW.size) bx bY).mono fun e w' h => (⟨h.1, hW.trans (h.2.mono hW.size), h.2⟩ : e = _ ∧ Below w.heap.size w w' ∧ Below W.heap.size W w'))
  have H2 := Lib.hid (fun W (hW : Below w.heap.size w W) => (dist_yes B A d c ys xs (by omega) (by omega) (by omega) n (by omega) W ((ry.below hW).more hW.size) ((rx.below hW).more hW.size) bY bx).mono fun e w' h => (⟨h.1, hW.trans (h.2.mono hW.size), h.2⟩ : e = _ ∧ Below w.heap.size w w' ∧ Below W.heap.size W w'))
  rw [hn] at H1
  rw [hm] at H2
  rw [far_comm ys xs] at H2
  have H26 := Lib.hid (fun W (hW : Below w.heap.size w W) => same8_any A B c d xs ys W _ (rx.below hW) (ry.below hW) (by omega) (by omega))
  rw [hn, hm, eqB_far (by omega)] at H26
  have kf := far_bd bx bY (by omega)
  have hlen := bey_two hbey
  have HD2 := Lib.hid (fun W (T U : Option Addr) (tc uc : Nat) (hT : Rd .i8 W W.heap.size T (xs ++ [p])) (hU : Rd .i8 W W.heap.size U (ys ++ [q])) => dist_yes T U tc uc (xs ++ [p]) (ys ++ [q]) (by simp) (by simp; omega) (by simp; omega) (n + 1) (by simp; omega) W hT hU (fun x hx => by rcases List.mem_append.1 hx with h | h; exact bx x h; (have : x = p := by simpa using h); rw [this]; exact bp) (fun x hx => by rcases List.mem_append.1 hx with h | h; exact bY x h; (have : x = q := by simpa using h); rw [this]; exact bq))
  rw [show (xs ++ [p]).length = n + 1 by simp; omega, far_snoc xs ys p q (by omega)] at HD2
  have hsq := sq_bd (x := p - q) (by omega) (by omega)
  have HN := Lib.hid hn
  have HM := Lib.hid hm
  have kf0 : decide (far xs ys < 0) = false := decide_eq_false (by omega)
  have nef : (far xs ys != far xs ys) = false := by simp
  obtain ⟨r, hr⟩ : ∃ r, decide (far xs ys = 0) = r := ⟨_, rfl⟩
  have hr' : (far xs ys == 0) = r := by rw [← hr]; cases h : (far xs ys == 0) <;> simp_all
  rw [hr] at H26
  clear hr
  generalize far xs ys = fx at H1 H2 kf kf0 nef hr' HD2
  have hbb : (r != r) = false := by cases r <;> rfl
  have hbe : (r == r) = true := by cases r <;> rfl
  have z64 : ((n : Int) == 64) = false := by rw [beq_eq_false_iff_ne]; omega
  have HA := Lib.hid alive_any
  have hB0 : Below w.heap.size w (w.alloc (.cells #[.int .i8 p, .int .i8 q] 54)) := (Below.refl _ _).alloc (Nat.le_refl _) _
  have hW0 := Whole.new w 54 #[.int .i8 p, .int .i8 q]
  go_enter Try.func5, Try.ntmps5
  go_wp2_with fail
  refine (HA.out _).mono ?_
  rintro e w1 ⟨rfl, hB1⟩
  have hB1' := hB0.trans (hB1.mono (by simp))
  have hW1 := hW0.below hB1 hW0.lt
  have H17 := Lib.hid (beyond_two n n (by omega) (by omega) w1)
  rw [hbey] at H17
  clear hbey hB0 hB1 hW0
  go_wp2_with fail
  refine H17.out.mono ?_
  rintro e w2 ⟨rfl, rfl⟩
  have hB2 := below_one hB1' (.cells #[.int .i64 (n : Int), .int .i64 (n : Int)] 3)
  have hW2 := hW1.alloc (.cells #[.int .i64 (n : Int), .int .i64 (n : Int)] 3)
  generalize w1.alloc (.cells #[.int .i64 (n : Int), .int .i64 (n : Int)] 3) = w2 at hB2 hW2 ⊢
  clear hB1' H17 HA hW1
  go_wp2_with fail
  refine (H1.out w2 hB2).mono ?_
  rintro e w3 ⟨rfl, hB3, hb3⟩
  have hW3 := hW2.below hb3 hW2.lt
  go_wp2_with fail
  refine (H2.out w3 hB3).mono ?_
  rintro e w4 ⟨rfl, hB4, hb4⟩
  have hW4 := hW3.below hb4 hW3.lt
  clear H1 H2 hB2 hB3 hW2 hW3 hb3 hb4
  go_wp2_with fail
  refine (H26.out w4 hB4).mono ?_
  rintro e w5 ⟨rfl, n5, rfl⟩
  have hB5 := below_drewN hB4 n5
  have hW5 : Whole (w4.drewN n5) w.heap.size 54 #[.int .i8 p, .int .i8 q] := hW4
  clear H26 hB4 hW4
  generalize w4.drewN n5 = V at hB5 hW5 ⊢
  have rxV := (rx.below hB5).more hB5.size
  have ryV := (ry.below hB5).more hB5.size
  obtain ⟨bX, oX, rfl, hbX, _⟩ := rxV (by omega)
  obtain ⟨bY', oY, rfl, hbY, _⟩ := ryV (by omega)
  obtain ⟨i0, hi, hz0, hz1, hz2⟩ := info_parts Try.info53
  have hcx := rd_cells rxV
  have X1 := Lib.hid (show ∀ j u, (xs.map (Value.int .i8))[j]? = some u → V.drew.cell? ((⟨bX, oX, none⟩ : Addr).add j) = some u from hcx)
  have X2 := Lib.hid (show ∀ j u, (xs.map (Value.int .i8))[j]? = some u → (V.alloc (.cells #[.int .i8 p] 53)).drew.cell? ((⟨bX, oX, none⟩ : Addr).add j) = some u from rd_cells (rxV.below ((Below.refl _ V).alloc (Nat.le_refl _) _).drew))
  have hgw : w.heap.size < V.heap.size := hW5.lt
  have P1 := Lib.hid (show V.drew.cell? ⟨w.heap.size, 0, none⟩ = some (.int .i8 p) from by show V.cell? _ = _; rw [hW5.cell 0]; rfl)
  have P2 := Lib.hid (show (V.alloc (.cells #[.int .i8 p] 53)).drew.cell? ⟨w.heap.size, 0, none⟩ = some (.int .i8 p) from by show (V.alloc _).cell? _ = _; rw [(hW5.alloc _).cell 0]; rfl)
  have c0 : V.cell? ⟨w.heap.size, 0, none⟩ = some (.int .i8 p) := by rw [hW5.cell 0]; rfl
  clear hcx
  go_wp2
  go_region_law (first
    | (refine step_append_lies _ (by rfl) (.tmp 94) (.tmp 95) 22 (by rfl) V.heap.size 53 i0 (.int .i8 0) 1 1 Try.underlying22 hi hz0 hz1 hz2 rfl (by omega) (.slice none 0 0) 0 [] (by rfl) (World.ownsRow_nil _ _ _ _) ⟨bX, oX, none⟩ n c (xs.map (Value.int .i8)) (by rfl) (by simp [HN.out]) (by first | exact X1.out | exact X2.out) (ints_one _ _) (by omega) (by unfold maxLen; omega) (by omega) (by first | exact Nat.le_refl _ | (simp)) _ rfl ?_; intro g1 cap1 w1 hown1 hgrow1 hat1 hlt1; have e1 := (hgrow1.cell_far (a := ⟨w.heap.size, 0, none⟩) (by first | exact hgw | (simp; omega)) (by simp [Value.ownBlock])).trans (by first | exact P1.out | exact P2.out); simp only [Nat.zero_add, List.nil_append] at hown1)
    | (refine step_append_lies _ (by rfl) (.tmp 96) (.tmp 99) 22 (by rfl) V.heap.size 53 i0 (.int .i8 0) 1 1 Try.underlying22 hi hz0 hz1 hz2 rfl (by omega) (.slice (some ⟨g1, 0, none⟩) n cap1) n (xs.map (Value.int .i8)) (by rfl) (hown1.alloc _) ⟨w1.heap.size, 0, none⟩ 1 1 [.int .i8 p] (by rfl) (by rfl) (World.news_of_block (cs := #[.int .i8 p]) (t := 53) (fr := (0, 0)) (heap_alloc_new w1 _)) (by simp [Value.oneCell']) (by omega) (by unfold maxLen; omega) (by omega) (by have := hgrow1.size; simp at this ⊢; omega) _ rfl ?_; intro g2 cap2 w2x hown2 hgrow2 hat2 hlt2; have hBe : Below V.heap.size V w2x := (((Below.refl _ V).drew.grown hgrow1 (Nat.le_refl _) (by simp [Value.ownBlock])).alloc (by have := hgrow1.size; simpa using this) _).grown hgrow2 (by have := hgrow1.size; simp at this ⊢; omega) (fun j hj => (hown1.lt j hj).1))
    | (refine step_append_lies _ (by rfl) (.tmp 96) (.tmp 99) 22 (by rfl) V.heap.size 53 i0 (.int .i8 0) 1 1 Try.underlying22 hi hz0 hz1 hz2 rfl (by omega) (.slice (some ⟨g1, 0, none⟩) n cap1) n (xs.map (Value.int .i8)) (by rfl) (hown1) ⟨V.heap.size, 0, none⟩ 1 1 [.int .i8 p] (by rfl) (by rfl) (World.news_of_block (cs := #[.int .i8 p]) (t := 53) (fr := (0, 0)) ((hgrow1.block V.heap.size (by simp) (by simp [Value.ownBlock])).trans (heap_alloc_new V _))) (by simp [Value.oneCell']) (by omega) (by unfold maxLen; omega) (by omega) (by have := hgrow1.size; simp at this ⊢; omega) _ rfl ?_; intro g2 cap2 w2x hown2 hgrow2 hat2 hlt2; have hBe : Below V.heap.size V w2x := ((((Below.refl _ V).alloc (Nat.le_refl _) _).drew).grown hgrow1 (by simp) (by simp [Value.ownBlock])).grown hgrow2 (by have := hgrow1.size; simp at this ⊢; omega) (fun j hj => (hown1.lt j hj).1)))
  all_goals
    have hT : Rd .i8 w2x w2x.heap.size (some ⟨g2, 0, none⟩) (xs ++ [p]) := rd_own (by rw [List.map_append]; exact hown2)
    have hBV := hB5.trans (hBe.mono hB5.size)
    have hWV := hW5.below hBe hgw
    have ryW := (ryV.below hBe).more hBe.size
    clear hown2 hgrow2 hat2 hown1 hgrow1 hat1 e1 X1 X2 P1 P2 c0 rxV ryV hBe hB5 hW5 hgw hbX
    have hgw : w.heap.size < w2x.heap.size := hWV.lt
    have X1 := Lib.hid (show ∀ j u, (ys.map (Value.int .i8))[j]? = some u → w2x.drew.cell? ((⟨bY', oY, none⟩ : Addr).add j) = some u from rd_cells ryW)
    have X2 := Lib.hid (show ∀ j u, (ys.map (Value.int .i8))[j]? = some u → (w2x.alloc (.cells #[.int .i8 q] 53)).drew.cell? ((⟨bY', oY, none⟩ : Addr).add j) = some u from rd_cells (ryW.below ((Below.refl _ w2x).alloc (Nat.le_refl _) _).drew))
    have P1 := Lib.hid (show w2x.drew.cell? ⟨w.heap.size, 1, none⟩ = some (.int .i8 q) from by show w2x.cell? _ = _; rw [hWV.cell 1]; rfl)
    have P2 := Lib.hid (show (w2x.alloc (.cells #[.int .i8 q] 53)).drew.cell? ⟨w.heap.size, 1, none⟩ = some (.int .i8 q) from by show (w2x.alloc _).cell? _ = _; rw [(hWV.alloc _).cell 1]; rfl)
    have c1 : w2x.cell? ⟨w.heap.size, 1, none⟩ = some (.int .i8 q) := by rw [hWV.cell 1]; rfl
    generalize w2x = V2 at hT hBV hWV ryW hgw X1 X2 P1 P2 c1 hlt2 ⊢
    generalize g2 = gT at hT hlt2 ⊢
    generalize cap2 = cT at ⊢
    go_wp2
    go_region_law (first
      | (refine step_append_lies _ (by rfl) (.tmp 101) (.tmp 102) 22 (by rfl) V2.heap.size 53 i0 (.int .i8 0) 1 1 Try.underlying22 hi hz0 hz1 hz2 rfl (by omega) (.slice none 0 0) 0 [] (by rfl) (World.ownsRow_nil _ _ _ _) ⟨bY', oY, none⟩ n d (ys.map (Value.int .i8)) (by rfl) (by simp [HM.out]) (by first | exact X1.out | exact X2.out) (ints_one _ _) (by omega) (by unfold maxLen; omega) (by omega) (by first | exact Nat.le_refl _ | (simp)) _ rfl ?_; intro g1 cap1 w1 hown1 hgrow1 hat1 hlt1; have e1 := (hgrow1.cell_far (a := ⟨w.heap.size, 1, none⟩) (by first | exact hgw | (simp; omega)) (by simp [Value.ownBlock])).trans (by first | exact P1.out | exact P2.out); simp only [Nat.zero_add, List.nil_append] at hown1)
      | (refine step_append_lies _ (by rfl) (.tmp 103) (.tmp 106) 22 (by rfl) V2.heap.size 53 i0 (.int .i8 0) 1 1 Try.underlying22 hi hz0 hz1 hz2 rfl (by omega) (.slice (some ⟨g1, 0, none⟩) n cap1) n (ys.map (Value.int .i8)) (by rfl) (hown1.alloc _) ⟨w1.heap.size, 0, none⟩ 1 1 [.int .i8 q] (by rfl) (by rfl) (World.news_of_block (cs := #[.int .i8 q]) (t := 53) (fr := (0, 0)) (heap_alloc_new w1 _)) (by simp [Value.oneCell']) (by omega) (by unfold maxLen; omega) (by omega) (by have := hgrow1.size; simp at this ⊢; omega) _ rfl ?_; intro g2 cap2 w2x hown2 hgrow2 hat2 hlt2; have hBe : Below V2.heap.size V2 w2x := (((Below.refl _ V2).drew.grown hgrow1 (Nat.le_refl _) (by simp [Value.ownBlock])).alloc (by have := hgrow1.size; simpa using this) _).grown hgrow2 (by have := hgrow1.size; simp at this ⊢; omega) (fun j hj => (hown1.lt j hj).1))
      | (refine step_append_lies _ (by rfl) (.tmp 103) (.tmp 106) 22 (by rfl) V2.heap.size 53 i0 (.int .i8 0) 1 1 Try.underlying22 hi hz0 hz1 hz2 rfl (by omega) (.slice (some ⟨g1, 0, none⟩) n cap1) n (ys.map (Value.int .i8)) (by rfl) (hown1) ⟨V2.heap.size, 0, none⟩ 1 1 [.int .i8 q] (by rfl) (by rfl) (World.news_of_block (cs := #[.int .i8 q]) (t := 53) (fr := (0, 0)) ((hgrow1.block V2.heap.size (by simp) (by simp [Value.ownBlock])).trans (heap_alloc_new V2 _))) (by simp [Value.oneCell']) (by omega) (by unfold maxLen; omega) (by omega) (by have := hgrow1.size; simp at this ⊢; omega) _ rfl ?_; intro g2 cap2 w2x hown2 hgrow2 hat2 hlt2; have hBe : Below V2.heap.size V2 w2x := ((((Below.refl _ V2).alloc (Nat.le_refl _) _).drew).grown hgrow1 (by simp) (by simp [Value.ownBlock])).grown hgrow2 (by have := hgrow1.size; simp at this ⊢; omega) (fun j hj => (hown1.lt j hj).1)))
    all_goals
      have hU : Rd .i8 w2x w2x.heap.size (some ⟨g2, 0, none⟩) (ys ++ [q]) := rd_own (by rw [List.map_append]; exact hown2)
      have hBX := hBV.trans (hBe.mono hBV.size)
      have hTX := (hT.below hBe).more hBe.size
      have hWX := hWV.below hBe hgw
      have c0 : w2x.cell? ⟨w.heap.size, 0, none⟩ = some (.int .i8 p) := by rw [hWX.cell 0]; rfl
      have c1' : w2x.cell? ⟨w.heap.size, 1, none⟩ = some (.int .i8 q) := by rw [hWX.cell 1]; rfl
      have H3 := Lib.hid (HD2.out w2x _ _ cT cap2 hTX hU)
      clear hown2 hgrow2 hat2 hown1 hgrow1 hat1 e1 X1 X2 P1 P2 c1 ryW hBe hBV hWV hgw HD2 hT hU hTX hWX
      go_wp2_with fail
      refine H3.out.mono ?_
      rintro e w9 ⟨rfl, hB9⟩
      go_wp2
      go_ret
      exact ⟨rfl, hBX.trans (hB9.mono hBX.size)⟩
end Go.Proofs.Ytegphnlfhcokfaa
