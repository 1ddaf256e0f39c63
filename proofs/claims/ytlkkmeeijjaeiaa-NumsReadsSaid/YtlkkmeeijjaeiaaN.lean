/- The walk of the statement NumsItemBack. -/
import Derived.Test.YtlkkmeeijjaeiaaL
import Derived.Test.YtlkkmeeijjaeiaaM
namespace Go.Proofs.Ytlkkmeeijjaeiaa
open Go.RowKit
set_option linter.unusedVariables false
theorem sgn_of_mod (v : Int) (h : -128 ≤ v ∧ v ≤ 127) : sgn (v % 256) = v := by unfold sgn; split <;> omega
theorem map_mod_sgn : ∀ vs : List Int, (∀ x ∈ vs, -128 ≤ x ∧ x ≤ 127) → (vs.map (· % 256)).map sgn = vs
  | [], _ => rfl
  | x :: r, h => by
    simp only [List.map_cons]
    rw [sgn_of_mod x (h x (by simp)), map_mod_sgn r (fun y hy => h y (by simp [hy]))]
theorem mod_byte (vs : List Int) : ∀ x ∈ vs.map (· % 256), 0 ≤ x ∧ x ≤ 255 := by
  intro x hx
  simp only [List.mem_map] at hx
  obtain ⟨y, _, rfl⟩ := hx
  omega
theorem putItemL_byte (id : Nat) (vs : List Int) : ∀ x ∈ putItemL id vs, 0 ≤ x ∧ x ≤ 255 := by
  intro x hx
  unfold putItemL at hx
  simp only [List.mem_append] at hx
  rcases hx with (hx | hx) | hx
  · exact putL_byte _ x hx
  · exact putL_byte _ x hx
  · exact mod_byte vs x hx
/-- What GetItem says where the ID's bytes stand first. -/
theorem itR_put (id : Nat) (hid : id ≤ 4611686018427387903) (rest : List Int) : getE (putL id ++ rest) = 0 ∧ getN (putL id ++ rest) = id ∧ itR (putL id ++ rest) = rest ∧ getK (putL id ++ rest) = (putL id).length := by
  obtain ⟨g1, g2, g3⟩ := get_put id rest hid
  refine ⟨g1, g2, ?_, g3⟩
  unfold itR
  rw [g3, Int.toNat_natCast, List.drop_left]
theorem item_put (id : Nat) (vs more : List Int) (hid : id ≤ 4611686018427387903) (h1 : 1 ≤ vs.length) (h64 : vs.length ≤ 64) (hb : ∀ x ∈ vs, -128 ≤ x ∧ x ≤ 127) :
    itE (putItemL id vs ++ more) = 0 ∧ getN (putItemL id vs ++ more) = id ∧ (itV (putItemL id vs ++ more)).map sgn = vs ∧ itK (putItemL id vs ++ more) = (putItemL id vs).length := by
  have e : putItemL id vs ++ more = putL id ++ (putL vs.length ++ (vs.map (· % 256) ++ more)) := by unfold putItemL; simp only [List.append_assoc]
  obtain ⟨g1, g2, g3, g4⟩ := itR_put id hid (putL vs.length ++ (vs.map (· % 256) ++ more))
  obtain ⟨k1, k2, k3⟩ := get_put vs.length (vs.map (· % 256) ++ more) (by omega)
  rw [e]
  have hd : isDimB (vs.length : Int) = true := by unfold isDimB; simp; omega
  have hV : itV (putL id ++ (putL vs.length ++ (vs.map (· % 256) ++ more))) = vs.map (· % 256) := by
    unfold itV
    rw [g3, k3, k2, Int.toNat_natCast, Int.toNat_natCast, List.drop_left]
    have : vs.length = (vs.map (· % 256)).length := by rw [List.length_map]
    rw [this, List.take_left]
  refine ⟨?_, g2, by rw [hV, map_mod_sgn vs hb], ?_⟩
  · unfold itE
    rw [if_neg (by omega), g3, if_neg (by omega), k2, if_neg (by rw [hd]; decide), k3, if_neg (by simp only [List.length_append, List.length_map]; omega)]
  · unfold itK
    rw [g4, g3, k3, k2]
    unfold putItemL
    simp only [List.length_append, List.length_map]
    omega
theorem itE_first {xs : List Int} (h : getE xs = 4) : itE xs = 4 := by unfold itE; rw [if_pos (by omega), h]
/-- Of fewer bytes no item is got: they are too short. -/
theorem item_fewer (id : Nat) (vs : List Int) (i : Nat) (hid : id ≤ 4611686018427387903) (h1 : 1 ≤ vs.length) (h64 : vs.length ≤ 64) (hi : i < (putItemL id vs).length) : itE ((putItemL id vs).take i) = 4 := by
  have e : putItemL id vs = putL id ++ (putL vs.length ++ vs.map (· % 256)) := by unfold putItemL; simp only [List.append_assoc]
  rw [e] at hi ⊢
  by_cases c1 : i < (putL id).length
  · rw [List.take_append_of_le_length (by omega)]
    exact itE_first (get_fewer id i hid c1)
  · obtain ⟨j, rfl⟩ : ∃ j, i = (putL id).length + j := ⟨i - (putL id).length, by omega⟩
    rw [List.take_append]
    have t1 : (putL id).take ((putL id).length + j) = putL id := List.take_of_length_le (by omega)
    have t2 : (putL id).length + j - (putL id).length = j := by omega
    rw [t1, t2]
    rw [List.length_append] at hi
    obtain ⟨g1, g2, g3, g4⟩ := itR_put id hid ((putL vs.length ++ vs.map (· % 256)).take j)
    by_cases c2 : j < (putL vs.length).length
    · have : getE ((putL vs.length ++ vs.map (· % 256)).take j) = 4 := by
        rw [List.take_append_of_le_length (by omega)]
        exact get_fewer vs.length j (by omega) c2
      unfold itE
      rw [if_neg (by omega), g3, if_pos (by omega), this]
    · obtain ⟨m, rfl⟩ : ∃ m, j = (putL vs.length).length + m := ⟨j - (putL vs.length).length, by omega⟩
      have t3 : (putL vs.length ++ vs.map (· % 256)).take ((putL vs.length).length + m) = putL vs.length ++ (vs.map (· % 256)).take m := by
        rw [List.take_append, List.take_of_length_le (by omega), Nat.add_sub_cancel_left]
      rw [t3] at g1 g2 g3 g4 ⊢
      obtain ⟨k1, k2, k3⟩ := get_put vs.length ((vs.map (· % 256)).take m) (by omega)
      have hd : isDimB (vs.length : Int) = true := by unfold isDimB; simp; omega
      rw [List.length_append, List.length_map] at hi
      unfold itE
      rw [if_neg (by omega), g3, if_neg (by omega), k2, if_neg (by rw [hd]; decide), k3, if_pos (by simp only [List.length_append, List.length_take, List.length_map]; omega)]
set_option maxHeartbeats 400000 in
theorem sameInt8s_any (T A : Option Addr) (tc c : Nat) (xs : List Int) (n m : Nat) (hn : n = xs.length) (hm : m = xs.length) (w : World) (B : Nat) (hx : Rd .i8 w B A xs) (ht : Rd .i8 w B T xs) (hl : xs.length ≤ 140737488355328) :
    Calls Try.prog 79 #[.slice T n tc, .slice A m c] w fun e w' => e = .returned (.bool true) ∧ ∃ nq, w' = w.drewN nq := by
  subst hn hm
  go_enter Try.func79, Try.ntmps79
  go_wp2
  go_loopw [5] (fun i wr => ∃ k nq : Nat, k ≤ xs.length ∧ i = .int .i64 k ∧ wr = w.drewN nq) (fun i _ => xs.length - (intOf i).toNat)
  case atStart => exact ⟨0, 0, by omega, rfl, rfl⟩
  case round =>
    obtain ⟨k, nq, hk, rfl, rfl⟩ := hrel
    by_cases hlt : k < xs.length
    · obtain ⟨b, off, v, rfl, hBb, hck, hv⟩ := hx.at_ hlt
      obtain ⟨tb, toff, v', rfl, _, htck, hv'⟩ := ht.at_ hlt
      have e : v' = v := by rw [← hv.out, ← hv'.out]
      subst e
      clear hv hv'
      have h1 : (0 : Int) ≤ (k : Int) := by omega
      have h2 : (k : Int) < (xs.length : Int) := by omega
      go_wp2
      go_quiet (fail)
      go_wp2
      go_roundw
      case rel => exact ⟨k + 1, _, by omega, by go_num, rfl⟩
      case measure => simp [intOf]; omega
    · obtain rfl : k = xs.length := by omega
      go_wp2
      go_ret
      exact ⟨rfl, _, rfl⟩
set_option maxHeartbeats 400000 in
theorem sameItem_any (id : Int) (T A : Option Addr) (tc c : Nat) (xs : List Int) (n m : Nat) (hn : n = xs.length) (hm : m = xs.length) (w : World) (hx : Rd .i8 w w.heap.size A xs) (ht : Rd .i8 w w.heap.size T xs) (hl : xs.length ≤ 140737488355328) :
    Calls Try.prog 33 #[.agg #[.int .u64 id, .slice T n tc], .agg #[.int .u64 id, .slice A m c]] w fun e w' => e = .returned (.bool true) ∧ Below w.heap.size w w' := by
  have hB : Below w.heap.size w ((w.alloc (.cells #[.int .u64 id, .slice T n tc] 54)).alloc (.cells #[.int .u64 id, .slice A m c] 54)) := ((Below.refl _ _).alloc (Nat.le_refl _) _).alloc (by simp) _
  have S := Lib.hid (sameInt8s_any T A tc c xs n m hn hm _ _ (hx.below hB) (ht.below hB) hl)
  clear hx ht hn hm
  go_enter Try.func33, Try.ntmps33
  go_wp2_with fail
  refine S.out.mono ?_
  rintro e w' ⟨rfl, nq, rfl⟩
  go_wp2
  go_ret
  exact ⟨rfl, below_drewN hB nq⟩
theorem bey_two (w : World) (n m : Nat) (hn : n ≤ 140737488355328) (hm : m ≤ 140737488355328) : Calls Try.prog 21 #[.slice (some ⟨w.heap.size, 0, none⟩) 2 2] (w.alloc (.cells #[.int .i64 (n : Int), .int .i64 (m : Int)] 3)) fun e w' => e = .returned (.bool (bey [(n : Int), (m : Int)])) ∧ w.alloc (.cells #[.int .i64 (n : Int), .int .i64 (m : Int)] 3) = w' :=
  beyond_any (some ⟨w.heap.size, 0, none⟩) 2 [(n : Int), (m : Int)] 2 rfl _ (w.heap.size + 1) (rd_new w .i64 3 [(n : Int), (m : Int)]) (by simp; omega) (by simp)
theorem bey_false2 {n m : Nat} (h : bey [(n : Int), (m : Int)] = false) : n ≤ 1048576 ∧ m ≤ 1048576 := by unfold bey at h; simp at h; omega

set_option maxRecDepth 100000 in
set_option maxHeartbeats 1000000 in
theorem numsItemBack_far (id : Int) (V A : Option Addr) (nv cv c : Nat) (ys : List Int) (w : World) (hnv : nv ≤ 140737488355328) (hc : ys.length ≤ c) (hm : c ≤ 140737488351232) (hbey : bey [(nv : Int), (ys.length : Int)] = true) :
    Calls Try.prog 10 #[.agg #[.int .u64 id, .slice V nv cv], .slice A ys.length c] w fun e w' => e = .returned (.bool true) ∧ Below w.heap.size w w' := by
  have AL := Lib.hid alive_any
  have BY := Lib.hid (fun W => bey_two W nv ys.length hnv (by omega))
  rw [hbey] at BY
  clear hbey
  obtain ⟨w0, hw0⟩ : ∃ w0, w.alloc (.cells #[.int .u64 id, .slice V nv cv] 54) = w0 := ⟨_, rfl⟩
  have hB0 : Below w.heap.size w w0 := by rw [← hw0]; exact (Below.refl _ _).alloc (Nat.le_refl _) _
  have hs0 : w.heap.size < w0.heap.size := by rw [← hw0]; simp
  have hc1 : w0.cell? ⟨w.heap.size, 1, none⟩ = some (.slice V nv cv) := by rw [← hw0]; simp [go_sem]
  go_enter Try.func10, Try.ntmps10
  go_wp2_with fail
  refine (AL.out w0).mono ?_
  rintro e w1 ⟨rfl, hB1⟩
  clear hw0
  have hc2 : w1.cell? ⟨w.heap.size, 1, none⟩ = some (.slice V nv cv) := (hB1.cell (p := ⟨w.heap.size, 1, none⟩) hs0).trans hc1
  have hB1' : Below w.heap.size w w1 := hB0.trans (hB1.mono (by omega))
  clear hc1 hB1
  go_wp2_with fail
  refine (BY.out w1).mono ?_
  rintro e w' ⟨rfl, rfl⟩
  have hB2 : Below w.heap.size w (w1.alloc (.cells #[.int .i64 (nv : Int), .int .i64 (ys.length : Int)] 3)) := hB1'.alloc hB1'.size _
  clear hc2
  generalize w1.alloc (.cells #[.int .i64 (nv : Int), .int .i64 (ys.length : Int)] 3) = w2 at *
  go_wp2_with fail
  refine (AL.out w2).mono ?_
  rintro e w3 ⟨rfl, hB3⟩
  have hB : Below w.heap.size w w3 := hB2.trans (hB3.mono hB2.size)
  go_wp2
  go_ret
  exact ⟨rfl, hB⟩

set_option maxRecDepth 100000 in
set_option maxHeartbeats 1000000 in
theorem numsItemBack_no (id : Int) (V A : Option Addr) (nv cv c : Nat) (ys : List Int) (w : World) (hnv : nv ≤ 140737488355328) (hc : ys.length ≤ c) (hm : c ≤ 140737488351232) (hbey : bey [(nv : Int), (ys.length : Int)] = false)
    (hid : 0 ≤ id) (h : 4611686018427387903 < id ∨ isDimB nv = false) :
    Calls Try.prog 10 #[.agg #[.int .u64 id, .slice V nv cv], .slice A ys.length c] w fun e w' => e = .returned (.bool true) ∧ Below w.heap.size w w' := by
  have hcase : 4611686018427387904 ≤ id ∨ (¬ 4611686018427387904 ≤ id ∧ ((nv : Int) == 0) = true) ∨ (¬ 4611686018427387904 ≤ id ∧ ((nv : Int) == 0) = false ∧ 64 < (nv : Int)) := by
    by_cases h1 : 4611686018427387904 ≤ id
    · exact .inl h1
    · have h2 : isDimB nv = false := by rcases h with h | h; · omega
                                        · exact h
      unfold isDimB at h2
      simp at h2
      by_cases h3 : nv = 0
      · exact .inr (.inl ⟨h1, by simp [h3]⟩)
      · exact .inr (.inr ⟨h1, by simpa using h3, by omega⟩)
  have PN := Lib.hid (fun W => putItem_no id V nv cv W h hid (by omega))
  have HC := Lib.hid hcase
  clear h hcase hid
  have AL := Lib.hid alive_any
  have BY := Lib.hid (fun W => bey_two W nv ys.length (by omega) (by omega))
  rw [hbey] at BY
  clear hbey
  obtain ⟨w0, hw0⟩ : ∃ w0, w.alloc (.cells #[.int .u64 id, .slice V nv cv] 54) = w0 := ⟨_, rfl⟩
  have hB0 : Below w.heap.size w w0 := by rw [← hw0]; exact (Below.refl _ _).alloc (Nat.le_refl _) _
  have hs0 : w.heap.size < w0.heap.size := by rw [← hw0]; simp
  have hc0 : w0.cell? ⟨w.heap.size, 0, none⟩ = some (.int .u64 id) := by rw [← hw0]; simp [go_sem]
  have hc1 : w0.cell? ⟨w.heap.size, 1, none⟩ = some (.slice V nv cv) := by rw [← hw0]; simp [go_sem]
  go_enter Try.func10, Try.ntmps10
  go_wp2_with fail
  refine (AL.out w0).mono ?_
  rintro e w1 ⟨rfl, hB1⟩
  clear hw0
  have hd1 : w1.cell? ⟨w.heap.size, 0, none⟩ = some (.int .u64 id) := (hB1.cell (p := ⟨w.heap.size, 0, none⟩) hs0).trans hc0
  have hd2 : w1.cell? ⟨w.heap.size, 1, none⟩ = some (.slice V nv cv) := (hB1.cell (p := ⟨w.heap.size, 1, none⟩) hs0).trans hc1
  have hB1' : Below w.heap.size w w1 := hB0.trans (hB1.mono (by omega))
  have hs1 : w.heap.size < w1.heap.size := by have := hB1.size; omega
  clear hc0 hc1 hB1 hB0
  go_wp2_with fail
  refine (BY.out w1).mono ?_
  rintro e w' ⟨rfl, rfl⟩
  have hB2 : Below w.heap.size w (w1.alloc (.cells #[.int .i64 (nv : Int), .int .i64 (ys.length : Int)] 3)) := hB1'.alloc hB1'.size _
  have hBb : Below w1.heap.size w1 (w1.alloc (.cells #[.int .i64 (nv : Int), .int .i64 (ys.length : Int)] 3)) := (Below.refl _ _).alloc (Nat.le_refl _) _
  generalize w1.alloc (.cells #[.int .i64 (nv : Int), .int .i64 (ys.length : Int)] 3) = w2 at *
  have hc0 : w2.cell? ⟨w.heap.size, 0, none⟩ = some (.int .u64 id) := (hBb.cell (p := ⟨w.heap.size, 0, none⟩) hs1).trans hd1
  have hc1 : w2.cell? ⟨w.heap.size, 1, none⟩ = some (.slice V nv cv) := (hBb.cell (p := ⟨w.heap.size, 1, none⟩) hs1).trans hd2
  have hs2 : w.heap.size < w2.heap.size := by have := hBb.size; omega
  clear hd1 hd2 hB1' hBb hs1 hs0 AL BY
  go_wp2_with fail
  refine (PN.out w2).mono ?_
  rintro e w3 ⟨rfl, hB3⟩
  have hd0 : w3.cell? ⟨w.heap.size, 0, none⟩ = some (.int .u64 id) := (hB3.cell (p := ⟨w.heap.size, 0, none⟩) hs2).trans hc0
  have hd1 : w3.cell? ⟨w.heap.size, 1, none⟩ = some (.slice V nv cv) := (hB3.cell (p := ⟨w.heap.size, 1, none⟩) hs2).trans hc1
  have hB3' : Below w.heap.size w w3 := hB2.trans (hB3.mono hB2.size)
  clear PN hc0 hc1 hB3 hB2
  rcases HC.out with h1 | ⟨h1, h2⟩ | ⟨h1, h2, h3⟩
  all_goals
    clear HC
    go_wp2
    go_ret
    exact ⟨rfl, hB3'⟩

set_option maxRecDepth 100000 in
set_option maxHeartbeats 4000000 in
theorem numsItemBack_yes (N : Nat) (V A : Option Addr) (vs : List Int) (nv cv c : Nat) (hnv' : nv = vs.length) (ys : List Int) (w : World) (hc : ys.length ≤ c) (hm : c ≤ 140737488351232) (hbey : bey [(nv : Int), (ys.length : Int)] = false)
    (hid : N ≤ 4611686018427387903) (h1 : 1 ≤ vs.length) (h64 : vs.length ≤ 64) (hv : Rd .i8 w w.heap.size V vs) (hvb : ∀ x ∈ vs, -128 ≤ x ∧ x ≤ 127)
    (hx : Rd .u8 w w.heap.size A ys) (hb : ∀ x ∈ ys, 0 ≤ x ∧ x ≤ 255) (hnil : A = none → c = 0) :
    Calls Try.prog 10 #[.agg #[.int .u64 (N : Int), .slice V nv cv], .slice A ys.length c] w fun e w' => e = .returned (.bool true) ∧ Below w.heap.size w w' := by
  have hyl := (bey_false2 hbey).2
  have hnv : nv ≤ 140737488355328 := by omega
  obtain ⟨i0, hi, hz0, hz1, hz2⟩ := info_parts Try.info5p
  have HF := Lib.hid (fun i (hi : i < (putItemL N vs).length) => item_fewer N vs i hid h1 h64 hi)
  obtain ⟨q1, q2, q3, q4⟩ := item_put N vs ys hid h1 h64 hvb
  have Q1 := Lib.hid q1
  have Q2 := Lib.hid q2
  have Q3 := Lib.hid q3
  have Q4 := Lib.hid q4
  have PY := Lib.hid (fun W (hv : Rd .i8 W W.heap.size V vs) => putItem_yes N V vs nv cv hnv' W hid h1 h64 hv hvb)
  have HBY := Lib.hid (putItemL_byte N vs)
  have hLm : (putItemL N vs).length ≤ 1000 := by
    have a1 := putL_len9 N hid
    have a2 := putL_len9 vs.length (by omega)
    unfold putItemL; simp only [List.length_append, List.length_map]; omega
  have hLp : 0 < (putItemL N vs).length := by
    have := putL_ne N
    unfold putItemL; simp only [List.length_append, List.length_map]; omega
  have HNV := Lib.hid hnv'
  have HVB := Lib.hid hvb
  clear q1 q2 q3 q4 hnv' hvb hid
  have AL := Lib.hid alive_any
  have BY := Lib.hid (fun W => bey_two W nv ys.length (by omega) (by omega))
  rw [hbey] at BY
  clear hbey
  obtain ⟨w0, hw0⟩ : ∃ w0, w.alloc (.cells #[.int .u64 (N : Int), .slice V nv cv] 54) = w0 := ⟨_, rfl⟩
  have hB0 : Below w.heap.size w w0 := by rw [← hw0]; exact (Below.refl _ _).alloc (Nat.le_refl _) _
  have hs0 : w.heap.size < w0.heap.size := by rw [← hw0]; simp
  have hc0 : w0.cell? ⟨w.heap.size, 0, none⟩ = some (.int .u64 (N : Int)) := by rw [← hw0]; simp [go_sem]
  have hc1 : w0.cell? ⟨w.heap.size, 1, none⟩ = some (.slice V nv cv) := by rw [← hw0]; simp [go_sem]
  go_enter Try.func10, Try.ntmps10
  go_wp2_with fail
  refine (AL.out w0).mono ?_
  rintro e w1 ⟨rfl, hB1⟩
  clear hw0
  have hd1 : w1.cell? ⟨w.heap.size, 0, none⟩ = some (.int .u64 (N : Int)) := (hB1.cell (p := ⟨w.heap.size, 0, none⟩) hs0).trans hc0
  have hd2 : w1.cell? ⟨w.heap.size, 1, none⟩ = some (.slice V nv cv) := (hB1.cell (p := ⟨w.heap.size, 1, none⟩) hs0).trans hc1
  have hB1' : Below w.heap.size w w1 := hB0.trans (hB1.mono (by omega))
  have hs1 : w.heap.size < w1.heap.size := by have := hB1.size; omega
  clear hc0 hc1 hB1 hB0
  go_wp2_with fail
  refine (BY.out w1).mono ?_
  rintro e w' ⟨rfl, rfl⟩
  have hB2 : Below w.heap.size w (w1.alloc (.cells #[.int .i64 (nv : Int), .int .i64 (ys.length : Int)] 3)) := hB1'.alloc hB1'.size _
  have hBb : Below w1.heap.size w1 (w1.alloc (.cells #[.int .i64 (nv : Int), .int .i64 (ys.length : Int)] 3)) := (Below.refl _ _).alloc (Nat.le_refl _) _
  generalize w1.alloc (.cells #[.int .i64 (nv : Int), .int .i64 (ys.length : Int)] 3) = w2 at *
  have hc0 : w2.cell? ⟨w.heap.size, 0, none⟩ = some (.int .u64 (N : Int)) := (hBb.cell (p := ⟨w.heap.size, 0, none⟩) hs1).trans hd1
  have hc1 : w2.cell? ⟨w.heap.size, 1, none⟩ = some (.slice V nv cv) := (hBb.cell (p := ⟨w.heap.size, 1, none⟩) hs1).trans hd2
  have hs2 : w.heap.size < w2.heap.size := by have := hBb.size; omega
  clear hd1 hd2 hB1' hBb hs1 hs0 AL BY
  have PI := Lib.hid (PY.out w2 ((hv.below hB2).more hB2.size))
  go_wp2_with fail
  refine PI.out.mono ?_
  rintro e w3 ⟨g, cap, rfl, hown, hB3⟩
  clear PI PY
  obtain ⟨L, hL⟩ : ∃ L, (putItemL N vs).length = L := ⟨_, rfl⟩
  rw [hL] at hown hLm hLp HF Q4 ⊢
  have HL := Lib.hid hL
  have hB3' : Below w.heap.size w w3 := hB2.trans (hB3.mono hB2.size)
  have hd0 : w3.cell? ⟨w.heap.size, 0, none⟩ = some (.int .u64 (N : Int)) := (hB3.cell (p := ⟨w.heap.size, 0, none⟩) hs2).trans hc0
  have hd1 : w3.cell? ⟨w.heap.size, 1, none⟩ = some (.slice V nv cv) := (hB3.cell (p := ⟨w.heap.size, 1, none⟩) hs2).trans hc1
  have hs3 : w.heap.size < w3.heap.size := by have := hB3.size; omega
  have hb3 := hB3.size
  obtain ⟨hcap, hcapm⟩ := own_cap hown
  unfold maxLen at hcapm
  clear hc0 hc1 hB2 hB3 hL
  go_wp2_with fail
  go_loopw [7] (fun i wr => ∃ k : Nat, k ≤ L ∧ i = .int .i64 k ∧ Below w3.heap.size w3 wr) (fun i _ => L - (intOf i).toNat)
  case atStart => exact ⟨0, by omega, rfl, Below.refl _ _⟩
  case round =>
    obtain ⟨k, hk, rfl, hB⟩ := hrel
    have hsz := hB.size
    by_cases hlt : k < L
    · have hrd : Rd .u8 wr wr.heap.size (some ⟨g, 0, none⟩) ((putItemL N vs).take k) := (((rd_own hown).below hB).more hsz).take k
      have GI := Lib.hid (getItem_bad (some ⟨g, 0, none⟩) cap ((putItemL N vs).take k) k (by rw [List.length_take, HL.out]; omega) wr hrd (byte_take HBY.out _) (by rw [List.length_take, HL.out]; omega) (by rw [List.length_take, HL.out]; omega) (by rw [HF.out k hlt]; decide))
      rw [HF.out k hlt] at GI
      clear hrd hown hv hx
      go_wp2_with fail
      refine GI.out.mono ?_
      rintro e w7 ⟨he, hB7⟩
      unfold itNo at he
      subst he
      have hB8 : Below w3.heap.size w3 (w7.alloc (.cells #[.int .u64 0, .slice none 0 0] 54)) := (hB.trans (hB7.mono hsz)).alloc (by have := hB7.size; omega) _
      clear GI hB7 hB
      go_wp2
      go_roundw
      case rel => exact ⟨k + 1, by omega, by go_num, hB8⟩
      case measure => simp [intOf]; omega
    · obtain rfl : k = L := by omega
      have hown' := own_keep hown hB
      have hBw : Below w.heap.size w wr := hB3'.trans (hB.mono (by omega))
      have he0 : wr.cell? ⟨w.heap.size, 0, none⟩ = some (.int .u64 (N : Int)) := (hB.cell (p := ⟨w.heap.size, 0, none⟩) hs3).trans hd0
      have he1 : wr.cell? ⟨w.heap.size, 1, none⟩ = some (.slice V nv cv) := (hB.cell (p := ⟨w.heap.size, 1, none⟩) hs3).trans hd1
      have hxr : Rd .u8 wr w.heap.size A ys := hx.below hBw
      have hvr : Rd .i8 wr w.heap.size V vs := hv.below hBw
      have hsr : w.heap.size < wr.heap.size := by omega
      have hvw := hv
      clear hown hd0 hd1 hB hx hv HF hvr
      have GA : Hid (∀ (v' : Value) (w6 : World), w6.ownsRow w2.heap.size 5 1 v' (k + ys.length) ((putItemL N vs).map (Value.int .u8) ++ ys.map (Value.int .u8)) → ∃ g' cap', v' = .slice (some ⟨g', 0, none⟩) (k + ys.length) cap' ∧
          Calls Try.prog 31 #[.slice (some ⟨g', 0, none⟩) (k + ys.length) cap'] w6 (GetItemYes w6 (putItemL N vs ++ ys))) := by
        intro v' w6 ho
        obtain ⟨g', cap', rfl⟩ := slice_of_own ho (by omega)
        rw [← List.map_append] at ho
        obtain ⟨c1, c2⟩ := own_cap ho
        unfold maxLen at c2
        have hlen : (putItemL N vs ++ ys).length = k + ys.length := by rw [List.length_append, HL.out]
        exact ⟨g', cap', rfl, getItem_good (some ⟨g', 0, none⟩) cap' (putItemL N vs ++ ys) (k + ys.length) hlen.symm w6 (rd_own ho) (by
          intro x hx
          rw [List.mem_append] at hx
          rcases hx with hx | hx
          · exact HBY.out x hx
          · exact hb x hx) (by omega) (by omega) Q1.out⟩
      clear Q1 HBY HL
      obtain ⟨zs, hzs⟩ : ∃ zs, putItemL N vs ++ ys = zs := ⟨_, rfl⟩
      rw [hzs] at GA Q2 Q3 Q4
      have HZ := Lib.hid hzs
      clear hzs
      have hv0 : Rd .i8 w w.heap.size V vs := hvw
      rcases A with _ | ad
      · obtain rfl := rd_none hxr
        obtain ⟨g', cap', e', GC⟩ := GA.out _ wr (by simpa using hown')
        injection e' with e1 e2 e3
        injection e1 with e1
        injection e1 with e1
        have GC' := Lib.hid GC
        subst e1 e3
        obtain rfl := hnil rfl
        have hk0 := he0
        have hk1 := he1
        have hs6 := hsr
        have hB6' := hBw
        clear GA GC e2 hnil hc hm he0 he1 hBw
        go_wp2_with (at_builtin; refine wpList_append_own_none rfl (.tmp 72) (.tmp 73) 23 rfl w2.heap.size 5 i0 1 Try.underlying23 hi _ _ _ rfl hown' rfl ?_)
        go_wp2_with fail
        refine GC'.out.mono ?_
        rintro e w7 ⟨g7, he, hown7, hB7⟩
        rw [Q2.out, Q4.out] at he
        subst he
        have hf0 : w7.cell? ⟨w.heap.size, 0, none⟩ = some (.int .u64 (N : Int)) := (hB7.cell (p := ⟨w.heap.size, 0, none⟩) hs6).trans hk0
        have hf1 : w7.cell? ⟨w.heap.size, 1, none⟩ = some (.slice V nv cv) := (hB7.cell (p := ⟨w.heap.size, 1, none⟩) hs6).trans hk1
        have hB7' : Below w.heap.size w w7 := hB6'.trans (hB7.mono (by omega))
        have hs7 : w.heap.size < w7.heap.size := by have := hB7.size; omega
        obtain ⟨w8, hw8⟩ : ∃ w8, w7.alloc (.cells #[.int .u64 (N : Int), .slice (some ⟨g7, 0, none⟩) (itV zs).length (itV zs).length] 54) = w8 := ⟨_, rfl⟩
        have hB8 : Below w7.heap.size w7 w8 := by rw [← hw8]; exact (Below.refl _ _).alloc (Nat.le_refl _) _
        have r8 : Rd .i8 w8 w8.heap.size (some ⟨g7, 0, none⟩) vs := by
          have := ((rd_own hown7).below hB8).more hB8.size
          rwa [Q3.out] at this
        have hB8' : Below w.heap.size w w8 := hB7'.trans (hB8.mono hB7'.size)
        have hlen8 : (itV zs).length = vs.length := by
          have := congrArg List.length Q3.out
          rwa [List.length_map] at this
        have SI := Lib.hid (sameItem_any (N : Int) V (some ⟨g7, 0, none⟩) cv (itV zs).length vs nv (itV zs).length HNV.out hlen8 w8 r8 ((hv0.below hB8').more hB8'.size) (by omega))
        have HW8 := Lib.hid hw8
        clear hown7 hB7 hB8 r8 hw8 hk0 hk1 hB6' GC' hB7' hlen8
        generalize (itV zs).length = m at *
        go_wp2_with fail
        rw [HW8.out]
        refine SI.out.mono ?_
        rintro e w9 ⟨rfl, hB9⟩
        have hB9' : Below w.heap.size w w9 := hB8'.trans (hB9.mono hB8'.size)
        go_wp2
        go_ret
        exact ⟨rfl, hB9'⟩
      · clear hnil
        go_wp2_with (at_builtin; refine wpList_append_own _ rfl (.tmp 72) (.tmp 73) 23 rfl w2.heap.size 5 i0 (.int .u8 0) 1 1 Try.underlying23 hi hz0 hz1 hz2 rfl (by decide) _ _ _ rfl hown' ad ys.length c (ys.map (Value.int .u8)) rfl (by simp) (rd_cells hxr) (ints_one _ _) (by unfold maxLen; omega) (by omega) (by omega) ?_; intro v' w6 hown6 hg6 _)
        have hBx : Below (w.heap.size + 1) wr w6 := (Below.refl _ _).grown hg6 (by omega) (fun j hj => by have := (hown'.lt j hj).1; omega)
        have hk0 : w6.cell? ⟨w.heap.size, 0, none⟩ = some (.int .u64 (N : Int)) := (hBx.cell (p := ⟨w.heap.size, 0, none⟩) (by show w.heap.size < w.heap.size + 1; omega)).trans he0
        have hk1 : w6.cell? ⟨w.heap.size, 1, none⟩ = some (.slice V nv cv) := (hBx.cell (p := ⟨w.heap.size, 1, none⟩) (by show w.heap.size < w.heap.size + 1; omega)).trans he1
        have hB6' : Below w.heap.size w w6 := hBw.trans (hBx.mono (by omega))
        have hs6 : w.heap.size < w6.heap.size := by have := hBx.size; omega
        obtain ⟨g', cap', e', GC⟩ := GA.out v' w6 hown6
        have GC' := Lib.hid GC
        rw [e']
        clear e' GC GA he0 he1 hBw hBx hown6 hg6 hown' hxr
        go_wp2_with fail
        refine GC'.out.mono ?_
        rintro e w7 ⟨g7, he, hown7, hB7⟩
        rw [Q2.out, Q4.out] at he
        subst he
        have hf0 : w7.cell? ⟨w.heap.size, 0, none⟩ = some (.int .u64 (N : Int)) := (hB7.cell (p := ⟨w.heap.size, 0, none⟩) hs6).trans hk0
        have hf1 : w7.cell? ⟨w.heap.size, 1, none⟩ = some (.slice V nv cv) := (hB7.cell (p := ⟨w.heap.size, 1, none⟩) hs6).trans hk1
        have hB7' : Below w.heap.size w w7 := hB6'.trans (hB7.mono (by omega))
        have hs7 : w.heap.size < w7.heap.size := by have := hB7.size; omega
        obtain ⟨w8, hw8⟩ : ∃ w8, w7.alloc (.cells #[.int .u64 (N : Int), .slice (some ⟨g7, 0, none⟩) (itV zs).length (itV zs).length] 54) = w8 := ⟨_, rfl⟩
        have hB8 : Below w7.heap.size w7 w8 := by rw [← hw8]; exact (Below.refl _ _).alloc (Nat.le_refl _) _
        have r8 : Rd .i8 w8 w8.heap.size (some ⟨g7, 0, none⟩) vs := by
          have := ((rd_own hown7).below hB8).more hB8.size
          rwa [Q3.out] at this
        have hB8' : Below w.heap.size w w8 := hB7'.trans (hB8.mono hB7'.size)
        have hlen8 : (itV zs).length = vs.length := by
          have := congrArg List.length Q3.out
          rwa [List.length_map] at this
        have SI := Lib.hid (sameItem_any (N : Int) V (some ⟨g7, 0, none⟩) cv (itV zs).length vs nv (itV zs).length HNV.out hlen8 w8 r8 ((hv0.below hB8').more hB8'.size) (by omega))
        have HW8 := Lib.hid hw8
        clear hown7 hB7 hB8 r8 hw8 hk0 hk1 hB6' GC' hB7' hlen8
        generalize (itV zs).length = m at *
        go_wp2_with fail
        rw [HW8.out]
        refine SI.out.mono ?_
        rintro e w9 ⟨rfl, hB9⟩
        have hB9' : Below w.heap.size w w9 := hB8'.trans (hB9.mono hB8'.size)
        go_wp2
        go_ret
        exact ⟨rfl, hB9'⟩
end Go.Proofs.Ytlkkmeeijjaeiaa
