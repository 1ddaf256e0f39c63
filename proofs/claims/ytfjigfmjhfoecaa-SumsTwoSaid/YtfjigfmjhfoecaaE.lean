/- The walk of the statement SumsJoins. -/
import Derived.Test.YtfjigfmjhfoecaaD
import Derived.Test.YtfjigfmjhfoecaaG
namespace Go.Proofs.Ytfjigfmjhfoecaa
open Go.RowKit
set_option linter.unusedVariables false
theorem beyond_two (n m : Nat) (hn : n ≤ 140737488355328) (hm : m ≤ 140737488355328) (w : World) : Calls Try.prog 17 #[.slice (some ⟨w.heap.size, 0, none⟩) 2 2] (w.alloc (.cells #[.int .i64 (n : Int), .int .i64 (m : Int)] 3)) fun e w' => e = .returned (.bool (bey [(n : Int), (m : Int)])) ∧ w.alloc (.cells #[.int .i64 (n : Int), .int .i64 (m : Int)] 3) = w' :=
  beyond_any (some ⟨w.heap.size, 0, none⟩) 2 [(n : Int), (m : Int)] 2 rfl _ (w.heap.size + 1) (rd_newF w .i64 3 [(n : Int), (m : Int)] (0, 0)) (by simp; omega) (by simp)
theorem bey_two {n m : Nat} (h : bey [(n : Int), (m : Int)] = false) : n + m ≤ 1048576 := by unfold bey at h; simp at h; omega
set_option maxRecDepth 100000 in
set_option maxHeartbeats 400000 in
theorem sumsJoins_far (A A' : Option Addr) (c c' n m : Nat) (w : World) (hn : n ≤ 140737488355328) (hm : m ≤ 140737488355328) (hbey : bey [(n : Int), (m : Int)] = true) :
    Calls Try.prog 5 #[.slice A n c, .slice A' m c'] w fun e w' => e = .returned (.bool true) ∧ Below w.heap.size w w' := by
  have HA := Lib.hid alive_any
  go_enter Try.func5, Try.ntmps5
  go_wp2_with fail
  refine (HA.out w).mono ?_
  rintro e w1 ⟨rfl, hB1⟩
  have H17 := Lib.hid (beyond_two n m hn hm w1)
  rw [hbey] at H17
  clear hbey
  go_wp2_with fail
  refine H17.out.mono ?_
  rintro e w2 ⟨rfl, rfl⟩
  have hB2 := below_one hB1 (.cells #[.int .i64 (n : Int), .int .i64 (m : Int)] 3)
  generalize w1.alloc (.cells #[.int .i64 (n : Int), .int .i64 (m : Int)] 3) = w2 at hB2 ⊢
  clear hB1 H17
  go_wp2_with fail
  refine (HA.out _).mono ?_
  rintro e w3 ⟨rfl, hB3⟩
  go_wp2
  go_ret
  exact ⟨rfl, hB2.trans (hB3.mono hB2.size)⟩
theorem nats_app (xs ys : List Int) : nats (xs ++ ys) = nats xs ++ nats ys := by unfold nats; rw [List.map_append]
set_option maxRecDepth 100000 in
set_option maxHeartbeats 1000000 in
theorem sumsJoins_near (A A' : Option Addr) (c c' : Nat) (xs ys : List Int) (w : World) (hx : Rd .u8 w w.heap.size A xs) (hb : ∀ x ∈ xs, 0 ≤ x ∧ x ≤ 255) (hc : xs.length ≤ c) (hm : c ≤ 140737488351232) (hnil : A = none → c = 0)
    (hy : Rd .u8 w w.heap.size A' ys) (hb' : ∀ x ∈ ys, 0 ≤ x ∧ x ≤ 255) (hc' : ys.length ≤ c') (hm' : c' ≤ 140737488351232) (hnil' : A' = none → c' = 0) (hbey : bey [(xs.length : Int), (ys.length : Int)] = false) :
    Calls Try.prog 5 #[.slice A xs.length c, .slice A' ys.length c'] w fun e w' => e = .returned (.bool true) ∧ Below w.heap.size w w' := by
  have hlen := bey_two hbey
  have HS := Lib.hid (fun (w : World) (hx : Rd .u8 w w.heap.size A xs) => sum_any A c xs xs.length rfl w hx hb (by omega) hc)
  have hs4 : more 0 (nats xs) < 4294967296 := more_lt (by omega) (nats_bytes hb)
  have HM := Lib.hid (fun (w : World) (hx : Rd .u8 w w.heap.size A' ys) => more_any (more 0 (nats xs)) hs4 A' c' ys ys.length rfl w hx hb' (by omega) hc')
  have HT := Lib.hid (fun (T : Option Addr) (tc : Nat) (w : World) (hx : Rd .u8 w w.heap.size T (xs ++ ys)) (hc : (xs ++ ys).length ≤ tc) => sum_any T tc (xs ++ ys) (xs ++ ys).length rfl w hx (fun x hx => (List.mem_append.1 hx).elim (hb x) (hb' x)) (by simp; omega) hc)
  rw [nats_app, ← more_more] at HT
  have HA := Lib.hid alive_any
  have NL := Lib.hid hnil
  have NL' := Lib.hid hnil'
  obtain ⟨i0, hi, hz0, hz1, hz2⟩ := info_parts Try.info5
  clear hb hb' hnil hnil' hs4
  go_enter Try.func5, Try.ntmps5
  go_wp2_with fail
  refine (HA.out w).mono ?_
  rintro e w1 ⟨rfl, hB1⟩
  have H17 := Lib.hid (beyond_two xs.length ys.length (by omega) (by omega) w1)
  rw [hbey] at H17
  clear hbey
  go_wp2_with fail
  refine H17.out.mono ?_
  rintro e w2 ⟨rfl, rfl⟩
  have hB2 := below_one hB1 (.cells #[.int .i64 (xs.length : Int), .int .i64 (ys.length : Int)] 3)
  generalize w1.alloc (.cells #[.int .i64 (xs.length : Int), .int .i64 (ys.length : Int)] 3) = w2 at hB2 ⊢
  clear hB1 H17 HA
  have h1 := Lib.hid (HS.out w2 ((hx.below hB2).more hB2.size))
  go_wp2_with fail
  refine h1.out.mono ?_
  rintro e w3 ⟨rfl, hB3⟩
  have hB3' := hB2.trans (hB3.mono hB2.size)
  have h2 := Lib.hid (HM.out w3 ((hy.below hB3').more hB3'.size))
  clear hB2 hB3 h1 HS HM
  go_wp2_with fail
  refine h2.out.mono ?_
  rintro e w4 ⟨rfl, hB4⟩
  have hB4' := hB3'.trans (hB4.mono hB3'.size)
  clear hB3' hB4 h2
  have hx4 := hx.below hB4'
  have hy4 := hy.below hB4'
  generalize more (more 0 (nats xs)) (nats ys) = V at HT ⊢
  generalize more 0 (nats xs) = U at HT ⊢
  go_wp2_with (first
    | (at_builtin; refine wpList_app _ rfl (.tmp 34) (.tmp 35) 22 rfl w4.heap.size 5 i0 (.int .u8 0) 1 Try.underlying22 hi hz0 hz1 hz2 rfl .u8 (.slice none 0 0) 0 [] rfl (own_nil_row _ _ _) A xs.length c xs _ rfl rfl hx4 NL.out (by unfold maxLen; omega) (by omega) (Nat.le_refl _) ?_; intro v5 w5 hown5 hg5
       have hB5 : Below w.heap.size w w5 := hB4'.grown hg5 hB4'.size (by simp [Value.ownBlock])
       have hy5 := hy.below hB5
       rw [List.nil_append, Nat.zero_add] at hown5)
    | (at_builtin; refine wpList_app _ rfl (.tmp 37) (.tmp 38) 22 rfl w4.heap.size 5 i0 (.int .u8 0) 1 Try.underlying22 hi hz0 hz1 hz2 rfl .u8 v5 xs.length xs rfl hown5 A' ys.length c' ys _ rfl rfl hy5 NL'.out (by unfold maxLen; omega) (by omega) hg5.size ?_; intro v6 w6 hown6 hg6
       have hB6 : Below w.heap.size w w6 := hB5.grown hg6 hB5.size (fun j hj => by have := (hown5.lt j hj).1; have := hB4'.size; omega)
       have hl6 : (xs ++ ys).length ≤ 1048576 := by simp; omega
       obtain ⟨T, tc, rfl, hn, htc, hT, _⟩ := own_slice hown6
       have h3 := Lib.hid (HT.out T tc w6 hT htc)
       clear hown5 hown6 hg5 hg6 hB5 hx4 hy4 hy5 hn hT HT
       generalize (xs ++ ys).length = L at h3 hl6 htc ⊢))
  refine h3.out.mono ?_
  rintro e w7 ⟨rfl, hB7⟩
  have hB7' := hB6.trans (hB7.mono hB6.size)
  clear h3
  go_wp2
  go_ret
  exact ⟨rfl, hB7'⟩
end Go.Proofs.Ytfjigfmjhfoecaa
