/- The walk of the statement SumsTwo. -/
import Derived.Test.YtfjigfmjhfoecaaT
namespace Go.Proofs.Ytfjigfmjhfoecaa
open Go.RowKit
set_option linter.unusedVariables false
set_option maxRecDepth 100000 in
set_option maxHeartbeats 400000 in
theorem sumsTwo_far (A B C : Option Addr) (a b c n m l : Nat) (w : World) (hn : n ≤ 140737488355328) (hm : m ≤ 140737488355328) (hl : l ≤ 140737488355328) (h : bey [(n : Int)] = true ∨ (bey [(n : Int)] = false ∧ ((m : Int) != (n : Int)) = true) ∨ (bey [(n : Int)] = false ∧ m = n ∧ ((l : Int) != (n : Int)) = true)) :
    Calls Try.prog 8 #[.slice A n a, .slice B m b, .slice C l c] w fun e w' => e = .returned (.bool true) ∧ Below w.heap.size w w' := by
  have HA := Lib.hid alive_any
  have H := Lib.hid h
  clear h
  go_enter Try.func8, Try.ntmps8
  go_wp2_with fail
  refine (HA.out w).mono ?_
  rintro e w1 ⟨rfl, hB1⟩
  have H17 := Lib.hid (beyond_one n hn w1)
  have hB2 := below_one hB1 (.cells #[.int .i64 (n : Int)] 3)
  clear hB1
  rcases H.out with h | ⟨h, h2⟩ | ⟨h, h2, h3⟩
  · rw [h] at H17
    clear h H
    go_wp2_with fail
    refine H17.out.mono ?_
    rintro e w2 ⟨rfl, rfl⟩
    generalize w1.alloc (.cells #[.int .i64 (n : Int)] 3) = w2 at hB2 ⊢
    clear H17
    go_wp2_with fail
    refine (HA.out _).mono ?_
    rintro e w3 ⟨rfl, hB3⟩
    go_wp2
    go_ret
    exact ⟨rfl, hB2.trans (hB3.mono hB2.size)⟩
  · rw [h] at H17
    clear h H
    go_wp2_with fail
    refine H17.out.mono ?_
    rintro e w2 ⟨rfl, rfl⟩
    generalize w1.alloc (.cells #[.int .i64 (n : Int)] 3) = w2 at hB2 ⊢
    clear H17
    go_wp2_with fail
    refine (HA.out _).mono ?_
    rintro e w3 ⟨rfl, hB3⟩
    go_wp2
    go_ret
    exact ⟨rfl, hB2.trans (hB3.mono hB2.size)⟩
  · rw [h] at H17
    subst h2
    clear h H
    go_wp2_with fail
    refine H17.out.mono ?_
    rintro e w2 ⟨rfl, rfl⟩
    generalize w1.alloc (.cells #[.int .i64 (m : Int)] 3) = w2 at hB2 ⊢
    clear H17
    go_wp2_with fail
    refine (HA.out _).mono ?_
    rintro e w3 ⟨rfl, hB3⟩
    go_wp2
    go_ret
    exact ⟨rfl, hB2.trans (hB3.mono hB2.size)⟩
set_option maxRecDepth 100000 in
set_option maxHeartbeats 2000000 in
theorem sumsTwo_near (A B C : Option Addr) (a b c n : Nat) (X Y Z : List Nat) (w : World) (hX : X.length = n) (hY : Y.length = n) (hZ : Z.length = n) (hx : Rd .u8 w w.heap.size A (ints X)) (hy : Rd .u8 w w.heap.size B (ints Y)) (hz : Rd .u8 w w.heap.size C (ints Z))
    (bx : ∀ c ∈ X, c < 256) (bY : ∀ c ∈ Y, c < 256) (bZ : ∀ c ∈ Z, c < 256) (ha : n ≤ a) (hb : n ≤ b) (hc : n ≤ c) (hbey : bey [(n : Int)] = false) :
    Calls Try.prog 8 #[.slice A n a, .slice B n b, .slice C n c] w fun e w' => e = .returned (.bool true) ∧ Below w.heap.size w w' := by
  have hlen := bey_one hbey
  have HA := Lib.hid alive_any
  have HX := Lib.hid hX
  have HY := Lib.hid hY
  have HZ := Lib.hid hZ
  obtain ⟨i0, hi, hz0, hz1, hz2⟩ := info_parts Try.info5
  clear hX hY hZ
  go_enter Try.func8, Try.ntmps8
  go_wp2_with fail
  refine (HA.out w).mono ?_
  rintro e w1 ⟨rfl, hB1⟩
  have H17 := Lib.hid (beyond_one n (by omega) w1)
  rw [hbey] at H17
  have hB2 := below_one hB1 (.cells #[.int .i64 (n : Int)] 3)
  clear hB1 hbey
  go_wp2_with fail
  refine H17.out.mono ?_
  rintro e w2 ⟨rfl, rfl⟩
  generalize w1.alloc (.cells #[.int .i64 (n : Int)] 3) = w2 at hB2 ⊢
  clear H17 HA
  go_wp2
  have hR := Rows4.start w w2 n (four4 X Y Z) hB2
  generalize w2.alloc (.cells #[.slice none 0 0, .slice none 0 0, .slice none 0 0, .slice none 0 0] 37) = w3 at hR ⊢
  generalize w2.heap.size = bk at hR ⊢
  clear hB2
  go_loopw [8] (fun v wr => ∃ (i : Nat) (S : Nat → Value), i ≤ 4 ∧ v = .int .i64 i ∧ Rows4 w wr bk n (four4 X Y Z) i 0 S) (fun v _ => 4 - (intOf v).toNat)
  case atStart => exact ⟨0, _, by omega, rfl, hR⟩
  case round =>
    clear hR
    obtain ⟨i, S, hi4, rfl, hR⟩ := hrel
    by_cases hlt : i < 4
    · have hd4 : decide ((i : Int) < 4) = true := by simp; omega
      go_wp2
      go_loopw [9] (fun v wr => ∃ (k : Nat) (S : Nat → Value), k ≤ n ∧ v = .int .i64 k ∧ Rows4 w wr bk n (four4 X Y Z) i k S) (fun v _ => n - (intOf v).toNat)
      case atStart => exact ⟨0, _, by omega, rfl, hR⟩
      case round =>
        clear hR
        obtain ⟨k, S, hkn, rfl, hR⟩ := hrel
        by_cases hk : k < n
        · have hB := hR.2.2.2.1
          obtain ⟨x, hxk⟩ : ∃ x, X[k]? = some x := ⟨_, List.getElem?_eq_getElem (by rw [HX.out]; exact hk)⟩
          obtain ⟨y, hyk⟩ : ∃ y, Y[k]? = some y := ⟨_, List.getElem?_eq_getElem (by rw [HY.out]; exact hk)⟩
          obtain ⟨z, hzk⟩ : ∃ z, Z[k]? = some z := ⟨_, List.getElem?_eq_getElem (by rw [HZ.out]; exact hk)⟩
          have hx256 := bx x (List.mem_of_getElem? hxk)
          have hy256 := bY y (List.mem_of_getElem? hyk)
          have hz256 := bZ z (List.mem_of_getElem? hzk)
          obtain ⟨b1, o1, u1, rfl, l1, c1, e1⟩ := (hx.below hB).at_ (i := k) (by rw [ints_len, HX.out]; exact hk)
          obtain ⟨b2, o2, u2, rfl, l2, c2, e2⟩ := (hy.below hB).at_ (i := k) (by rw [ints_len, HY.out]; exact hk)
          obtain ⟨b3, o3, u3, rfl, l3, c3, e3⟩ := (hz.below hB).at_ (i := k) (by rw [ints_len, HZ.out]; exact hk)
          obtain rfl : u1 = (x : Int) := by rw [← e1.out, ints_get hxk]; rfl
          obtain rfl : u2 = (y : Int) := by rw [← e2.out, ints_get hyk]; rfl
          obtain rfl : u3 = (z : Int) := by rw [← e3.out, ints_get hzk]; rfl
          obtain ⟨s1, s2, s3, s4⟩ := hR.at_ hlt
          have hxy : bits .xor .u8 (x : Int) (y : Int) = ((x ^^^ y : Nat) : Int) := u8_xor_nat x y hx256 hy256
          have hxz : bits .xor .u8 (x : Int) (z : Int) = ((x ^^^ z : Nat) : Int) := u8_xor_nat x z hx256 hz256
          have hxyz : bits .xor .u8 ((x ^^^ y : Nat) : Int) (z : Int) = ((x ^^^ y ^^^ z : Nat) : Int) := u8_xor_nat (x ^^^ y) z (Nat.xor_lt_two_pow (n := 8) hx256 hy256) hz256
          clear e1 e2 e3 hx256 hy256 hz256
          by_cases p1 : i % 2 = 1 <;> by_cases p2 : i / 2 = 1
          · have H4 : Hid ((four4 X Y Z i)[k]? = some (x ^^^ y ^^^ z : Nat)) := by unfold four4; rw [if_pos p1, if_pos p2]; exact xors_get (xors_get hxk hyk) hzk
            have q1 : ((i : Int) % 2 == 1) = true := by simp; omega
            have q2 : ((i : Int) / 2 == 1) = true := by simp; omega
            clear hxk hyk hzk p1 p2
            go_wp2_with (first
              | (at_builtin; refine wpList_append_own_at _ rfl (.tmp 74) (.tmp 76) 22 rfl (bk + 1) 5 i0 (.int .u8 0) 1 1 Try.underlying22 hi hz0 hz1 hz2 rfl (by decide) (S i) k _ rfl (s3.alloc _) ⟨wr.heap.size, 0, none⟩ 1 1 [.int .u8 (((x ^^^ y ^^^ z : Nat)) : Int)] rfl rfl (cell_one_new _ _ _) (by simp [Value.oneCell']) (by unfold maxLen; omega) (by omega) (by simp; omega) ?_; intro v' w4 hown4 hg4 _ hat4
                 obtain ⟨m1, m2⟩ := hR.mem hlt _ hg4
                 have hS := Lib.hid (hR.step hlt _ H4.out hown4 hg4 hat4)
                 obtain ⟨A', n', c', rfl⟩ := own_form hown4
                 clear hown4 hg4 hat4 s1 s2 s3 s4 hB hR))
            go_roundw
            case rel => exact ⟨k + 1, _, by omega, by go_num, hS.out⟩
            case measure => simp [intOf]; omega
          · have H4 : Hid ((four4 X Y Z i)[k]? = some (x ^^^ y : Nat)) := by unfold four4; rw [if_pos p1, if_neg p2]; exact xors_get hxk hyk
            have q1 : ((i : Int) % 2 == 1) = true := by simp; omega
            have q2 : ((i : Int) / 2 == 1) = false := by simp; omega
            clear hxk hyk hzk p1 p2
            go_wp2_with (first
              | (at_builtin; refine wpList_append_own_at _ rfl (.tmp 74) (.tmp 76) 22 rfl (bk + 1) 5 i0 (.int .u8 0) 1 1 Try.underlying22 hi hz0 hz1 hz2 rfl (by decide) (S i) k _ rfl (s3.alloc _) ⟨wr.heap.size, 0, none⟩ 1 1 [.int .u8 (((x ^^^ y : Nat)) : Int)] rfl rfl (cell_one_new _ _ _) (by simp [Value.oneCell']) (by unfold maxLen; omega) (by omega) (by simp; omega) ?_; intro v' w4 hown4 hg4 _ hat4
                 obtain ⟨m1, m2⟩ := hR.mem hlt _ hg4
                 have hS := Lib.hid (hR.step hlt _ H4.out hown4 hg4 hat4)
                 obtain ⟨A', n', c', rfl⟩ := own_form hown4
                 clear hown4 hg4 hat4 s1 s2 s3 s4 hB hR))
            go_roundw
            case rel => exact ⟨k + 1, _, by omega, by go_num, hS.out⟩
            case measure => simp [intOf]; omega
          · have H4 : Hid ((four4 X Y Z i)[k]? = some (x ^^^ z : Nat)) := by unfold four4; rw [if_neg p1, if_pos p2]; exact xors_get hxk hzk
            have q1 : ((i : Int) % 2 == 1) = false := by simp; omega
            have q2 : ((i : Int) / 2 == 1) = true := by simp; omega
            clear hxk hyk hzk p1 p2
            go_wp2_with (first
              | (at_builtin; refine wpList_append_own_at _ rfl (.tmp 74) (.tmp 76) 22 rfl (bk + 1) 5 i0 (.int .u8 0) 1 1 Try.underlying22 hi hz0 hz1 hz2 rfl (by decide) (S i) k _ rfl (s3.alloc _) ⟨wr.heap.size, 0, none⟩ 1 1 [.int .u8 (((x ^^^ z : Nat)) : Int)] rfl rfl (cell_one_new _ _ _) (by simp [Value.oneCell']) (by unfold maxLen; omega) (by omega) (by simp; omega) ?_; intro v' w4 hown4 hg4 _ hat4
                 obtain ⟨m1, m2⟩ := hR.mem hlt _ hg4
                 have hS := Lib.hid (hR.step hlt _ H4.out hown4 hg4 hat4)
                 obtain ⟨A', n', c', rfl⟩ := own_form hown4
                 clear hown4 hg4 hat4 s1 s2 s3 s4 hB hR))
            go_roundw
            case rel => exact ⟨k + 1, _, by omega, by go_num, hS.out⟩
            case measure => simp [intOf]; omega
          · have H4 : Hid ((four4 X Y Z i)[k]? = some x) := by unfold four4; rw [if_neg p1, if_neg p2]; exact hxk
            have q1 : ((i : Int) % 2 == 1) = false := by simp; omega
            have q2 : ((i : Int) / 2 == 1) = false := by simp; omega
            clear hxk hyk hzk p1 p2
            go_wp2_with (first
              | (at_builtin; refine wpList_append_own_at _ rfl (.tmp 74) (.tmp 76) 22 rfl (bk + 1) 5 i0 (.int .u8 0) 1 1 Try.underlying22 hi hz0 hz1 hz2 rfl (by decide) (S i) k _ rfl (s3.alloc _) ⟨wr.heap.size, 0, none⟩ 1 1 [.int .u8 (x : Int)] rfl rfl (cell_one_new _ _ _) (by simp [Value.oneCell']) (by unfold maxLen; omega) (by omega) (by simp; omega) ?_; intro v' w4 hown4 hg4 _ hat4
                 obtain ⟨m1, m2⟩ := hR.mem hlt _ hg4
                 have hS := Lib.hid (hR.step hlt _ H4.out hown4 hg4 hat4)
                 obtain ⟨A', n', c', rfl⟩ := own_form hown4
                 clear hown4 hg4 hat4 s1 s2 s3 s4 hB hR))
            go_roundw
            case rel => exact ⟨k + 1, _, by omega, by go_num, hS.out⟩
            case measure => simp [intOf]; omega
        · obtain rfl : k = n := by omega
          have hN := hR.next
          clear hR
          go_wp2
          go_roundw
          case rel => exact ⟨i + 1, S, by omega, by go_num, hN⟩
          case measure => simp [intOf]; omega
    · obtain rfl : i = 4 := by omega
      have hl4 := fun j => (four4_len (X := X) (Y := Y) (Z := Z) (HY.out.trans HX.out.symm) (HZ.out.trans HX.out.symm) j).trans HX.out
      have hb4 := four4_bytes bx bY bZ
      obtain ⟨T, tc, hW, hT, hB⟩ := hR.end_ hl4
      obtain ⟨V, G, hV, hG, hG1, hGS, hG4, hM⟩ : ∃ V G : Nat → Nat, (∀ j, V j < 4294967296) ∧ (∀ i, G i < 4294967296) ∧ G 1 = V 0 ∧ (∀ i, G (i + 1) = G i ^^^ V i) ∧ G 4 = 0 ∧
          (∀ j, j < 4 → ∀ w', Below wr.heap.size wr w' → Calls Try.prog 11 #[.slice (T j) n (tc j)] w' fun e w'' => e = .returned (.tuple #[.int .u32 (V j : Nat), .int .i64 0]) ∧ Below w'.heap.size w' w'') := by
        refine ⟨fun j => more 0 (four4 X Y Z j), against X Y Z, fun j => more_lt (by omega) (hb4 j), against_lt bx bY bZ, against_one X Y Z, fun _ => rfl, against_four (X := X) (Y := Y) (Z := Z) (HY.out.trans HX.out.symm) (HZ.out.trans HX.out.symm), fun j hj w' hw => ?_⟩
        have := sum_any (T j) (tc j) (ints (four4 X Y Z j)) n (by rw [ints_len, hl4 j]) w' (((hT j hj).1.below hw).more hw.size) (ints_bytes (hb4 j)) (by rw [ints_len, hl4 j]; exact hlen) (by rw [ints_len, hl4 j]; exact (hT j hj).2)
        rw [nats_ints] at this
        exact this
      have HM := Lib.hid hM
      have HG1 := Lib.hid hG1
      have HGS := Lib.hid hGS
      have HG4 := Lib.hid hG4
      have HCE : Hid (∀ j, j < 4 → ∀ w', Below wr.heap.size wr w' → w'.cell? ⟨bk, j, none⟩ = some (.slice (T j) n (tc j))) := fun j hj w' hw => by
        rw [(hW.below hw hW.lt).cell]; exact four_get (fun j => .slice (T j) n (tc j)) hj
      clear hM hG1 hGS hG4 hT hW hR hl4 hb4 bx bY bZ hx hy hz HX HY HZ
      have hc0 := HCE.out 0 (by omega) wr (Below.refl _ _)
      have h1 := Lib.hid (HM.out 0 (by omega) wr (Below.refl _ _))
      have hsz := hB.size
      go_wp2_with fail
      refine h1.out.mono ?_
      rintro e w5 ⟨rfl, hB5⟩
      clear h1 hc0
      rw [← HG1.out]
      go_wp2
      go_loopw [11, 13] (fun x v w' => ∃ i : Nat, 1 ≤ i ∧ i ≤ 4 ∧ v = .int .i64 i ∧ x = .int .u32 (G i : Nat) ∧ Below wr.heap.size wr w') (fun _ v _ => 4 - (intOf v).toNat)
      case atStart => exact ⟨1, by omega, by omega, rfl, rfl, hB5⟩
      case round =>
        clear hB5
        obtain ⟨i, hi1, hi4, rfl, rfl, hB5⟩ := hrel
        by_cases hlt : i < 4
        · have hci := HCE.out i hlt _ hB5
          have h2 := Lib.hid (HM.out i hlt _ hB5)
          have hxo : bits .xor .u32 (G i : Int) (V i : Int) = ((G (i + 1) : Nat) : Int) := by rw [HGS.out]; exact u32_xor_nat _ _ (hG i) (hV i)
          have hs5 := hB5.size
          go_wp2_with fail
          refine h2.out.mono ?_
          rintro e w7 ⟨rfl, hB7⟩
          have hB7' := hB5.trans (hB7.mono hs5)
          clear h2 hB5 hB7 hci
          go_wp2
          go_roundw
          case rel => exact ⟨i + 1, by omega, by omega, by go_num, rfl, hB7'⟩
          case measure => simp [intOf]; omega
        · obtain rfl : i = 4 := by omega
          rw [HG4.out]
          have hBf := hB.trans (hB5.mono hsz)
          clear HG1 HGS HM HCE hV hG
          go_wp2
          go_ret
          exact ⟨rfl, hBf⟩
end Go.Proofs.Ytfjigfmjhfoecaa
