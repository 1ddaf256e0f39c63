/- The walk of the statement NumsAgain. -/
import Derived.Test.YtlkkmeeijjaeiaaJ
namespace Go.Proofs.Ytlkkmeeijjaeiaa
open Go.RowKit
set_option linter.unusedVariables false
theorem sgn_mod (x : Int) (h : 0 ≤ x ∧ x ≤ 255) : sgn x % 256 = x := by unfold sgn; split <;> omega
theorem map_sgn_mod : ∀ xs : List Int, (∀ x ∈ xs, 0 ≤ x ∧ x ≤ 255) → (xs.map sgn).map (· % 256) = xs
  | [], _ => rfl
  | x :: r, h => by
    simp only [List.map_cons]
    rw [sgn_mod x (h x (by simp)), map_sgn_mod r (fun y hy => h y (by simp [hy]))]
theorem sgn_bd (x : Int) (h : 0 ≤ x ∧ x ≤ 255) : -128 ≤ sgn x ∧ sgn x ≤ 127 := by unfold sgn; split <;> omega
theorem map_sgn_bd {xs : List Int} (h : ∀ x ∈ xs, 0 ≤ x ∧ x ≤ 255) : ∀ y ∈ xs.map sgn, -128 ≤ y ∧ y ≤ 127 := by
  intro y hy
  simp only [List.mem_map] at hy
  obtain ⟨x, hx, rfl⟩ := hy
  exact sgn_bd x (h x hx)
theorem itV_byte {xs : List Int} (hb : ∀ x ∈ xs, 0 ≤ x ∧ x ≤ 255) : ∀ x ∈ itV xs, 0 ≤ x ∧ x ≤ 255 := by
  unfold itV itR
  exact byte_take (byte_drop (byte_drop hb _) _) _
/-- An item that is got is put as the bytes that it had. -/
theorem item_got (xs : List Int) (hb : ∀ x ∈ xs, 0 ≤ x ∧ x ≤ 255) (h : itE xs = 0) :
    putItemL (getN xs).toNat ((itV xs).map sgn) = xs.take (itK xs).toNat ∧ 0 ≤ getN xs ∧ getN xs ≤ 4611686018427387903 ∧ 1 ≤ (itV xs).length ∧ (itV xs).length ≤ 64 ∧ 0 ≤ itK xs ∧ itK xs ≤ xs.length := by
  obtain ⟨hE, hE2, hd, hlt⟩ := itE_zero h
  obtain ⟨p1, n0, n1, k0, kl, k9⟩ := put_got xs hb hE
  obtain ⟨p2, m0, m1, j0, jl, j9⟩ := put_got (itR xs) (by unfold itR; exact byte_drop hb _) hE2
  have hlR : (itR xs).length = xs.length - (getK xs).toNat := by unfold itR; rw [List.length_drop]
  have hm : 1 ≤ getN (itR xs) ∧ getN (itR xs) ≤ 64 := by unfold isDimB at hd; simpa using hd
  have hVl : (itV xs).length = (getN (itR xs)).toNat := by unfold itV; rw [List.length_take, List.length_drop]; omega
  refine ⟨?_, n0, n1, by omega, by omega, by unfold itK; omega, by unfold itK; omega⟩
  unfold putItemL
  rw [List.length_map, hVl, p1, p2, map_sgn_mod _ (itV_byte hb)]
  have e1 : (itK xs).toNat = (getK xs).toNat + ((getK (itR xs)).toNat + (getN (itR xs)).toNat) := by unfold itK; omega
  rw [e1, List.take_add]
  have e2 : xs.drop (getK xs).toNat = itR xs := rfl
  rw [e2, List.take_add, List.append_assoc]
  rfl
/-! THE WALK -/
set_option maxRecDepth 100000 in
set_option maxHeartbeats 1000000 in
theorem numsAgain_far (A : Option Addr) (c : Nat) (xs : List Int) (w : World) (hc : xs.length ≤ c) (hm : c ≤ 140737488351232) (hbey : bey [(xs.length : Int)] = true) :
    Calls Try.prog 8 #[.slice A xs.length c] w fun e w' => e = .returned (.bool true) ∧ Below w.heap.size w w' := by
  have AL := Lib.hid alive_any
  have BY := Lib.hid (fun W => bey_one W xs.length (by omega))
  rw [hbey] at BY
  clear hbey
  go_enter Try.func8, Try.ntmps8
  go_wp2_with fail
  refine (AL.out w).mono ?_
  rintro e w1 ⟨rfl, hB1⟩
  go_wp2_with fail
  refine (BY.out w1).mono ?_
  rintro e w' ⟨rfl, rfl⟩
  have hB2 : Below w.heap.size w (w1.alloc (.cells #[.int .i64 (xs.length : Int)] 3)) := hB1.alloc hB1.size _
  generalize w1.alloc (.cells #[.int .i64 (xs.length : Int)] 3) = w2 at *
  clear hB1 BY
  go_wp2_with fail
  refine (AL.out w2).mono ?_
  rintro e w3 ⟨rfl, hB3⟩
  have hB : Below w.heap.size w w3 := hB2.trans (hB3.mono hB2.size)
  go_wp2
  go_ret
  exact ⟨rfl, hB⟩
set_option maxRecDepth 100000 in
set_option maxHeartbeats 1000000 in
theorem numsAgain_1 (A : Option Addr) (c : Nat) (xs : List Int) (w : World) (hc : xs.length ≤ c) (hm : c ≤ 140737488351232) (hbey : bey [(xs.length : Int)] = false)
    (hx : Rd .u8 w w.heap.size A xs) (hb : ∀ x ∈ xs, 0 ≤ x ∧ x ≤ 255) (hE : getE xs ≠ 0) :
    Calls Try.prog 8 #[.slice A xs.length c] w fun e w' => e = .returned (.bool true) ∧ Below w.heap.size w w' := by
  have hit : itE xs ≠ 0 := by unfold itE; rw [if_pos hE]; exact hE
  have AL := Lib.hid alive_any
  have BY := Lib.hid (fun W => bey_one W xs.length (by omega))
  rw [hbey] at BY
  have hlen := bey_false hbey
  clear hbey
  go_enter Try.func8, Try.ntmps8
  go_wp2_with fail
  refine (AL.out w).mono ?_
  rintro e w1 ⟨rfl, hB1⟩
  go_wp2_with fail
  refine (BY.out w1).mono ?_
  rintro e w' ⟨rfl, rfl⟩
  have hB2 : Below w.heap.size w (w1.alloc (.cells #[.int .i64 (xs.length : Int)] 3)) := hB1.alloc hB1.size _
  generalize w1.alloc (.cells #[.int .i64 (xs.length : Int)] 3) = w2 at *
  clear hB1 BY
  have hxw2 : Rd .u8 w2 w2.heap.size A xs := (hx.below hB2).more hB2.size
  have GG := Lib.hid (get_any A c xs xs.length rfl w2 _ hxw2 (Nat.le_refl _) hb hc (by omega))
  obtain ⟨z1, z2⟩ := get_bad hE
  have hE' : (getE xs == 0) = false := by simpa using hE
  rw [z1, z2] at GG
  clear z1 z2 hxw2 hE
  go_wp2_with fail
  refine GG.out.mono ?_
  rintro e W ⟨rfl, hB3⟩
  have hBW : Below w.heap.size w W := hB2.trans (hB3.mono hB2.size)
  clear GG hB2 hB3 AL
  have hxW : Rd .u8 W W.heap.size A xs := (hx.below hBW).more hBW.size
  have GI := Lib.hid (getItem_bad A c xs xs.length rfl W hxW hb hc (by omega) hit)
  have hit' : (itE xs != 0) = true := by simpa using hit
  have hitf : (itE xs == 0) = false := by simpa using hit
  clear hxW hit
  generalize itE xs = y at *
  go_wp2_with fail
  refine GI.out.mono ?_
  rintro e w7 ⟨he, hB7⟩
  unfold itNo at he
  subst he
  have hB8 : Below w.heap.size w (w7.alloc (.cells #[.int .u64 0, .slice none 0 0] 54)) := (hBW.trans (hB7.mono hBW.size)).alloc (by have := hBW.size; have := hB7.size; omega) _
  clear GI hB7 hBW
  go_wp2
  go_ret
  exact ⟨rfl, hB8⟩

set_option maxRecDepth 100000 in
set_option maxHeartbeats 2000000 in
theorem numsAgain_2 (A : Option Addr) (c : Nat) (xs : List Int) (w : World) (hc : xs.length ≤ c) (hm : c ≤ 140737488351232) (hbey : bey [(xs.length : Int)] = false)
    (hx : Rd .u8 w w.heap.size A xs) (hb : ∀ x ∈ xs, 0 ≤ x ∧ x ≤ 255) (hE : getE xs = 0) (hit : itE xs ≠ 0) :
    Calls Try.prog 8 #[.slice A xs.length c] w fun e w' => e = .returned (.bool true) ∧ Below w.heap.size w w' := by
  have AL := Lib.hid alive_any
  have BY := Lib.hid (fun W => bey_one W xs.length (by omega))
  rw [hbey] at BY
  have hlen := bey_false hbey
  clear hbey
  go_enter Try.func8, Try.ntmps8
  go_wp2_with fail
  refine (AL.out w).mono ?_
  rintro e w1 ⟨rfl, hB1⟩
  go_wp2_with fail
  refine (BY.out w1).mono ?_
  rintro e w' ⟨rfl, rfl⟩
  have hB2 : Below w.heap.size w (w1.alloc (.cells #[.int .i64 (xs.length : Int)] 3)) := hB1.alloc hB1.size _
  generalize w1.alloc (.cells #[.int .i64 (xs.length : Int)] 3) = w2 at *
  clear hB1 BY
  have hxw2 : Rd .u8 w2 w2.heap.size A xs := (hx.below hB2).more hB2.size
  have GG := get_any A c xs xs.length rfl w2 _ hxw2 (Nat.le_refl _) hb hc (by omega)
  obtain ⟨hput, hn0, hn1, hk0, hkl, hk9⟩ := put_got xs hb hE
  obtain ⟨N, hN⟩ : ∃ N : Nat, getN xs = N := ⟨(getN xs).toNat, by omega⟩
  obtain ⟨K, hK⟩ : ∃ K : Nat, getK xs = K := ⟨(getK xs).toNat, by omega⟩
  rw [hN, hK, hE] at GG
  rw [hN, hK, Int.toNat_natCast, Int.toNat_natCast] at hput
  have hKl : K ≤ xs.length := by omega
  have hLK : (putL N).length = K := by rw [hput, List.length_take]; omega
  have PN := Lib.hid (fun W => put_yes N (by omega) W)
  have GG' := Lib.hid GG
  have HPUT := Lib.hid hput
  have HLK := Lib.hid hLK
  have HN := Lib.hid hN
  clear GG hxw2 hput hLK hk0 hkl hk9 hn0 hn1 hK hN hE
  go_wp2_with fail
  refine GG'.out.mono ?_
  rintro e w3 ⟨rfl, hB3⟩
  have hB3' : Below w.heap.size w w3 := hB2.trans (hB3.mono hB2.size)
  clear GG' hB2 hB3 AL
  go_wp2_with fail
  refine (PN.out w3).mono ?_
  rintro e w4 ⟨g1, cap1, rfl, hown, hB4⟩
  rw [HLK.out] at hown ⊢
  have hB4' : Below w.heap.size w w4 := hB3'.trans (hB4.mono hB3'.size)
  have SB := Lib.hid (sameBytes_any (some ⟨g1, 0, none⟩) A cap1 c (xs.take K) K K (by rw [List.length_take]; omega) (by rw [List.length_take]; omega) w4 w4.heap.size (((hx.below hB4').more hB4'.size).take K) (by rw [← HPUT.out]; exact rd_own hown) (by rw [List.length_take]; omega))
  clear PN hB3' hB4 hown
  have hKc : K ≤ c := by omega
  go_wp2_with fail
  refine SB.out.mono ?_
  rintro e w5 ⟨rfl, nq, rfl⟩
  have hBW : Below w.heap.size w (w4.drewN nq) := below_drewN hB4' nq
  clear SB hB4'
  generalize w4.drewN nq = W at *
  clear HPUT HLK HN
  have hxW : Rd .u8 W W.heap.size A xs := (hx.below hBW).more hBW.size
  have GI := Lib.hid (getItem_bad A c xs xs.length rfl W hxW hb hc (by omega) hit)
  have hit' : (itE xs != 0) = true := by simpa using hit
  have hitf : (itE xs == 0) = false := by simpa using hit
  clear hxW hit
  generalize itE xs = y at *
  go_wp2_with fail
  refine GI.out.mono ?_
  rintro e w7 ⟨he, hB7⟩
  unfold itNo at he
  subst he
  have hB8 : Below w.heap.size w (w7.alloc (.cells #[.int .u64 0, .slice none 0 0] 54)) := (hBW.trans (hB7.mono hBW.size)).alloc (by have := hBW.size; have := hB7.size; omega) _
  clear GI hB7 hBW
  go_wp2
  go_ret
  exact ⟨rfl, hB8⟩
set_option maxRecDepth 100000 in
set_option maxHeartbeats 2000000 in
theorem numsAgain_3 (A : Option Addr) (c : Nat) (xs : List Int) (w : World) (hc : xs.length ≤ c) (hm : c ≤ 140737488351232) (hbey : bey [(xs.length : Int)] = false)
    (hx : Rd .u8 w w.heap.size A xs) (hb : ∀ x ∈ xs, 0 ≤ x ∧ x ≤ 255) (hE : getE xs = 0) (hit : itE xs = 0) :
    Calls Try.prog 8 #[.slice A xs.length c] w fun e w' => e = .returned (.bool true) ∧ Below w.heap.size w w' := by
  have AL := Lib.hid alive_any
  have BY := Lib.hid (fun W => bey_one W xs.length (by omega))
  rw [hbey] at BY
  have hlen := bey_false hbey
  clear hbey
  go_enter Try.func8, Try.ntmps8
  go_wp2_with fail
  refine (AL.out w).mono ?_
  rintro e w1 ⟨rfl, hB1⟩
  go_wp2_with fail
  refine (BY.out w1).mono ?_
  rintro e w' ⟨rfl, rfl⟩
  have hB2 : Below w.heap.size w (w1.alloc (.cells #[.int .i64 (xs.length : Int)] 3)) := hB1.alloc hB1.size _
  generalize w1.alloc (.cells #[.int .i64 (xs.length : Int)] 3) = w2 at *
  clear hB1 BY
  have hxw2 : Rd .u8 w2 w2.heap.size A xs := (hx.below hB2).more hB2.size
  have GG := get_any A c xs xs.length rfl w2 _ hxw2 (Nat.le_refl _) hb hc (by omega)
  obtain ⟨hput, hn0, hn1, hk0, hkl, hk9⟩ := put_got xs hb hE
  obtain ⟨N, hN⟩ : ∃ N : Nat, getN xs = N := ⟨(getN xs).toNat, by omega⟩
  obtain ⟨K, hK⟩ : ∃ K : Nat, getK xs = K := ⟨(getK xs).toNat, by omega⟩
  rw [hN, hK, hE] at GG
  rw [hN, hK, Int.toNat_natCast, Int.toNat_natCast] at hput
  have hKl : K ≤ xs.length := by omega
  have hLK : (putL N).length = K := by rw [hput, List.length_take]; omega
  have PN := Lib.hid (fun W => put_yes N (by omega) W)
  have GG' := Lib.hid GG
  have HPUT := Lib.hid hput
  have HLK := Lib.hid hLK
  have HN := Lib.hid hN
  clear GG hxw2 hput hLK hk0 hkl hk9 hn0 hn1 hK hN hE
  go_wp2_with fail
  refine GG'.out.mono ?_
  rintro e w3 ⟨rfl, hB3⟩
  have hB3' : Below w.heap.size w w3 := hB2.trans (hB3.mono hB2.size)
  clear GG' hB2 hB3 AL
  go_wp2_with fail
  refine (PN.out w3).mono ?_
  rintro e w4 ⟨g1, cap1, rfl, hown, hB4⟩
  rw [HLK.out] at hown ⊢
  have hB4' : Below w.heap.size w w4 := hB3'.trans (hB4.mono hB3'.size)
  have SB := Lib.hid (sameBytes_any (some ⟨g1, 0, none⟩) A cap1 c (xs.take K) K K (by rw [List.length_take]; omega) (by rw [List.length_take]; omega) w4 w4.heap.size (((hx.below hB4').more hB4'.size).take K) (by rw [← HPUT.out]; exact rd_own hown) (by rw [List.length_take]; omega))
  clear PN hB3' hB4 hown
  have hKc : K ≤ c := by omega
  go_wp2_with fail
  refine SB.out.mono ?_
  rintro e w5 ⟨rfl, nq, rfl⟩
  have hBW : Below w.heap.size w (w4.drewN nq) := below_drewN hB4' nq
  clear SB hB4'
  generalize w4.drewN nq = W at *
  have hxW : Rd .u8 W W.heap.size A xs := (hx.below hBW).more hBW.size
  have GI := Lib.hid (getItem_good A c xs xs.length rfl W hxW hb hc (by omega) hit)
  obtain ⟨hitem, _, hid1, hv1, hv64, hik0, hikl⟩ := item_got xs hb hit
  obtain ⟨J, hJ⟩ : ∃ J : Nat, itK xs = J := ⟨(itK xs).toNat, by omega⟩
  rw [HN.out, hJ, Int.toNat_natCast, Int.toNat_natCast] at hitem
  have hJl : J ≤ xs.length := by omega
  have hid : N ≤ 4611686018427387903 := by rw [HN.out] at hid1; omega
  have HID := Lib.hid hid
  have HIT := Lib.hid hitem
  have HJ := Lib.hid hJ
  clear hxW hit hitem hik0 hikl hid1 hJ hid HPUT HLK
  go_wp2_with fail
  refine GI.out.mono ?_
  rintro e w7 ⟨g7, he, hown7, hB7⟩
  rw [HN.out, HJ.out] at he
  subst he
  clear GI
  have hB7' : Below w.heap.size w w7 := hBW.trans (hB7.mono hBW.size)
  obtain ⟨w8, hw8⟩ : ∃ w8, w7.alloc (.cells #[.int .u64 (N : Int), .slice (some ⟨g7, 0, none⟩) (itV xs).length (itV xs).length] 54) = w8 := ⟨_, rfl⟩
  have hB8 : Below w7.heap.size w7 w8 := by rw [← hw8]; exact (Below.refl _ _).alloc (Nat.le_refl _) _
  have hB8' : Below w.heap.size w w8 := hB7'.trans (hB8.mono hB7'.size)
  have r8 : Rd .i8 w8 w8.heap.size (some ⟨g7, 0, none⟩) ((itV xs).map sgn) := ((rd_own hown7).below hB8).more hB8.size
  have PI := Lib.hid (putItem_yes N (some ⟨g7, 0, none⟩) ((itV xs).map sgn) (itV xs).length (itV xs).length (by rw [List.length_map]) w8 HID.out (by rw [List.length_map]; exact hv1) (by rw [List.length_map]; exact hv64) r8 (map_sgn_bd (itV_byte hb)))
  have HW8 := Lib.hid hw8
  have hlJ : (putItemL N ((itV xs).map sgn)).length = J := by rw [HIT.out, List.length_take]; omega
  have HLJ := Lib.hid hlJ
  clear hown7 hB7 hB7' hB8 r8 hw8 hBW hlJ
  generalize (itV xs).length = m at *
  go_wp2_with fail
  rw [HW8.out]
  refine PI.out.mono ?_
  rintro e w9 ⟨g9, cap9, rfl, hown9, hB9⟩
  rw [HLJ.out] at hown9 ⊢
  have hB9' : Below w.heap.size w w9 := hB8'.trans (hB9.mono hB8'.size)
  have SB := Lib.hid (sameBytes_any (some ⟨g9, 0, none⟩) A cap9 c (xs.take J) J J (by rw [List.length_take]; omega) (by rw [List.length_take]; omega) w9 w9.heap.size (((hx.below hB9').more hB9'.size).take J) (by rw [← HIT.out]; exact rd_own hown9) (by rw [List.length_take]; omega))
  clear PI HW8 hB8' hB9 hown9
  have hJc : J ≤ c := by omega
  go_wp2_with fail
  refine SB.out.mono ?_
  rintro e w10 ⟨rfl, nq2, rfl⟩
  go_wp2
  go_ret
  exact ⟨rfl, below_drewN hB9' nq2⟩
end Go.Proofs.Ytlkkmeeijjaeiaa
