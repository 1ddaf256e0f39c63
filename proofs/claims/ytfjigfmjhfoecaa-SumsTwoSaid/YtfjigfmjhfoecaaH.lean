/- The walk of the statement SumsOwn. -/
import Derived.Test.YtfjigfmjhfoecaaE
namespace Go.Proofs.Ytfjigfmjhfoecaa
open Go.RowKit
set_option linter.unusedVariables false
set_option maxRecDepth 100000 in
set_option maxHeartbeats 400000 in
theorem sumsOwn_far (A : Option Addr) (c n : Nat) (o : Int) (w : World) (hm : n ≤ 140737488355328) (hbey : bey [(n : Int)] = true) :
    Calls Try.prog 9 #[.slice A n c, .int .u32 o] w fun e w' => e = .returned (.bool true) ∧ Below w.heap.size w w' := by
  have HA := Lib.hid alive_any
  go_enter Try.func9, Try.ntmps9
  go_wp2_with fail
  refine (HA.out w).mono ?_
  rintro e w1 ⟨rfl, hB1⟩
  have H17 := Lib.hid (beyond_one n hm w1)
  rw [hbey] at H17
  clear hbey
  go_wp2_with fail
  refine H17.out.mono ?_
  rintro e w2 ⟨rfl, rfl⟩
  have hB2 := below_one hB1 (.cells #[.int .i64 (n : Int)] 3)
  generalize w1.alloc (.cells #[.int .i64 (n : Int)] 3) = w2 at hB2 ⊢
  clear hB1 H17
  go_wp2_with fail
  refine (HA.out _).mono ?_
  rintro e w3 ⟨rfl, hB3⟩
  go_wp2
  go_ret
  exact ⟨rfl, hB2.trans (hB3.mono hB2.size)⟩
set_option maxRecDepth 100000 in
set_option maxHeartbeats 400000 in
theorem sumsOwn_mid (A : Option Addr) (c n : Nat) (o : Int) (w : World) (hm : n ≤ 140737488355328) (hbey : bey [(n : Int)] = false) (hl : 1048000 < n) :
    Calls Try.prog 9 #[.slice A n c, .int .u32 o] w fun e w' => e = .returned (.bool true) ∧ Below w.heap.size w w' := by
  have HA := Lib.hid alive_any
  go_enter Try.func9, Try.ntmps9
  go_wp2_with fail
  refine (HA.out w).mono ?_
  rintro e w1 ⟨rfl, hB1⟩
  have H17 := Lib.hid (beyond_one n hm w1)
  rw [hbey] at H17
  clear hbey
  go_wp2_with fail
  refine H17.out.mono ?_
  rintro e w2 ⟨rfl, rfl⟩
  have hB2 := below_one hB1 (.cells #[.int .i64 (n : Int)] 3)
  generalize w1.alloc (.cells #[.int .i64 (n : Int)] 3) = w2 at hB2 ⊢
  clear hB1 H17
  go_wp2_with fail
  refine (HA.out _).mono ?_
  rintro e w3 ⟨rfl, hB3⟩
  go_wp2
  go_ret
  exact ⟨rfl, hB2.trans (hB3.mono hB2.size)⟩
theorem more_four (x y : Nat) (hx : x < 4294967296) (hy : y < 4294967296) (w : World) :
    Calls Try.prog 14 #[.int .u32 x, .slice (some ⟨w.heap.size, 0, none⟩) 4 4] (w.alloc (.cells #[.int .u8 ((y : Int) % 256), .int .u8 ((y : Int) / 256 % 256), .int .u8 ((y : Int) / 65536 % 256), .int .u8 ((y : Int) / 16777216)] 5))
      fun e w' => e = .returned (.tuple #[.int .u32 (more x [y % 256, y / 256 % 256, y / 65536 % 256, y / 16777216 % 256] : Nat), .int .i64 0]) ∧ Below w.heap.size w w' := by
  have hn : nats [(y : Int) % 256, (y : Int) / 256 % 256, (y : Int) / 65536 % 256, (y : Int) / 16777216] = [y % 256, y / 256 % 256, y / 65536 % 256, y / 16777216 % 256] := by
    have e1 : ((y : Int) % 256).toNat = y % 256 := by omega
    have e2 : ((y : Int) / 256 % 256).toNat = y / 256 % 256 := by omega
    have e3 : ((y : Int) / 65536 % 256).toNat = y / 65536 % 256 := by omega
    have e4 : ((y : Int) / 16777216).toNat = y / 16777216 % 256 := by omega
    unfold nats
    rw [List.map_cons, List.map_cons, List.map_cons, List.map_cons, List.map_nil, e1, e2, e3, e4]
  have h := more_any x hx (some ⟨w.heap.size, 0, none⟩) 4 [(y : Int) % 256, (y : Int) / 256 % 256, (y : Int) / 65536 % 256, (y : Int) / 16777216] 4 rfl (w.alloc (.cells #[.int .u8 ((y : Int) % 256), .int .u8 ((y : Int) / 256 % 256), .int .u8 ((y : Int) / 65536 % 256), .int .u8 ((y : Int) / 16777216)] 5)) (by
    have := rd_newF w .u8 5 [(y : Int) % 256, (y : Int) / 256 % 256, (y : Int) / 65536 % 256, (y : Int) / 16777216] (0, 0)
    exact this.more (by simp)) (by simp; omega) (by simp) (by simp)
  rw [hn] at h
  refine h.mono fun e w' ⟨h1, h2⟩ => ⟨h1, ?_⟩
  exact ((Below.refl w.heap.size w).alloc (Nat.le_refl _) _).trans (h2.mono (by simp))
set_option maxRecDepth 100000 in
set_option maxHeartbeats 400000 in
theorem sumsOwn_near (A : Option Addr) (c : Nat) (xs : List Int) (o : Nat) (ho : o < 4294967296) (w : World) (hx : Rd .u8 w w.heap.size A xs) (hb : ∀ x ∈ xs, 0 ≤ x ∧ x ≤ 255) (hc : xs.length ≤ c) (hm : c ≤ 140737488351232) (hbey : bey [(xs.length : Int)] = false) (hl : xs.length ≤ 1048000) :
    Calls Try.prog 9 #[.slice A xs.length c, .int .u32 o] w fun e w' => e = .returned (.bool true) ∧ Below w.heap.size w w' := by
  have HM := Lib.hid (fun (w : World) (hx : Rd .u8 w w.heap.size A xs) => sum_any A c xs xs.length rfl w hx hb (by omega) hc)
  have hx4 : more 0 (nats xs) < 4294967296 := more_lt (by omega) (nats_bytes hb)
  have HA := Lib.hid alive_any
  clear hb
  go_enter Try.func9, Try.ntmps9
  go_wp2_with fail
  refine (HA.out w).mono ?_
  rintro e w1 ⟨rfl, hB1⟩
  have H17 := Lib.hid (beyond_one xs.length (by omega) w1)
  rw [hbey] at H17
  clear hbey
  go_wp2_with fail
  refine H17.out.mono ?_
  rintro e w2 ⟨rfl, rfl⟩
  have hB2 := below_one hB1 (.cells #[.int .i64 (xs.length : Int)] 3)
  generalize w1.alloc (.cells #[.int .i64 (xs.length : Int)] 3) = w2 at hB2 ⊢
  clear hB1 H17 HA
  have h1 := Lib.hid (HM.out w2 ((hx.below hB2).more hB2.size))
  go_wp2_with fail
  refine h1.out.mono ?_
  rintro e w3 ⟨rfl, hB3⟩
  have hB3' := hB2.trans (hB3.mono hB2.size)
  clear hB2 hB3 h1 HM hx
  generalize more 0 (nats xs) = x at hx4 ⊢
  have h2 := Lib.hid (more_four x x hx4 hx4 w3)
  rw [own_sum hx4] at h2
  go_wp2_with fail
  refine h2.out.mono ?_
  rintro e w4 ⟨rfl, hB4⟩
  have hB4' := hB3'.trans (hB4.mono hB3'.size)
  clear hB3' hB4 h2
  have h3 := Lib.hid (more_four x o hx4 ho w4)
  have HO := Lib.hid (own_other hx4 ho)
  generalize more x [o % 256, o / 256 % 256, o / 65536 % 256, o / 16777216 % 256] = V at h3 HO
  go_wp2_with fail
  refine h3.out.mono ?_
  rintro e w5 ⟨rfl, hB5⟩
  have hB5' := hB4'.trans (hB5.mono hB4'.size)
  clear hB4' hB5 h3
  by_cases hox : o = x
  · have hV := HO.out.2 hox
    subst hox hV
    clear HO
    go_wp2
    go_ret
    exact ⟨rfl, hB5'⟩
  · have h4 : ((V : Int) == 1214729159) = false := by
      have : ¬ V = 1214729159 := fun h => hox (HO.out.1 h)
      simp; omega
    have h5 : ((o : Int) == (x : Int)) = false := by simp; omega
    clear HO hox
    go_wp2
    go_ret
    exact ⟨rfl, hB5'⟩
end Go.Proofs.Ytfjigfmjhfoecaa
