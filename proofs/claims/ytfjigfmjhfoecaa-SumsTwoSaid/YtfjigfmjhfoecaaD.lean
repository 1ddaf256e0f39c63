/- The walk of the statement SumsBehind. -/
import Derived.Test.YtfjigfmjhfoecaaL
namespace Go.Proofs.Ytfjigfmjhfoecaa
open Go.RowKit
set_option linter.unusedVariables false
theorem below_one {w w1 : World} (h : Below w.heap.size w w1) (o : Obj) : Below w.heap.size w (w1.alloc o) := h.alloc h.size o
/-- Beyond of one length, in a new box. -/
theorem beyond_one (n : Nat) (hn : n ≤ 140737488355328) (w : World) : Calls Try.prog 17 #[.slice (some ⟨w.heap.size, 0, none⟩) 1 1] (w.alloc (.cells #[.int .i64 (n : Int)] 3)) fun e w' => e = .returned (.bool (bey [(n : Int)])) ∧ w.alloc (.cells #[.int .i64 (n : Int)] 3) = w' :=
  beyond_any (some ⟨w.heap.size, 0, none⟩) 1 [(n : Int)] 1 rfl _ (w.heap.size + 1) (rd_one w .i64 3 _) (by simp; omega) (by simp)
theorem bey_one {n : Nat} (h : bey [(n : Int)] = false) : n ≤ 1048576 := by unfold bey at h; simp at h; omega
set_option maxRecDepth 100000 in
set_option maxHeartbeats 400000 in
theorem sumsBehind_far (x y : Int) (A : Option Addr) (c n : Nat) (w : World) (hm : n ≤ 140737488355328) (hbey : bey [(n : Int)] = true) :
    Calls Try.prog 7 #[.int .u32 x, .int .u32 y, .slice A n c] w fun e w' => e = .returned (.bool true) ∧ Below w.heap.size w w' := by
  have HA := Lib.hid alive_any
  go_enter Try.func7, Try.ntmps7
  go_wp2_with fail
  refine (HA.out w).mono ?_
  rintro e w1 ⟨rfl, hB1⟩
  have H17 := Lib.hid (beyond_one n hm w1)
  rw [hbey] at H17
  clear hbey
  go_wp2_with fail
  refine H17.out.mono ?_
  rintro e w2 ⟨rfl, rfl⟩
  have hB2 := below_one hB1 (.cells #[.int .i64 (n : Int)] 3)
  generalize w1.alloc (.cells #[.int .i64 (n : Int)] 3) = w2 at hB2 ⊢
  clear hB1 H17
  go_wp2_with fail
  refine (HA.out _).mono ?_
  rintro e w3 ⟨rfl, hB3⟩
  go_wp2
  go_ret
  exact ⟨rfl, hB2.trans (hB3.mono hB2.size)⟩
set_option maxRecDepth 100000 in
set_option maxHeartbeats 400000 in
theorem sumsBehind_near (x y : Nat) (hx4 : x < 4294967296) (hy4 : y < 4294967296) (A : Option Addr) (c : Nat) (xs : List Int) (w : World) (hx : Rd .u8 w w.heap.size A xs) (hb : ∀ x ∈ xs, 0 ≤ x ∧ x ≤ 255) (hc : xs.length ≤ c) (hm : c ≤ 140737488351232) (hbey : bey [(xs.length : Int)] = false) :
    Calls Try.prog 7 #[.int .u32 x, .int .u32 y, .slice A xs.length c] w fun e w' => e = .returned (.bool true) ∧ Below w.heap.size w w' := by
  have hlen := bey_one hbey
  have HI := Lib.hid (more_inj (l := nats xs) hx4 hy4 (nats_bytes hb))
  have HM := Lib.hid (fun (s : Nat) (hs : s < 4294967296) (w : World) (hx : Rd .u8 w w.heap.size A xs) => more_any s hs A c xs xs.length rfl w hx hb hlen hc)
  have HA := Lib.hid alive_any
  clear hb
  go_enter Try.func7, Try.ntmps7
  go_wp2_with fail
  refine (HA.out w).mono ?_
  rintro e w1 ⟨rfl, hB1⟩
  have H17 := Lib.hid (beyond_one xs.length (by omega) w1)
  rw [hbey] at H17
  clear hbey
  go_wp2_with fail
  refine H17.out.mono ?_
  rintro e w2 ⟨rfl, rfl⟩
  have hB2 := below_one hB1 (.cells #[.int .i64 (xs.length : Int)] 3)
  generalize w1.alloc (.cells #[.int .i64 (xs.length : Int)] 3) = w2 at hB2 ⊢
  clear hB1 H17 HA
  have h1 := Lib.hid (HM.out x hx4 w2 ((hx.below hB2).more hB2.size))
  go_wp2_with fail
  refine h1.out.mono ?_
  rintro e w3 ⟨rfl, hB3⟩
  have hB3' := hB2.trans (hB3.mono hB2.size)
  have h2 := Lib.hid (HM.out y hy4 w3 ((hx.below hB3').more hB3'.size))
  clear hB2 hB3 h1
  go_wp2_with fail
  refine h2.out.mono ?_
  rintro e w4 ⟨rfl, hB4⟩
  have hB4' := hB3'.trans (hB4.mono hB3'.size)
  clear hB3' hB4 h2 HM
  generalize more x (nats xs) = V at HI ⊢
  generalize more y (nats xs) = U at HI ⊢
  by_cases hxy : x = y
  · have hVU := HI.out.2 hxy
    subst hxy hVU
    clear HI
    go_wp2
    go_ret
    exact ⟨rfl, hB4'⟩
  · have h3 : ((V : Int) == (U : Int)) = false := by
      have : ¬ V = U := fun h => hxy (HI.out.1 h)
      simp; omega
    have h4 : ((x : Int) == (y : Int)) = false := by simp; omega
    clear HI hxy
    go_wp2
    go_ret
    exact ⟨rfl, hB4'⟩
end Go.Proofs.Ytfjigfmjhfoecaa
