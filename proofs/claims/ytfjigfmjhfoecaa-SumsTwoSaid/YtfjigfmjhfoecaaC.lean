/- The walks of the statements SumsSums and SumsMore. -/
import Derived.Test.YtfjigfmjhfoecaaB
import Derived.Test.YtfjigfmjhfoecaaK
namespace Go.Proofs.Ytfjigfmjhfoecaa
open Go.RowKit
set_option linter.unusedVariables false
/-- What More and Sum answer, refused or not. -/
theorem more_both (s : Nat) (hs : s < 4294967296) (xs : List Int) (hb : ∀ x ∈ xs, 0 ≤ x ∧ x ≤ 255) (hl : xs.length ≤ 140737488355328) :
    ∃ V E : Int, (∀ (A : Option Addr) (c : Nat) (w : World), Rd .u8 w w.heap.size A xs → xs.length ≤ c → Calls Try.prog 14 #[.int .u32 s, .slice A xs.length c] w fun e w' => e = .returned (.tuple #[.int .u32 V, .int .i64 E]) ∧ Below w.heap.size w w') ∧
      (∀ (A : Option Addr) (c : Nat) (w : World) (B : Nat), Rd .u8 w B A xs → xs.length ≤ c → Calls Try.prog 15 #[.int .u32 s, .slice A xs.length c] w fun e w' => e = .returned (.tuple #[.int .u32 V, .int .i64 E]) ∧ w = w') := by
  by_cases h : 1048576 < xs.length
  · exact ⟨0, 3, fun A c w hx hc => (more_far s A c xs.length w h hl).mono fun e w' ⟨h1, h2⟩ => ⟨h1, by subst h2; exact Below.refl _ _⟩, fun A c w B hx hc => refMore_far s A c xs.length w h hl⟩
  · exact ⟨_, 0, fun A c w hx hc => more_any s hs A c xs xs.length rfl w hx hb (by omega) hc, fun A c w B hx hc => refMore_any s hs A c xs xs.length rfl w B hx hb (by omega) hc⟩
theorem sum_both (xs : List Int) (hb : ∀ x ∈ xs, 0 ≤ x ∧ x ≤ 255) (hl : xs.length ≤ 140737488355328) :
    ∃ V E : Int, (∀ (A : Option Addr) (c : Nat) (w : World), Rd .u8 w w.heap.size A xs → xs.length ≤ c → Calls Try.prog 11 #[.slice A xs.length c] w fun e w' => e = .returned (.tuple #[.int .u32 V, .int .i64 E]) ∧ Below w.heap.size w w') ∧
      (∀ (A : Option Addr) (c : Nat) (w : World) (B : Nat), Rd .u8 w B A xs → xs.length ≤ c → Calls Try.prog 12 #[.slice A xs.length c] w fun e w' => e = .returned (.tuple #[.int .u32 V, .int .i64 E]) ∧ w = w') := by
  by_cases h : 1048576 < xs.length
  · exact ⟨0, 3, fun A c w hx hc => (sum_far A c xs.length w h hl).mono fun e w' ⟨h1, h2⟩ => ⟨h1, by subst h2; exact Below.refl _ _⟩, fun A c w B hx hc => refSum_far A c xs.length w h hl⟩
  · exact ⟨_, 0, fun A c w hx hc => sum_any A c xs xs.length rfl w hx hb (by omega) hc, fun A c w B hx hc => refSum_any A c xs xs.length rfl w B hx hb (by omega) hc⟩
theorem below_drewN {B : Nat} {w w' : World} (h : Below B w w') (n : Nat) : Below B w (w'.drewN n) := by
  induction n with
  | zero => exact h
  | succ n ih => exact ih.drew
set_option maxHeartbeats 400000 in
theorem sumsSums_walk (A : Option Addr) (c : Nat) (xs : List Int) (w : World) (hx : Rd .u8 w w.heap.size A xs) (hb : ∀ x ∈ xs, 0 ≤ x ∧ x ≤ 255) (hc : xs.length ≤ c) (hm : c ≤ 140737488351232) :
    Calls Try.prog 3 #[.slice A xs.length c] w fun e w' => e = .returned (.bool true) ∧ Below w.heap.size w w' := by
  by_cases hbig : 2097152 < xs.length
  · go_enter Try.func3, Try.ntmps3
    go_wp2
    go_ret
    exact ⟨rfl, Below.refl _ _⟩
  · obtain ⟨V, E, h11, h12⟩ := sum_both xs hb (by omega)
    have H11 := Lib.hid h11
    have H12 := Lib.hid h12
    have H10 := Lib.hid (twinBytes_any A c xs xs.length rfl w hx (by omega))
    clear h11 h12
    go_enter Try.func3, Try.ntmps3
    go_wp2_with fail
    refine H10.out.mono ?_
    rintro e w1 ⟨rfl, hB1, hown⟩
    have hT : Rd .u8 w1 w1.heap.size (some ⟨w.heap.size, 0, none⟩) (xs ++ [77]) := rd_own hown
    have hT' : Rd .u8 w1 w1.heap.size (some ⟨w.heap.size, 0, none⟩) xs := by simpa using hT.take xs.length
    have h1 := Lib.hid (H11.out _ (xs.length + 1) w1 hT' (by omega))
    have HT := Lib.hid hT
    clear hown hT hT'
    go_wp2_with fail
    refine h1.out.mono ?_
    rintro e w2 ⟨rfl, hB2⟩
    have hBw : Below w.heap.size w w2 := hB1.trans (hB2.mono hB1.size)
    have hx2 : Rd .u8 w2 w2.heap.size A xs := (hx.below hBw).more hBw.size
    have hT2 : Rd .u8 w2 w2.heap.size (some ⟨w.heap.size, 0, none⟩) (xs ++ [77]) := (HT.out.below hB2).more hB2.size
    have h2 := Lib.hid (H12.out A c w2 _ hx2 hc)
    have h3 := Lib.hid (leftBytes_any (some ⟨w.heap.size, 0, none⟩) A (xs.length + 1) c xs xs.length rfl w2 _ hx2 hT2 hc (by omega) (by omega) (by omega))
    clear hx2 hT2 hB1 hB2
    go_wp2_with fail
    refine h2.out.mono ?_
    rintro e w3 ⟨rfl, rfl⟩
    go_wp2_with fail
    refine h3.out.mono ?_
    rintro e w4 ⟨rfl, nq, rfl⟩
    go_wp2
    go_ret
    exact ⟨rfl, below_drewN hBw nq⟩
set_option maxHeartbeats 400000 in
theorem sumsMore_walk (s : Nat) (hs : s < 4294967296) (A : Option Addr) (c : Nat) (xs : List Int) (w : World) (hx : Rd .u8 w w.heap.size A xs) (hb : ∀ x ∈ xs, 0 ≤ x ∧ x ≤ 255) (hc : xs.length ≤ c) (hm : c ≤ 140737488351232) :
    Calls Try.prog 4 #[.int .u32 s, .slice A xs.length c] w fun e w' => e = .returned (.bool true) ∧ Below w.heap.size w w' := by
  by_cases hbig : 2097152 < xs.length
  · go_enter Try.func4, Try.ntmps4
    go_wp2
    go_ret
    exact ⟨rfl, Below.refl _ _⟩
  · obtain ⟨V, E, h11, h12⟩ := more_both s hs xs hb (by omega)
    have H11 := Lib.hid h11
    have H12 := Lib.hid h12
    have H10 := Lib.hid (twinBytes_any A c xs xs.length rfl w hx (by omega))
    clear h11 h12
    go_enter Try.func4, Try.ntmps4
    go_wp2_with fail
    refine H10.out.mono ?_
    rintro e w1 ⟨rfl, hB1, hown⟩
    have hT : Rd .u8 w1 w1.heap.size (some ⟨w.heap.size, 0, none⟩) (xs ++ [77]) := rd_own hown
    have hT' : Rd .u8 w1 w1.heap.size (some ⟨w.heap.size, 0, none⟩) xs := by simpa using hT.take xs.length
    have h1 := Lib.hid (H11.out _ (xs.length + 1) w1 hT' (by omega))
    have HT := Lib.hid hT
    clear hown hT hT'
    go_wp2_with fail
    refine h1.out.mono ?_
    rintro e w2 ⟨rfl, hB2⟩
    have hBw : Below w.heap.size w w2 := hB1.trans (hB2.mono hB1.size)
    have hx2 : Rd .u8 w2 w2.heap.size A xs := (hx.below hBw).more hBw.size
    have hT2 : Rd .u8 w2 w2.heap.size (some ⟨w.heap.size, 0, none⟩) (xs ++ [77]) := (HT.out.below hB2).more hB2.size
    have h2 := Lib.hid (H12.out A c w2 _ hx2 hc)
    have h3 := Lib.hid (leftBytes_any (some ⟨w.heap.size, 0, none⟩) A (xs.length + 1) c xs xs.length rfl w2 _ hx2 hT2 hc (by omega) (by omega) (by omega))
    clear hx2 hT2 hB1 hB2
    go_wp2_with fail
    refine h2.out.mono ?_
    rintro e w3 ⟨rfl, rfl⟩
    go_wp2_with fail
    refine h3.out.mono ?_
    rintro e w4 ⟨rfl, nq, rfl⟩
    go_wp2
    go_ret
    exact ⟨rfl, below_drewN hBw nq⟩
end Go.Proofs.Ytfjigfmjhfoecaa
