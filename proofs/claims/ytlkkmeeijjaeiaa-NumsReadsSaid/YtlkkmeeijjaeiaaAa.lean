/- The walk of the statement NumsItems. -/
import Derived.Test.YtlkkmeeijjaeiaaZ
import Derived.Deep.RegionWith
namespace Go.Proofs.Ytlkkmeeijjaeiaa
open Go.RowKit
set_option linter.unusedVariables false
set_option maxHeartbeats 400000 in
theorem twinInt8s_any (A : Option Addr) (c : Nat) (xs : List Int) (n : Nat) (hn : n = xs.length) (w : World) (hx : Rd .i8 w w.heap.size A xs) (hl : xs.length ≤ 140737488355000) :
    Calls Try.prog 74 #[.slice A n c] w fun e w' => e = .returned (.slice (some ⟨w.heap.size, 0, none⟩) n (n + 1)) ∧ Below w.heap.size w w' ∧
      w'.ownsRow w.heap.size 74 1 (.slice (some ⟨w.heap.size, 0, none⟩) (n + 1) (n + 1)) (n + 1) ((xs ++ [77]).map (Value.int .i8)) := by
  subst hn
  obtain ⟨i0, hi, hz0, hz1, hz2⟩ := info_parts Try.info74
  go_enter Try.func74, Try.ntmps74
  go_wp2_with (at_make; refine wpList_make_own _ rfl _ _ 52 rfl w.heap.size 74 i0 (.int .i8 0) 1 Try.underlying52 hi hz0 hz1 _ _ _ (xs.length + 1) rfl rfl (by omega) ?b2 ?b3 (Nat.le_refl _) ?_)
  case b2 => rw [hz2]; omega
  case b3 => unfold maxLen; omega
  intro w1 hown hgrow
  have hB1 : Below w.heap.size w w1 := (Below.refl _ _).grown hgrow (Nat.le_refl _) (by simp)
  clear hgrow
  go_wp2
  go_loopw [3, 4] (fun v i wr => ∃ k : Nat, k ≤ xs.length ∧ i = .int .i64 k ∧ v = .slice (some ⟨w.heap.size, 0, none⟩) k (xs.length + 1) ∧
      wr.ownsRow w.heap.size 74 1 (.slice (some ⟨w.heap.size, 0, none⟩) k (xs.length + 1)) k ((xs.take k).map (Value.int .i8)) ∧ Below w.heap.size w wr) (fun _ i _ => xs.length - (intOf i).toNat)
  case atStart => exact ⟨0, by omega, rfl, rfl, by simpa using hown, hB1⟩
  case round =>
    clear hown hB1
    obtain ⟨k, hk, rfl, rfl, hown, hB⟩ := hrel
    have hsz := hB.size
    by_cases hlt : k < xs.length
    · obtain ⟨b, off, v, rfl, hBb, hck, hv⟩ := (hx.below hB).at_ hlt
      have HS := Lib.hid (map_take (k := .i8) xs k v hlt hv.out)
      go_wp2_with (at_builtin; refine wpList_append_fits _ rfl (.tmp 15) (.tmp 20) 52 rfl w.heap.size 74 i0 1 Try.underlying52 hi hz1 w.heap.size k (xs.length + 1) _ rfl (hown.alloc _) ⟨wr.heap.size, 0, none⟩ 1 1 [.int .i8 v] rfl rfl (cell_one_new _ _ _) (by simp [Value.oneCell']) (by omega) ?_; intro w2 hown2 hg2)
      have hB2 : Below w.heap.size w w2 := (hB.alloc hsz _).grown hg2 (by simp; omega) (by simp)
      go_wp2
      go_roundw
      case rel => exact ⟨k + 1, by omega, by go_num, rfl, by rw [HS.out]; exact hown2, hB2⟩
      case measure => simp [intOf]; omega
    · obtain rfl : k = xs.length := by omega
      rw [List.take_length] at hown
      go_wp2_with (at_builtin; refine wpList_append_fits _ rfl (.tmp 22) (.tmp 23) 52 rfl w.heap.size 74 i0 1 Try.underlying52 hi hz1 w.heap.size xs.length (xs.length + 1) _ rfl (hown.alloc _) ⟨wr.heap.size, 0, none⟩ 1 1 [.int .i8 77] rfl rfl (cell_one_new _ _ _) (by simp [Value.oneCell']) (by omega) ?_; intro w2 hown2 hg2)
      have hB2 : Below w.heap.size w w2 := (hB.alloc hsz _).grown hg2 (by simp; omega) (by simp)
      go_wp2
      go_ret
      exact ⟨rfl, hB2, by simpa using hown2⟩
set_option maxHeartbeats 400000 in
theorem leftInt8s_any (T A : Option Addr) (tc c : Nat) (xs : List Int) (n : Nat) (hn : n = xs.length) (w : World) (B : Nat) (hx : Rd .i8 w B A xs) (ht : Rd .i8 w B T (xs ++ [77])) (hc : xs.length ≤ c) (htc : xs.length < tc) (hm : c ≤ 9223372036854775807 ∧ xs.length ≤ 140737488355328) (htm : tc ≤ 9223372036854775807) :
    Calls Try.prog 76 #[.slice T n tc, .slice A n c] w fun e w' => e = .returned (.bool true) ∧ ∃ nq, w' = w.drewN nq := by
  subst hn
  obtain ⟨tb, toff, v77, rfl, hBt, htk, htv⟩ := ht.at_ (i := xs.length) (by simp)
  have e77 : v77 = 77 := by rw [← htv.out]; simp
  subst e77
  clear htv
  go_enter Try.func76, Try.ntmps76
  go_wp2
  go_loopw [5] (fun i wr => ∃ k nq : Nat, k ≤ xs.length ∧ i = .int .i64 k ∧ wr = w.drewN nq) (fun i _ => xs.length - (intOf i).toNat)
  case atStart => exact ⟨0, 0, by omega, rfl, rfl⟩
  case round =>
    obtain ⟨k, nq, hk, rfl, rfl⟩ := hrel
    by_cases hlt : k < xs.length
    · obtain ⟨b, off, v, rfl, hBb, hck, hv⟩ := hx.at_ hlt
      obtain ⟨tb', toff', v', hT, _, htck, hv'⟩ := ht.at_ (i := k) (by simp; omega)
      simp only [Option.some.injEq, Addr.mk.injEq, and_true] at hT
      obtain ⟨rfl, rfl⟩ := hT
      have e : v' = v := by
        rw [← hv.out, ← hv'.out, List.getElem?_append_left hlt]
      subst e
      clear hv hv'
      have h1 : (0 : Int) ≤ (k : Int) := by omega
      have h2 : (k : Int) < (xs.length : Int) := by omega
      go_wp2
      go_quiet (fail)
      go_wp2
      go_roundw
      case rel => exact ⟨k + 1, _, by omega, by go_num, rfl⟩
      case measure => simp [intOf]; omega
    · obtain rfl : k = xs.length := by omega
      go_wp2
      go_ret
      exact ⟨rfl, _, rfl⟩

set_option maxHeartbeats 400000 in
theorem leftItem_any (id : Int) (T A : Option Addr) (tc c : Nat) (xs : List Int) (n : Nat) (hn : n = xs.length) (w : World) (hx : Rd .i8 w w.heap.size A xs) (ht : Rd .i8 w w.heap.size T (xs ++ [77])) (hc : xs.length ≤ c) (htc : xs.length < tc) (hm : c ≤ 9223372036854775807 ∧ xs.length ≤ 140737488355328) (htm : tc ≤ 9223372036854775807) :
    Calls Try.prog 29 #[.agg #[.int .u64 id, .slice T n tc], .agg #[.int .u64 id, .slice A n c]] w fun e w' => e = .returned (.bool true) ∧ Below w.heap.size w w' := by
  have hB : Below w.heap.size w ((w.alloc (.cells #[.int .u64 id, .slice T n tc] 54)).alloc (.cells #[.int .u64 id, .slice A n c] 54)) := ((Below.refl _ _).alloc (Nat.le_refl _) _).alloc (by simp) _
  have S := Lib.hid (leftInt8s_any T A tc c xs n hn _ _ (hx.below hB) (ht.below hB) hc htc hm htm)
  clear hx ht hn hc htc hm htm
  go_enter Try.func29, Try.ntmps29
  go_wp2_with fail
  refine S.out.mono ?_
  rintro e w' ⟨rfl, nq, rfl⟩
  go_wp2
  go_ret
  exact ⟨rfl, below_drewN hB nq⟩
/-- What TwinItem answers: the same item in memory of its own, a mark behind its list. -/
def TwinYes (w : World) (id : Int) (xs : List Int) (e : Ending) (w' : World) : Prop :=
  ∃ g, e = .returned (.agg #[.int .u64 id, .slice (some ⟨g, 0, none⟩) xs.length (xs.length + 1)]) ∧ Below w.heap.size w w' ∧ w'.ownsRow w.heap.size 74 1 (.slice (some ⟨g, 0, none⟩) (xs.length + 1) (xs.length + 1)) (xs.length + 1) ((xs ++ [77]).map (Value.int .i8))
set_option maxRecDepth 100000 in
set_option maxHeartbeats 2000000 in
theorem twinItem_any (id : Int) (A : Option Addr) (c : Nat) (xs : List Int) (w : World) (hx : Rd .i8 w w.heap.size A xs) (hl : xs.length ≤ 140737488355000) :
    Calls Try.prog 26 #[.agg #[.int .u64 id, .slice A xs.length c]] w (TwinYes w id xs) := by
  obtain ⟨w0, hw0⟩ : ∃ w0, (w.alloc (.cells #[.int .u64 id, .slice A xs.length c] 54)).alloc (.cells #[.int .u64 0, .slice none 0 0] 54) = w0 := ⟨_, rfl⟩
  have hB0 : Below w.heap.size w w0 := by rw [← hw0]; exact ((Below.refl _ _).alloc (Nat.le_refl _) _).alloc (by simp) _
  have hs0 : w.heap.size + 2 = w0.heap.size := by rw [← hw0]; simp
  have c0 : w0.cell? ⟨w.heap.size, 0, none⟩ = some (.int .u64 id) := by rw [← hw0]; simp [go_sem]
  have c1 : w0.cell? ⟨w.heap.size, 1, none⟩ = some (.slice A xs.length c) := by rw [← hw0]; simp [go_sem]
  have r0 : w0.cell? ⟨w.heap.size + 1, 0, none⟩ = some (.int .u64 0) := by rw [← hw0]; simp [go_sem]
  have r1 : w0.cell? ⟨w.heap.size + 1, 1, none⟩ = some (.slice none 0 0) := by rw [← hw0]; simp [go_sem]
  have f0 : w0.frozen? ⟨w.heap.size + 1, 0, none⟩ = false := by rw [← hw0]; simp [go_sem]
  have f1 : w0.frozen? ⟨w.heap.size + 1, 1, none⟩ = false := by rw [← hw0]; simp [go_sem]
  have T0 := twinInt8s_any A c xs xs.length rfl w0.drew ((hx.below hB0).more (by show w.heap.size ≤ w0.heap.size; omega)) hl
  have TW : Hid (Calls Try.prog 74 #[.slice A xs.length c] w0.drew fun e w' => e = .returned (.slice (some ⟨w0.heap.size, 0, none⟩) xs.length (xs.length + 1)) ∧ Below w0.heap.size w0 w' ∧ w'.ownsRow w0.heap.size 74 1 (.slice (some ⟨w0.heap.size, 0, none⟩) (xs.length + 1) (xs.length + 1)) (xs.length + 1) ((xs ++ [77]).map (Value.int .i8))) := T0.mono fun e w' ⟨h1, h2, h3⟩ => ⟨h1, ⟨h2.os, h2.tape, h2.output, h2.size, h2.block⟩, h3⟩
  have HS := Lib.hid hs0
  clear T0 hs0 hx
  go_enter Try.func26, Try.ntmps26
  go_wp2
  clear hw0
  go_region_with (go_at_call 74; refine TW.out.mono ?_; rintro e w' ⟨rfl, hB1, hown⟩; have z0 := (hB1.cell (p := ⟨w.heap.size, 0, none⟩) (by have := HS.out; show w.heap.size < w0.heap.size; omega)).trans c0; have y0 := (hB1.cell (p := ⟨w.heap.size + 1, 0, none⟩) (by have := HS.out; show w.heap.size + 1 < w0.heap.size; omega)).trans r0; have y1 := (hB1.cell (p := ⟨w.heap.size + 1, 1, none⟩) (by have := HS.out; show w.heap.size + 1 < w0.heap.size; omega)).trans r1; have x0 := (hB1.frozen (p := ⟨w.heap.size + 1, 0, none⟩) (by have := HS.out; show w.heap.size + 1 < w0.heap.size; omega)).trans f0; have x1 := (hB1.frozen (p := ⟨w.heap.size + 1, 1, none⟩) (by have := HS.out; show w.heap.size + 1 < w0.heap.size; omega)).trans f1)
  all_goals
    go_wp2
    have o1 := ownsRow_setCell_below hown (a := ⟨w.heap.size + 1, 0, none⟩) (by have := HS.out; show w.heap.size + 1 < w0.heap.size; omega) (.int .u64 id)
    have o2 := ownsRow_setCell_below o1 (a := ⟨w.heap.size + 1, 1, none⟩) (by have := HS.out; show w.heap.size + 1 < w0.heap.size; omega) (.slice (some ⟨w0.heap.size, 0, none⟩) xs.length (xs.length + 1))
    have hBe : Below w.heap.size w w' := hB0.trans (hB1.mono (by have := HS.out; omega))
    exact bodyPost_ret (v := .agg #[.int .u64 id, .slice (some ⟨w0.heap.size, 0, none⟩) xs.length (xs.length + 1)]) (by simp [results, Try.results26, go_sem, y0, y1]) rfl ⟨w0.heap.size, rfl, (hBe.setCell (p := ⟨w.heap.size + 1, 0, none⟩) (by show w.heap.size ≤ w.heap.size + 1; omega) _).setCell (p := ⟨w.heap.size + 1, 1, none⟩) (by show w.heap.size ≤ w.heap.size + 1; omega) _, owns_base o2 (by have := HS.out; omega)⟩
end Go.Proofs.Ytlkkmeeijjaeiaa
