/- The walks of TwinHits and LeftHits. -/
import Derived.Test.YtfokejlancmahaaVw
import Derived.Maps.AppendAt
import Derived.Deep.AppendLies
import Derived.WalkLawsBesides
namespace Go.Proofs.Ytfokejlancmahaa
open Go.RowKit Go.Shelf
set_option linter.unusedVariables false
set_option maxRecDepth 100000 in
set_option maxHeartbeats 1000000 in
theorem twinHits_any (A : Option Addr) (c : Nat) (xs : List (Int × Int)) (n : Nat) (hn : n = xs.length) (w : World) (hx : RdH w w.heap.size A xs) (hl : xs.length ≤ 8796093000000) :
    Calls Try.prog 9 #[.slice A n c] w fun e w' => e = .returned (.slice (some ⟨w.heap.size, 0, none⟩) n (n + 1)) ∧ Below w.heap.size w w' ∧
      w'.ownsRow w.heap.size 45 2 (.slice (some ⟨w.heap.size, 0, none⟩) (n + 1) (n + 1)) (n + 1) (flatH (xs ++ [(77, 0)])) := by
  subst hn
  obtain ⟨i0, hi, hz0, hz1, hz2⟩ := info_parts Try.info45h
  go_enter Try.func9, Try.ntmps9
  go_wp2_with (at_make; refine wpList_make_own _ rfl _ _ 22 rfl w.heap.size 45 i0 (.agg #[.int .u64 0, .int .i64 0]) 2 Try.underlying22 hi hz0 hz1 _ _ _ (xs.length + 1) rfl rfl (by omega) ?b2 ?b3 (Nat.le_refl _) ?_)
  case b2 => rw [hz2]; omega
  case b3 => unfold maxLen; omega
  intro w1 hown hgrow
  have hB1 : Below w.heap.size w w1 := (Below.refl _ _).grown hgrow (Nat.le_refl _) (by simp)
  clear hgrow
  go_wp2
  go_loopw [3, 4] (fun v i wr => ∃ k : Nat, k ≤ xs.length ∧ i = .int .i64 k ∧ v = .slice (some ⟨w.heap.size, 0, none⟩) k (xs.length + 1) ∧
      wr.ownsRow w.heap.size 45 2 (.slice (some ⟨w.heap.size, 0, none⟩) k (xs.length + 1)) k (flatH (xs.take k)) ∧ Below w.heap.size w wr) (fun _ i _ => xs.length - (intOf i).toNat)
  case atStart => exact ⟨0, by omega, rfl, rfl, by simpa [flatH] using hown, hB1⟩
  case round =>
    clear hown hB1
    obtain ⟨k, hk, rfl, rfl, hown, hB⟩ := hrel
    have hsz := hB.size
    by_cases hlt : k < xs.length
    · obtain ⟨b, off, x, y, rfl, hBb, hck, hck', hv⟩ := (hx.below hB).at_ hlt
      have HS := Lib.hid (takeH hv.out)
      clear hv
      go_wp2_with (at_builtin; refine wpList_append_fits _ rfl (.tmp 15) (.tmp 20) 22 rfl w.heap.size 45 i0 2 Try.underlying22 hi hz1 w.heap.size k (xs.length + 1) _ rfl (hown.alloc _) ⟨wr.heap.size, 0, none⟩ 1 1 [.int .u64 x, .int .i64 y] rfl rfl (World.news_of_block (cs := #[.int .u64 x, .int .i64 y]) (t := 45) (fr := (0, 0)) (heap_alloc_new wr _)) (by simp [Value.oneCell']) (by omega) ?_; intro w2 hown2 hg2)
      have hB2 : Below w.heap.size w w2 := (hB.alloc hsz _).grown hg2 (by simp; omega) (by simp)
      go_wp2
      go_roundw
      case rel => exact ⟨k + 1, by omega, by go_num, rfl, by rw [← HS.out]; exact hown2, hB2⟩
      case measure => simp [intOf]; omega
    · obtain rfl : k = xs.length := by omega
      rw [List.take_length] at hown
      go_wp2_with (at_builtin; refine wpList_append_fits _ rfl (.tmp 22) (.tmp 24) 22 rfl w.heap.size 45 i0 2 Try.underlying22 hi hz1 w.heap.size xs.length (xs.length + 1) _ rfl (hown.alloc _) ⟨wr.heap.size, 0, none⟩ 1 1 [.int .u64 77, .int .i64 0] rfl rfl (World.news_of_block (cs := #[.int .u64 77, .int .i64 0]) (t := 45) (fr := (0, 0)) (heap_alloc_new wr _)) (by simp [Value.oneCell']) (by omega) ?_; intro w2 hown2 hg2)
      have hB2 : Below w.heap.size w w2 := (hB.alloc hsz _).grown hg2 (by simp; omega) (by simp)
      go_wp2
      go_ret
      exact ⟨rfl, hB2, by rw [flatH_app]; exact hown2⟩
set_option maxRecDepth 100000 in
set_option maxHeartbeats 1000000 in
theorem leftHits_any (T A : Option Addr) (tc c : Nat) (xs : List (Int × Int)) (n : Nat) (hn : n = xs.length) (w : World) (hx : RdH w w.heap.size A xs) (ht : RdH w w.heap.size T (xs ++ [(77, 0)])) (hc : xs.length ≤ c) (htc : xs.length < tc) (hm : c ≤ 9223372036854775807 ∧ xs.length ≤ 140737488355328) (htm : tc ≤ 9223372036854775807) :
    Calls Try.prog 12 #[.slice T n tc, .slice A n c] w fun e w' => e = .returned (.bool true) ∧ Below w.heap.size w w' := by
  subst hn
  obtain ⟨tb, toff, v77, u77, rfl, hBt, htk, htk', htv⟩ := ht.at_ (i := xs.length) (by simp)
  have e77 : v77 = 77 ∧ u77 = 0 := by have := htv.out; simp at this; exact ⟨this.1.symm, this.2.symm⟩
  obtain ⟨rfl, rfl⟩ := e77
  clear htv
  have h1 : ((xs.length : Int) != (xs.length : Int)) = false := by simp
  go_enter Try.func12, Try.ntmps12
  go_wp2
  go_loopw [5] (fun i wr => ∃ k nq : Nat, k ≤ xs.length ∧ i = .int .i64 k ∧ wr = w.drewN nq) (fun i _ => xs.length - (intOf i).toNat)
  case atStart => exact ⟨0, 0, by omega, rfl, rfl⟩
  case round =>
    obtain ⟨k, nq, hk, rfl, rfl⟩ := hrel
    by_cases hlt : k < xs.length
    · obtain ⟨b, off, v, u, rfl, hBb, hck, hck', hv⟩ := hx.at_ hlt
      obtain ⟨tb', toff', v', u', hT, _, htck, htck', hv'⟩ := ht.at_ (i := k) (by simp; omega)
      simp only [Option.some.injEq, Addr.mk.injEq, and_true] at hT
      obtain ⟨rfl, rfl⟩ := hT
      have e : v' = v ∧ u' = u := by
        have h1 := hv.out
        have h2 := hv'.out
        rw [List.getElem?_append_left hlt, h1] at h2
        simp only [Option.some.injEq, Prod.mk.injEq] at h2
        exact ⟨h2.1.symm, h2.2.symm⟩
      obtain ⟨rfl, rfl⟩ := e
      clear hv hv'
      have h1 : (0 : Int) ≤ (k : Int) := by omega
      have h2 : (k : Int) < (xs.length : Int) := by omega
      have e1 : (v' == v') = true := by simp
      have e2 : (u' == u') = true := by simp
      go_wp2
      go_quiet (fail)
      go_wp2
      go_roundw
      case rel => exact ⟨k + 1, _, by omega, by go_num, rfl⟩
      case measure => simp [intOf]; omega
    · obtain rfl : k = xs.length := by omega
      have j1 : (w.drewN nq).cell? ⟨tb, toff + xs.length * 2, none⟩ = some (.int .u64 77) := htk
      have j2 : (w.drewN nq).cell? ⟨tb, toff + xs.length * 2 + 1, none⟩ = some (.int .i64 0) := htk'
      have hb := below_drewN (Below.refl w.heap.size w) nq
      generalize w.drewN nq = W at j1 j2 hb ⊢
      clear htk htk'
      go_wp2
      go_ret
      exact ⟨rfl, hb.alloc hb.size _⟩
end Go.Proofs.Ytfokejlancmahaa
