/- Several texts in one. -/
import Derived.Test.YtkmngbkghgelfaaGreatProg
import Derived.Test.YtkmngbkghgelfaaGreatOw
import Derived.WalkKit
import Derived.WalkSpells
import Derived.WalkLawsBesides
import Derived.Below
import Derived.Lib.Hide
import Derived.Deep.QuietTactic
import Derived.BigQuiet
import Derived.Maps.AppendAt
/- The walks of the statements' own helpers on lists of int8: Beyond, TwinInt8s, LeftInt8s. -/
namespace Go.Proofs.YtkmngbkghgelfaaGreat
open Go.RowKit
set_option linter.unusedVariables false
/-- Beyond: are these sizes, taken together, more than 1048576? -/
def bey (xs : List Int) : Bool := decide (1048576 < xs.sum)
theorem sum_take (xs : List Int) (k : Nat) (v : Int) (hk : k < xs.length) (hv : xs[k]?.getD 0 = v) : (xs.take (k + 1)).sum = (xs.take k).sum + v := by
  rw [List.take_succ_eq_append_getElem hk, List.sum_append, ← hv, List.getElem?_eq_getElem hk]; simp
theorem sum_mono (xs : List Int) (h : ∀ x ∈ xs, 0 ≤ x) (k : Nat) : (xs.take k).sum ≤ xs.sum := by
  have e : xs.sum = (xs.take k).sum + (xs.drop k).sum := by rw [← List.sum_append, List.take_append_drop]
  have : ∀ l : List Int, (∀ x ∈ l, 0 ≤ x) → 0 ≤ l.sum := by
    intro l; induction l with
    | nil => simp
    | cons a l ih => intro hl; have := ih (fun x hx => hl x (by simp [hx])); have := hl a (by simp); simp; omega
  have := this (xs.drop k) (fun x hx => h x (List.mem_of_mem_drop hx))
  omega
theorem Tryz.info64 : (Tryz.prog.info? 64).map (fun i => (i.zero, i.size, i.bytes)) = some (some (.int .i8 0), 1, 1) := by kernel_rfl

theorem map_take {k : IntKind} (xs : List Int) (i : Nat) (v : Int) (hi : i < xs.length) (hv : xs[i]?.getD 0 = v) : (xs.take (i + 1)).map (Value.int k) = (xs.take i).map (Value.int k) ++ [.int k v] := by
  rw [List.take_succ_eq_append_getElem hi, ← hv, List.getElem?_eq_getElem hi, List.map_append]; rfl
set_option maxHeartbeats 400000 in
theorem twinInt8s_any (A : Option Addr) (c : Nat) (xs : List Int) (n : Nat) (hn : n = xs.length) (w : World) (hx : Rd .i8 w w.heap.size A xs) (hl : xs.length ≤ 140737488355000) :
    Calls Tryz.prog 8 #[.slice A n c] w fun e w' => e = .returned (.slice (some ⟨w.heap.size, 0, none⟩) n (n + 1)) ∧ Below w.heap.size w w' ∧
      w'.ownsRow w.heap.size 64 1 (.slice (some ⟨w.heap.size, 0, none⟩) (n + 1) (n + 1)) (n + 1) ((xs ++ [77]).map (Value.int .i8)) := by
  subst hn
  obtain ⟨i0, hi, hz0, hz1, hz2⟩ := info_parts Tryz.info64
  go_enter Tryz.func8, Tryz.ntmps8
  go_wp2_with (at_make; refine wpList_make_own _ rfl _ _ 25 rfl w.heap.size 64 i0 (.int .i8 0) 1 Tryz.underlying25 hi hz0 hz1 _ _ _ (xs.length + 1) rfl rfl (by omega) ?b2 ?b3 (Nat.le_refl _) ?_)
  case b2 => rw [hz2]; omega
  case b3 => unfold maxLen; omega
  intro w1 hown hgrow
  have hB1 : Below w.heap.size w w1 := (Below.refl _ _).grown hgrow (Nat.le_refl _) (by simp)
  clear hgrow
  go_wp2
  go_loopw [3, 4] (fun v i wr => ∃ k : Nat, k ≤ xs.length ∧ i = .int .i64 k ∧ v = .slice (some ⟨w.heap.size, 0, none⟩) k (xs.length + 1) ∧
      wr.ownsRow w.heap.size 64 1 (.slice (some ⟨w.heap.size, 0, none⟩) k (xs.length + 1)) k ((xs.take k).map (Value.int .i8)) ∧ Below w.heap.size w wr) (fun _ i _ => xs.length - (intOf i).toNat)
  case atStart => exact ⟨0, by omega, rfl, rfl, by simpa using hown, hB1⟩
  case round =>
    clear hown hB1
    obtain ⟨k, hk, rfl, rfl, hown, hB⟩ := hrel
    have hsz := hB.size
    by_cases hlt : k < xs.length
    · obtain ⟨b, off, v, rfl, hBb, hck, hv⟩ := (hx.below hB).at_ hlt
      have HS := Lib.hid (map_take (k := .i8) xs k v hlt hv.out)
      go_wp2_with (at_builtin; refine wpList_append_fits _ rfl (.tmp 15) (.tmp 20) 25 rfl w.heap.size 64 i0 1 Tryz.underlying25 hi hz1 w.heap.size k (xs.length + 1) _ rfl (hown.alloc _) ⟨wr.heap.size, 0, none⟩ 1 1 [.int .i8 v] rfl rfl (cell_one_new _ _ _) (by simp [Value.oneCell']) (by omega) ?_; intro w2 hown2 hg2)
      have hB2 : Below w.heap.size w w2 := (hB.alloc hsz _).grown hg2 (by simp; omega) (by simp)
      go_wp2
      go_roundw
      case rel => exact ⟨k + 1, by omega, by go_num, rfl, by rw [HS.out]; exact hown2, hB2⟩
      case measure => simp [intOf]; omega
    · obtain rfl : k = xs.length := by omega
      rw [List.take_length] at hown
      go_wp2_with (at_builtin; refine wpList_append_fits _ rfl (.tmp 22) (.tmp 23) 25 rfl w.heap.size 64 i0 1 Tryz.underlying25 hi hz1 w.heap.size xs.length (xs.length + 1) _ rfl (hown.alloc _) ⟨wr.heap.size, 0, none⟩ 1 1 [.int .i8 77] rfl rfl (cell_one_new _ _ _) (by simp [Value.oneCell']) (by omega) ?_; intro w2 hown2 hg2)
      have hB2 : Below w.heap.size w w2 := (hB.alloc hsz _).grown hg2 (by simp; omega) (by simp)
      go_wp2
      go_ret
      exact ⟨rfl, hB2, by simpa using hown2⟩
set_option maxHeartbeats 400000 in
theorem leftInt8s_any (T A : Option Addr) (tc c : Nat) (xs : List Int) (n : Nat) (hn : n = xs.length) (w : World) (B : Nat) (hx : Rd .i8 w B A xs) (ht : Rd .i8 w B T (xs ++ [77])) (hc : xs.length ≤ c) (htc : xs.length < tc) (hm : c ≤ 9223372036854775807 ∧ xs.length ≤ 140737488355328) (htm : tc ≤ 9223372036854775807) :
    Calls Tryz.prog 13 #[.slice T n tc, .slice A n c] w fun e w' => e = .returned (.bool true) ∧ ∃ nq, w' = w.drewN nq := by
  subst hn
  obtain ⟨tb, toff, v77, rfl, hBt, htk, htv⟩ := ht.at_ (i := xs.length) (by simp)
  have e77 : v77 = 77 := by rw [← htv.out]; simp
  subst e77
  clear htv
  go_enter Tryz.func13, Tryz.ntmps13
  go_wp2
  go_loopw [5] (fun i wr => ∃ k nq : Nat, k ≤ xs.length ∧ i = .int .i64 k ∧ wr = w.drewN nq) (fun i _ => xs.length - (intOf i).toNat)
  case atStart => exact ⟨0, 0, by omega, rfl, rfl⟩
  case round =>
    obtain ⟨k, nq, hk, rfl, rfl⟩ := hrel
    by_cases hlt : k < xs.length
    · obtain ⟨b, off, v, rfl, hBb, hck, hv⟩ := hx.at_ hlt
      obtain ⟨tb', toff', v', hT, _, htck, hv'⟩ := ht.at_ (i := k) (by simp; omega)
      simp only [Option.some.injEq, Addr.mk.injEq, and_true] at hT
      obtain ⟨rfl, rfl⟩ := hT
      have e : v' = v := by
        rw [← hv.out, ← hv'.out, List.getElem?_append_left hlt]
      subst e
      clear hv hv'
      have h1 : (0 : Int) ≤ (k : Int) := by omega
      have h2 : (k : Int) < (xs.length : Int) := by omega
      go_wp2
      go_quiet (fail)
      go_wp2
      go_roundw
      case rel => exact ⟨k + 1, _, by omega, by go_num, rfl⟩
      case measure => simp [intOf]; omega
    · obtain rfl : k = xs.length := by omega
      go_wp2
      go_ret
      exact ⟨rfl, _, rfl⟩
end Go.Proofs.YtkmngbkghgelfaaGreat
/- The walks of the statements' own helpers on lists of int: TwinInts, LeftInts. -/
namespace Go.Proofs.YtkmngbkghgelfaaGreat
open Go.RowKit
set_option linter.unusedVariables false
theorem Tryz.info3 : (Tryz.prog.info? 3).map (fun i => (i.zero, i.size, i.bytes)) = some (some (.int .i64 0), 1, 8) := by kernel_rfl
set_option maxHeartbeats 400000 in
theorem twinInts_any (A : Option Addr) (c : Nat) (xs : List Int) (n : Nat) (hn : n = xs.length) (w : World) (hx : Rd .i64 w w.heap.size A xs) (hl : xs.length ≤ 17592186044000) :
    Calls Tryz.prog 117 #[.slice A n c] w fun e w' => e = .returned (.slice (some ⟨w.heap.size, 0, none⟩) n (n + 1)) ∧ Below w.heap.size w w' ∧
      w'.ownsRow w.heap.size 3 1 (.slice (some ⟨w.heap.size, 0, none⟩) (n + 1) (n + 1)) (n + 1) ((xs ++ [77]).map (Value.int .i64)) := by
  subst hn
  obtain ⟨i0, hi, hz0, hz1, hz2⟩ := info_parts Tryz.info3
  go_enter Tryz.func117, Tryz.ntmps117
  go_wp2_with (at_make; refine wpList_make_own _ rfl _ _ 57 rfl w.heap.size 3 i0 (.int .i64 0) 1 Tryz.underlying57 hi hz0 hz1 _ _ _ (xs.length + 1) rfl rfl (by omega) ?b2 ?b3 (Nat.le_refl _) ?_)
  case b2 => rw [hz2]; omega
  case b3 => unfold maxLen; omega
  intro w1 hown hgrow
  have hB1 : Below w.heap.size w w1 := (Below.refl _ _).grown hgrow (Nat.le_refl _) (by simp)
  clear hgrow
  go_wp2
  go_loopw [3, 4] (fun v i wr => ∃ k : Nat, k ≤ xs.length ∧ i = .int .i64 k ∧ v = .slice (some ⟨w.heap.size, 0, none⟩) k (xs.length + 1) ∧
      wr.ownsRow w.heap.size 3 1 (.slice (some ⟨w.heap.size, 0, none⟩) k (xs.length + 1)) k ((xs.take k).map (Value.int .i64)) ∧ Below w.heap.size w wr) (fun _ i _ => xs.length - (intOf i).toNat)
  case atStart => exact ⟨0, by omega, rfl, rfl, by simpa using hown, hB1⟩
  case round =>
    clear hown hB1
    obtain ⟨k, hk, rfl, rfl, hown, hB⟩ := hrel
    have hsz := hB.size
    by_cases hlt : k < xs.length
    · obtain ⟨b, off, v, rfl, hBb, hck, hv⟩ := (hx.below hB).at_ hlt
      have HS := Lib.hid (map_take (k := .i64) xs k v hlt hv.out)
      go_wp2_with (at_builtin; refine wpList_append_fits _ rfl (.tmp 15) (.tmp 20) 57 rfl w.heap.size 3 i0 1 Tryz.underlying57 hi hz1 w.heap.size k (xs.length + 1) _ rfl (hown.alloc _) ⟨wr.heap.size, 0, none⟩ 1 1 [.int .i64 v] rfl rfl (cell_one_new _ _ _) (by simp [Value.oneCell']) (by omega) ?_; intro w2 hown2 hg2)
      have hB2 : Below w.heap.size w w2 := (hB.alloc hsz _).grown hg2 (by simp; omega) (by simp)
      go_wp2
      go_roundw
      case rel => exact ⟨k + 1, by omega, by go_num, rfl, by rw [HS.out]; exact hown2, hB2⟩
      case measure => simp [intOf]; omega
    · obtain rfl : k = xs.length := by omega
      rw [List.take_length] at hown
      go_wp2_with (at_builtin; refine wpList_append_fits _ rfl (.tmp 22) (.tmp 23) 57 rfl w.heap.size 3 i0 1 Tryz.underlying57 hi hz1 w.heap.size xs.length (xs.length + 1) _ rfl (hown.alloc _) ⟨wr.heap.size, 0, none⟩ 1 1 [.int .i64 77] rfl rfl (cell_one_new _ _ _) (by simp [Value.oneCell']) (by omega) ?_; intro w2 hown2 hg2)
      have hB2 : Below w.heap.size w w2 := (hB.alloc hsz _).grown hg2 (by simp; omega) (by simp)
      go_wp2
      go_ret
      exact ⟨rfl, hB2, by simpa using hown2⟩
set_option maxHeartbeats 400000 in
theorem leftInts_any (T A : Option Addr) (tc c : Nat) (xs : List Int) (n : Nat) (hn : n = xs.length) (w : World) (B : Nat) (hx : Rd .i64 w B A xs) (ht : Rd .i64 w B T (xs ++ [77])) (hc : xs.length ≤ c) (htc : xs.length < tc) (hm : c ≤ 9223372036854775807 ∧ xs.length ≤ 140737488355328) (htm : tc ≤ 9223372036854775807) :
    Calls Tryz.prog 132 #[.slice T n tc, .slice A n c] w fun e w' => e = .returned (.bool true) ∧ ∃ nq, w' = w.drewN nq := by
  subst hn
  obtain ⟨tb, toff, v77, rfl, hBt, htk, htv⟩ := ht.at_ (i := xs.length) (by simp)
  have e77 : v77 = 77 := by rw [← htv.out]; simp
  subst e77
  clear htv
  go_enter Tryz.func132, Tryz.ntmps132
  go_wp2
  go_loopw [5] (fun i wr => ∃ k nq : Nat, k ≤ xs.length ∧ i = .int .i64 k ∧ wr = w.drewN nq) (fun i _ => xs.length - (intOf i).toNat)
  case atStart => exact ⟨0, 0, by omega, rfl, rfl⟩
  case round =>
    obtain ⟨k, nq, hk, rfl, rfl⟩ := hrel
    by_cases hlt : k < xs.length
    · obtain ⟨b, off, v, rfl, hBb, hck, hv⟩ := hx.at_ hlt
      obtain ⟨tb', toff', v', hT, _, htck, hv'⟩ := ht.at_ (i := k) (by simp; omega)
      simp only [Option.some.injEq, Addr.mk.injEq, and_true] at hT
      obtain ⟨rfl, rfl⟩ := hT
      have e : v' = v := by
        rw [← hv.out, ← hv'.out, List.getElem?_append_left hlt]
      subst e
      clear hv hv'
      have h1 : (0 : Int) ≤ (k : Int) := by omega
      have h2 : (k : Int) < (xs.length : Int) := by omega
      go_wp2
      go_quiet (fail)
      go_wp2
      go_roundw
      case rel => exact ⟨k + 1, _, by omega, by go_num, rfl⟩
      case measure => simp [intOf]; omega
    · obtain rfl : k = xs.length := by omega
      go_wp2
      go_ret
      exact ⟨rfl, _, rfl⟩
end Go.Proofs.YtkmngbkghgelfaaGreat
/- The walks of SameInts and SameInt8s. -/
namespace Go.Proofs.YtkmngbkghgelfaaGreat
open Go.RowKit
set_option linter.unusedVariables false
def eqZ (xs ys : List Int) : Bool := decide (xs = ys)
theorem take_extZ {xs ys : List Int} (hl : ys.length = xs.length) (h : ∀ j, j < xs.length → xs[j]? = ys[j]?) : xs = ys := by
  apply List.ext_getElem?
  intro i
  by_cases hi : i < xs.length
  · exact h i hi
  · rw [List.getElem?_eq_none (by omega), List.getElem?_eq_none (by omega)]
theorem drewN_drewNZ (w : World) (a b : Nat) : (w.drewN a).drewN b = w.drewN (a + b) := World.drewN_drewN ..
set_option maxHeartbeats 400000 in
theorem sameZ_any (A B : Option Addr) (c d : Nat) (xs ys : List Int) (w : World) (D : Nat) (hx : Rd .i64 w D A xs) (hy : Rd .i64 w D B ys) (hxl : xs.length ≤ 140737488355328) (hyl : ys.length ≤ 140737488355328) :
    Calls Tryz.prog 20 #[.slice A xs.length c, .slice B ys.length d] w fun e w' => e = .returned (.bool (eqZ xs ys)) ∧ ∃ nq, w' = w.drewN nq := by
  by_cases hl : ys.length = xs.length
  · have HL := Lib.hid hl
    rw [hl]
    clear hl
    go_enter Tryz.func20, Tryz.ntmps20
    go_wp2
    go_loopw [5] (fun i wr => ∃ k nq : Nat, k ≤ xs.length ∧ i = .int .i64 k ∧ wr = w.drewN nq ∧ Hid (∀ j, j < k → xs[j]? = ys[j]?)) (fun i _ => xs.length - (intOf i).toNat)
    case atStart => exact ⟨0, 0, by omega, rfl, rfl, (fun j hj => absurd hj (Nat.not_lt_zero _) : ∀ j, j < 0 → xs[j]? = ys[j]?)⟩
    case round =>
      obtain ⟨k, nq, hk, rfl, rfl, HK⟩ := hrel
      by_cases hlt : k < xs.length
      · have hlt' : k < ys.length := by have := HL.out; omega
        obtain ⟨b, off, x, rfl, hbs, hcx, hvx⟩ := hx.at_ hlt
        obtain ⟨b', off', y, rfl, hbs', hcy, hvy⟩ := hy.at_ (i := k) hlt'
        have h1 : (0 : Int) ≤ (k : Int) := by omega
        have h2 : (k : Int) < (xs.length : Int) := by omega
        have ex : xs[k]? = some x := by rw [← hvx.out, List.getElem?_eq_getElem hlt]; rfl
        have ey : ys[k]? = some y := by rw [← hvy.out, List.getElem?_eq_getElem hlt']; rfl
        by_cases he : x = y
        · subst he
          have HN : Hid (∀ j, j < k + 1 → xs[j]? = ys[j]?) := fun j hj => by
            rcases Nat.lt_or_ge j k with h | h
            · exact HK.out j h
            · obtain rfl : j = k := by omega
              rw [ex, ey]
          clear ex ey hvx hvy
          have ne : (x != x) = false := by simp
          go_wp2
          go_quiet (fail)
          go_wp2
          go_roundw
          case rel => exact ⟨k + 1, _, by omega, by go_num, rfl, HN⟩
          case measure => simp [intOf]; omega
        · have E := Lib.hid (show eqZ xs ys = false from decide_eq_false (fun h => he (by rw [h, ey] at ex; simpa using ex.symm)))
          have ne : (x != y) = true := by simpa using he
          clear ex ey hvx hvy he
          go_wp2
          go_quiet (fail)
          go_wp2
          go_ret
          exact ⟨retb E.out.symm, _, drewN_drewNZ _ _ _⟩
      · have E := Lib.hid (show eqZ xs ys = true from decide_eq_true (take_extZ HL.out (fun j hj => HK.out j (by omega))))
        go_wp2
        go_ret
        exact ⟨retb E.out.symm, nq, rfl⟩
  · have ne : ((xs.length : Int) != (ys.length : Int)) = true := by simp; omega
    have E := Lib.hid (show eqZ xs ys = false from decide_eq_false (fun h => hl (by rw [h])))
    clear hl
    go_enter Tryz.func20, Tryz.ntmps20
    go_wp2
    go_ret
    exact ⟨retb E.out.symm, 0, rfl⟩
end Go.Proofs.YtkmngbkghgelfaaGreat
