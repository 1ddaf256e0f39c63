/- The walks of the statements' own helpers on lists of int8: Beyond, TwinInt8s, LeftInt8s. -/
import Derived.Test.YtfokejlancmahaaGreatProg
import Derived.Test.YtfokejlancmahaaGreatA
import Derived.WalkKit
import Derived.WalkSpells
import Derived.WalkLawsBesides
import Derived.Below
import Derived.Lib.Hide
import Derived.Deep.QuietTactic
import Derived.BigQuiet
import Derived.Maps.AppendAt
namespace Go.Proofs.YtfokejlancmahaaGreat
open Go.RowKit
set_option linter.unusedVariables false
/-- Beyond: are these sizes, taken together, more than 1048576? -/
def bey (xs : List Int) : Bool := decide (1048576 < xs.sum)
theorem sum_take (xs : List Int) (k : Nat) (v : Int) (hk : k < xs.length) (hv : xs[k]?.getD 0 = v) : (xs.take (k + 1)).sum = (xs.take k).sum + v := by
  rw [List.take_succ_eq_append_getElem hk, List.sum_append, ← hv, List.getElem?_eq_getElem hk]; simp
theorem sum_mono (xs : List Int) (h : ∀ x ∈ xs, 0 ≤ x) (k : Nat) : (xs.take k).sum ≤ xs.sum := by
  have e : xs.sum = (xs.take k).sum + (xs.drop k).sum := by rw [← List.sum_append, List.take_append_drop]
  have : ∀ l : List Int, (∀ x ∈ l, 0 ≤ x) → 0 ≤ l.sum := by
    intro l; induction l with
    | nil => simp
    | cons a l ih => intro hl; have := ih (fun x hx => hl x (by simp [hx])); have := hl a (by simp); simp; omega
  have := this (xs.drop k) (fun x hx => h x (List.mem_of_mem_drop hx))
  omega
theorem Tryz.info94 : (Tryz.prog.info? 94).map (fun i => (i.zero, i.size, i.bytes)) = some (some (.int .i8 0), 1, 1) := by kernel_rfl

theorem map_take {k : IntKind} (xs : List Int) (i : Nat) (v : Int) (hi : i < xs.length) (hv : xs[i]?.getD 0 = v) : (xs.take (i + 1)).map (Value.int k) = (xs.take i).map (Value.int k) ++ [.int k v] := by
  rw [List.take_succ_eq_append_getElem hi, ← hv, List.getElem?_eq_getElem hi, List.map_append]; rfl
set_option maxHeartbeats 400000 in
theorem twinInt8s_any (A : Option Addr) (c : Nat) (xs : List Int) (n : Nat) (hn : n = xs.length) (w : World) (hx : Rd .i8 w w.heap.size A xs) (hl : xs.length ≤ 140737488355000) :
    Calls Tryz.prog 19 #[.slice A n c] w fun e w' => e = .returned (.slice (some ⟨w.heap.size, 0, none⟩) n (n + 1)) ∧ Below w.heap.size w w' ∧
      w'.ownsRow w.heap.size 94 1 (.slice (some ⟨w.heap.size, 0, none⟩) (n + 1) (n + 1)) (n + 1) ((xs ++ [77]).map (Value.int .i8)) := by
  subst hn
  obtain ⟨i0, hi, hz0, hz1, hz2⟩ := info_parts Tryz.info94
  go_enter Tryz.func19, Tryz.ntmps19
  go_wp2_with (at_make; refine wpList_make_own _ rfl _ _ 56 rfl w.heap.size 94 i0 (.int .i8 0) 1 Tryz.underlying56 hi hz0 hz1 _ _ _ (xs.length + 1) rfl rfl (by omega) ?b2 ?b3 (Nat.le_refl _) ?_)
  case b2 => rw [hz2]; omega
  case b3 => unfold maxLen; omega
  intro w1 hown hgrow
  have hB1 : Below w.heap.size w w1 := (Below.refl _ _).grown hgrow (Nat.le_refl _) (by simp)
  clear hgrow
  go_wp2
  go_loopw [3, 4] (fun v i wr => ∃ k : Nat, k ≤ xs.length ∧ i = .int .i64 k ∧ v = .slice (some ⟨w.heap.size, 0, none⟩) k (xs.length + 1) ∧
      wr.ownsRow w.heap.size 94 1 (.slice (some ⟨w.heap.size, 0, none⟩) k (xs.length + 1)) k ((xs.take k).map (Value.int .i8)) ∧ Below w.heap.size w wr) (fun _ i _ => xs.length - (intOf i).toNat)
  case atStart => exact ⟨0, by omega, rfl, rfl, by simpa using hown, hB1⟩
  case round =>
    clear hown hB1
    obtain ⟨k, hk, rfl, rfl, hown, hB⟩ := hrel
    have hsz := hB.size
    by_cases hlt : k < xs.length
    · obtain ⟨b, off, v, rfl, hBb, hck, hv⟩ := (hx.below hB).at_ hlt
      have HS := Lib.hid (map_take (k := .i8) xs k v hlt hv.out)
      go_wp2_with (at_builtin; refine wpList_append_fits _ rfl (.tmp 15) (.tmp 20) 56 rfl w.heap.size 94 i0 1 Tryz.underlying56 hi hz1 w.heap.size k (xs.length + 1) _ rfl (hown.alloc _) ⟨wr.heap.size, 0, none⟩ 1 1 [.int .i8 v] rfl rfl (cell_one_new _ _ _) (by simp [Value.oneCell']) (by omega) ?_; intro w2 hown2 hg2)
      have hB2 : Below w.heap.size w w2 := (hB.alloc hsz _).grown hg2 (by simp; omega) (by simp)
      go_wp2
      go_roundw
      case rel => exact ⟨k + 1, by omega, by go_num, rfl, by rw [HS.out]; exact hown2, hB2⟩
      case measure => simp [intOf]; omega
    · obtain rfl : k = xs.length := by omega
      rw [List.take_length] at hown
      go_wp2_with (at_builtin; refine wpList_append_fits _ rfl (.tmp 22) (.tmp 23) 56 rfl w.heap.size 94 i0 1 Tryz.underlying56 hi hz1 w.heap.size xs.length (xs.length + 1) _ rfl (hown.alloc _) ⟨wr.heap.size, 0, none⟩ 1 1 [.int .i8 77] rfl rfl (cell_one_new _ _ _) (by simp [Value.oneCell']) (by omega) ?_; intro w2 hown2 hg2)
      have hB2 : Below w.heap.size w w2 := (hB.alloc hsz _).grown hg2 (by simp; omega) (by simp)
      go_wp2
      go_ret
      exact ⟨rfl, hB2, by simpa using hown2⟩
set_option maxHeartbeats 400000 in
theorem leftInt8s_any (T A : Option Addr) (tc c : Nat) (xs : List Int) (n : Nat) (hn : n = xs.length) (w : World) (B : Nat) (hx : Rd .i8 w B A xs) (ht : Rd .i8 w B T (xs ++ [77])) (hc : xs.length ≤ c) (htc : xs.length < tc) (hm : c ≤ 9223372036854775807 ∧ xs.length ≤ 140737488355328) (htm : tc ≤ 9223372036854775807) :
    Calls Tryz.prog 23 #[.slice T n tc, .slice A n c] w fun e w' => e = .returned (.bool true) ∧ ∃ nq, w' = w.drewN nq := by
  subst hn
  obtain ⟨tb, toff, v77, rfl, hBt, htk, htv⟩ := ht.at_ (i := xs.length) (by simp)
  have e77 : v77 = 77 := by rw [← htv.out]; simp
  subst e77
  clear htv
  go_enter Tryz.func23, Tryz.ntmps23
  go_wp2
  go_loopw [5] (fun i wr => ∃ k nq : Nat, k ≤ xs.length ∧ i = .int .i64 k ∧ wr = w.drewN nq) (fun i _ => xs.length - (intOf i).toNat)
  case atStart => exact ⟨0, 0, by omega, rfl, rfl⟩
  case round =>
    obtain ⟨k, nq, hk, rfl, rfl⟩ := hrel
    by_cases hlt : k < xs.length
    · obtain ⟨b, off, v, rfl, hBb, hck, hv⟩ := hx.at_ hlt
      obtain ⟨tb', toff', v', hT, _, htck, hv'⟩ := ht.at_ (i := k) (by simp; omega)
      simp only [Option.some.injEq, Addr.mk.injEq, and_true] at hT
      obtain ⟨rfl, rfl⟩ := hT
      have e : v' = v := by
        rw [← hv.out, ← hv'.out, List.getElem?_append_left hlt]
      subst e
      clear hv hv'
      have h1 : (0 : Int) ≤ (k : Int) := by omega
      have h2 : (k : Int) < (xs.length : Int) := by omega
      go_wp2
      go_quiet (fail)
      go_wp2
      go_roundw
      case rel => exact ⟨k + 1, _, by omega, by go_num, rfl⟩
      case measure => simp [intOf]; omega
    · obtain rfl : k = xs.length := by omega
      go_wp2
      go_ret
      exact ⟨rfl, _, rfl⟩
end Go.Proofs.YtfokejlancmahaaGreat
