/- Several texts in one. -/
import Derived.Test.YtkmngbkghgelfaaProg
import Derived.Test.YtkmngbkghgelfaaOw
import Derived.WalkKit
import Derived.WalkSpells
import Derived.WalkLawsBesides
import Derived.Below
import Derived.Lib.Hide
import Derived.Deep.QuietTactic
import Derived.BigQuiet
import Derived.Maps.AppendAt
/- The walks of the statements' own helpers on lists of int8: Beyond, TwinInt8s, LeftInt8s. -/
namespace Go.Proofs.Ytkmngbkghgelfaa
open Go.RowKit
set_option linter.unusedVariables false
/-- Beyond: are these sizes, taken together, more than 1048576? -/
def bey (xs : List Int) : Bool := decide (1048576 < xs.sum)
theorem sum_take (xs : List Int) (k : Nat) (v : Int) (hk : k < xs.length) (hv : xs[k]?.getD 0 = v) : (xs.take (k + 1)).sum = (xs.take k).sum + v := by
  rw [List.take_succ_eq_append_getElem hk, List.sum_append, ← hv, List.getElem?_eq_getElem hk]; simp
theorem sum_mono (xs : List Int) (h : ∀ x ∈ xs, 0 ≤ x) (k : Nat) : (xs.take k).sum ≤ xs.sum := by
  have e : xs.sum = (xs.take k).sum + (xs.drop k).sum := by rw [← List.sum_append, List.take_append_drop]
  have : ∀ l : List Int, (∀ x ∈ l, 0 ≤ x) → 0 ≤ l.sum := by
    intro l; induction l with
    | nil => simp
    | cons a l ih => intro hl; have := ih (fun x hx => hl x (by simp [hx])); have := hl a (by simp); simp; omega
  have := this (xs.drop k) (fun x hx => h x (List.mem_of_mem_drop hx))
  omega
theorem Try.info43 : (Try.prog.info? 43).map (fun i => (i.zero, i.size, i.bytes)) = some (some (.int .i8 0), 1, 1) := by kernel_rfl

theorem map_take {k : IntKind} (xs : List Int) (i : Nat) (v : Int) (hi : i < xs.length) (hv : xs[i]?.getD 0 = v) : (xs.take (i + 1)).map (Value.int k) = (xs.take i).map (Value.int k) ++ [.int k v] := by
  rw [List.take_succ_eq_append_getElem hi, ← hv, List.getElem?_eq_getElem hi, List.map_append]; rfl
end Go.Proofs.Ytkmngbkghgelfaa
/- The walks of the statements' own helpers on lists of int: TwinInts, LeftInts. -/
namespace Go.Proofs.Ytkmngbkghgelfaa
open Go.RowKit
set_option linter.unusedVariables false
theorem Try.info3 : (Try.prog.info? 3).map (fun i => (i.zero, i.size, i.bytes)) = some (some (.int .i64 0), 1, 8) := by kernel_rfl
end Go.Proofs.Ytkmngbkghgelfaa
/- The walks of SameInts and SameInt8s. -/
namespace Go.Proofs.Ytkmngbkghgelfaa
open Go.RowKit
set_option linter.unusedVariables false
def eqZ (xs ys : List Int) : Bool := decide (xs = ys)
theorem take_extZ {xs ys : List Int} (hl : ys.length = xs.length) (h : ∀ j, j < xs.length → xs[j]? = ys[j]?) : xs = ys := by
  apply List.ext_getElem?
  intro i
  by_cases hi : i < xs.length
  · exact h i hi
  · rw [List.getElem?_eq_none (by omega), List.getElem?_eq_none (by omega)]
theorem drewN_drewNZ (w : World) (a b : Nat) : (w.drewN a).drewN b = w.drewN (a + b) := World.drewN_drewN ..
set_option maxHeartbeats 400000 in
theorem sameZ_any (A B : Option Addr) (c d : Nat) (xs ys : List Int) (w : World) (D : Nat) (hx : Rd .i64 w D A xs) (hy : Rd .i64 w D B ys) (hxl : xs.length ≤ 140737488355328) (hyl : ys.length ≤ 140737488355328) :
    Calls Try.prog 13 #[.slice A xs.length c, .slice B ys.length d] w fun e w' => e = .returned (.bool (eqZ xs ys)) ∧ ∃ nq, w' = w.drewN nq := by
  by_cases hl : ys.length = xs.length
  · have HL := Lib.hid hl
    rw [hl]
    clear hl
    go_enter Try.func13, Try.ntmps13
    go_wp2
    go_loopw [5] (fun i wr => ∃ k nq : Nat, k ≤ xs.length ∧ i = .int .i64 k ∧ wr = w.drewN nq ∧ Hid (∀ j, j < k → xs[j]? = ys[j]?)) (fun i _ => xs.length - (intOf i).toNat)
    case atStart => exact ⟨0, 0, by omega, rfl, rfl, (fun j hj => absurd hj (Nat.not_lt_zero _) : ∀ j, j < 0 → xs[j]? = ys[j]?)⟩
    case round =>
      obtain ⟨k, nq, hk, rfl, rfl, HK⟩ := hrel
      by_cases hlt : k < xs.length
      · have hlt' : k < ys.length := by have := HL.out; omega
        obtain ⟨b, off, x, rfl, hbs, hcx, hvx⟩ := hx.at_ hlt
        obtain ⟨b', off', y, rfl, hbs', hcy, hvy⟩ := hy.at_ (i := k) hlt'
        have h1 : (0 : Int) ≤ (k : Int) := by omega
        have h2 : (k : Int) < (xs.length : Int) := by omega
        have ex : xs[k]? = some x := by rw [← hvx.out, List.getElem?_eq_getElem hlt]; rfl
        have ey : ys[k]? = some y := by rw [← hvy.out, List.getElem?_eq_getElem hlt']; rfl
        by_cases he : x = y
        · subst he
          have HN : Hid (∀ j, j < k + 1 → xs[j]? = ys[j]?) := fun j hj => by
            rcases Nat.lt_or_ge j k with h | h
            · exact HK.out j h
            · obtain rfl : j = k := by omega
              rw [ex, ey]
          clear ex ey hvx hvy
          have ne : (x != x) = false := by simp
          go_wp2
          go_quiet (fail)
          go_wp2
          go_roundw
          case rel => exact ⟨k + 1, _, by omega, by go_num, rfl, HN⟩
          case measure => simp [intOf]; omega
        · have E := Lib.hid (show eqZ xs ys = false from decide_eq_false (fun h => he (by rw [h, ey] at ex; simpa using ex.symm)))
          have ne : (x != y) = true := by simpa using he
          clear ex ey hvx hvy he
          go_wp2
          go_quiet (fail)
          go_wp2
          go_ret
          exact ⟨retb E.out.symm, _, drewN_drewNZ _ _ _⟩
      · have E := Lib.hid (show eqZ xs ys = true from decide_eq_true (take_extZ HL.out (fun j hj => HK.out j (by omega))))
        go_wp2
        go_ret
        exact ⟨retb E.out.symm, nq, rfl⟩
  · have ne : ((xs.length : Int) != (ys.length : Int)) = true := by simp; omega
    have E := Lib.hid (show eqZ xs ys = false from decide_eq_false (fun h => hl (by rw [h])))
    clear hl
    go_enter Try.func13, Try.ntmps13
    go_wp2
    go_ret
    exact ⟨retb E.out.symm, 0, rfl⟩
end Go.Proofs.Ytkmngbkghgelfaa
/- The walk of the statements' own helper Beyond. -/
namespace Go.Proofs.Ytkmngbkghgelfaa
open Go.RowKit
set_option linter.unusedVariables false
set_option maxHeartbeats 400000 in
theorem beyond_any (A : Option Addr) (c : Nat) (xs : List Int) (n : Nat) (hn : n = xs.length) (w : World) (B : Nat) (hx : Rd .i64 w B A xs) (hb : ∀ x ∈ xs, 0 ≤ x ∧ x ≤ 140737488355328) (hl : xs.length ≤ 1000) :
    Calls Try.prog 6 #[.slice A n c] w fun e w' => e = .returned (.bool (bey xs)) ∧ w = w' := by
  subst hn
  go_enter Try.func6, Try.ntmps6
  go_wp2
  go_loop [3, 4] (fun s i => ∃ k : Nat, k ≤ xs.length ∧ i = .int .i64 k ∧ s = .int .i64 (xs.take k).sum ∧ 0 ≤ (xs.take k).sum ∧ (xs.take k).sum ≤ 1048576) (fun _ i => xs.length - (intOf i).toNat)
  case atStart => exact ⟨0, by omega, rfl, rfl, by simp, by simp⟩
  case round =>
    obtain ⟨k, hk, rfl, rfl, hs0, hs⟩ := hrel
    by_cases hlt : k < xs.length
    · obtain ⟨b, off, v, rfl, hB, hck, hv⟩ := hx.at_ hlt
      have hvb : 0 ≤ v ∧ v ≤ 140737488355328 := by
        rw [← hv.out, List.getElem?_eq_getElem hlt]; exact hb _ (List.getElem_mem _)
      have HS := Lib.hid (sum_take xs k v hlt hv.out)
      obtain ⟨s, hs'⟩ : ∃ s, (xs.take k).sum = s := ⟨_, rfl⟩
      rw [hs'] at HS hs0 hs ⊢
      have hm := sum_mono xs (fun x hx => (hb x hx).1) (k + 1)
      clear hs'
      by_cases hg : 1048576 < s + v
      · have e : bey xs = true := by unfold bey; simp; have := HS.out; omega
        have E := Lib.hid e
        clear e hm
        go_wp2
        go_ret
        exact ⟨retb E.out.symm, rfl⟩
      · clear hm
        go_wp2
        go_round
        case rel => exact ⟨k + 1, by omega, by go_num, by rw [HS.out], by rw [HS.out]; omega, by rw [HS.out]; omega⟩
        case measure => simp [intOf]; omega
    · have e : bey xs = false := by unfold bey; rw [List.take_of_length_le (by omega)] at hs; simp; omega
      have E := Lib.hid e
      clear e
      go_wp2
      go_ret
      exact ⟨retb E.out.symm, rfl⟩
end Go.Proofs.Ytkmngbkghgelfaa
