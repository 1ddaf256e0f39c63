/- The walks of SameHits and count. -/
import Derived.Test.YtkmngbkghgelfaaVh
import Derived.Laws.StructEq
import Derived.Deep.QuietTactic
import Derived.BigQuiet
namespace Go.Proofs.Ytkmngbkghgelfaa
open Go.RowKit Go.Shelf
set_option linter.unusedVariables false
theorem eqH (a b c d : Int) (w : World) : Sem.run Try.prog (binOp .eql 46 (.agg #[.int .u64 a, .int .i64 b]) (.agg #[.int .u64 c, .int .i64 d])) w = .ok (.bool (a == c && b == d)) w := by
  have u33 := Try.underlying44
  have u2 := Try.underlying2
  have a33 := Try.isAgg44
  have z33 := Try.sizeOf44
  have a2 := Try.isAgg2
  have z2 := Try.sizeOf2
  have hS : Try.prog.underlying 46 = some (.struct (Try.prog.fieldsOf 46)) := by kernel_rfl
  have hp : Try.prog.stoodInHeld 46 = false := by kernel_rfl
  rw [run_eql_struct, show (10000 : Nat) = 9999 + 1 from rfl, run_equalIn_agg w 9999 46 _ _ hS hp]
  simp only [Program.fieldsOf, Try.underlying46]
  go_simp
  by_cases h1 : a = c <;> by_cases h2 : b = d <;> simp [h1, h2]
theorem neqH (a b c d : Int) (w : World) : Sem.run Try.prog (binOp .neq 46 (.agg #[.int .u64 a, .int .i64 b]) (.agg #[.int .u64 c, .int .i64 d])) w = .ok (.bool (!(a == c && b == d))) w := by
  have u33 := Try.underlying44
  have u2 := Try.underlying2
  have a33 := Try.isAgg44
  have z33 := Try.sizeOf44
  have a2 := Try.isAgg2
  have z2 := Try.sizeOf2
  have hS : Try.prog.underlying 46 = some (.struct (Try.prog.fieldsOf 46)) := by kernel_rfl
  have hp : Try.prog.stoodInHeld 46 = false := by kernel_rfl
  rw [run_neq_struct, show (10000 : Nat) = 9999 + 1 from rfl, run_equalIn_agg w 9999 46 _ _ hS hp]
  simp only [Program.fieldsOf, Try.underlying46]
  go_simp
  by_cases h1 : a = c <;> by_cases h2 : b = d <;> simp [h1, h2]
def eqHB (xs ys : List (Int × Int)) : Bool := decide (xs = ys)
theorem take_extH {xs ys : List (Int × Int)} (hl : ys.length = xs.length) (h : ∀ j, j < xs.length → xs[j]? = ys[j]?) : xs = ys := by
  apply List.ext_getElem?
  intro i
  rcases Nat.lt_or_ge i xs.length with h1 | h1
  · exact h i h1
  · rw [List.getElem?_eq_none h1, List.getElem?_eq_none (by omega)]
theorem retb' {a b : Bool} (h : a = b) : Ending.returned (.bool a) = .returned (.bool b) := by rw [h]
theorem drewN_drewNH (w : World) (a b : Nat) : (w.drewN a).drewN b = w.drewN (a + b) := by simp [go_sem]
set_option maxHeartbeats 1000000 in
theorem sameHits_any (A B : Option Addr) (c d : Nat) (xs ys : List (Int × Int)) (w : World) (D : Nat) (hx : RdH w D A xs) (hy : RdH w D B ys) (hxl : xs.length ≤ 140737488355328) (hyl : ys.length ≤ 140737488355328) :
    Calls Try.prog 11 #[.slice A xs.length c, .slice B ys.length d] w fun e w' => e = .returned (.bool (eqHB xs ys)) ∧ ∃ nq, w' = w.drewN nq := by
  by_cases hl : ys.length = xs.length
  · have HL := Lib.hid hl
    rw [hl]
    clear hl
    go_enter Try.func11, Try.ntmps11
    go_wp2
    go_loopw [5] (fun i wr => ∃ k nq : Nat, k ≤ xs.length ∧ i = .int .i64 k ∧ wr = w.drewN nq ∧ Hid (∀ j, j < k → xs[j]? = ys[j]?)) (fun i _ => xs.length - (intOf i).toNat)
    case atStart => exact ⟨0, 0, by omega, rfl, rfl, (fun j hj => absurd hj (Nat.not_lt_zero _) : ∀ j, j < 0 → xs[j]? = ys[j]?)⟩
    case round =>
      obtain ⟨k, nq, hk, rfl, rfl, HK⟩ := hrel
      by_cases hlt : k < xs.length
      · have hlt' : k < ys.length := by have := HL.out; omega
        obtain ⟨b, off, x1, x2, rfl, hbs, hcx, hcx', hvx⟩ := hx.at_ hlt
        obtain ⟨b', off', y1, y2, rfl, hbs', hcy, hcy', hvy⟩ := hy.at_ (i := k) hlt'
        have h1 : (0 : Int) ≤ (k : Int) := by omega
        have h2 : (k : Int) < (xs.length : Int) := by omega
        by_cases he : x1 = y1 ∧ x2 = y2
        · have HN : Hid (∀ j, j < k + 1 → xs[j]? = ys[j]?) := fun j hj => by
            rcases Nat.lt_or_ge j k with h | h
            · exact HK.out j h
            · obtain rfl : j = k := by omega
              rw [hvx.out, hvy.out, he.1, he.2]
          obtain ⟨rfl, rfl⟩ := he
          have e1 : (x1 == x1) = true := by simp
          have e2 : (x2 == x2) = true := by simp
          clear hvx hvy
          go_wp2
          go_quiet (fail)
          go_wp2
          go_roundw
          case rel => exact ⟨k + 1, _, by omega, by go_num, rfl, HN⟩
          case measure => simp [intOf]; omega
        · have E := Lib.hid (show eqHB xs ys = false from decide_eq_false (fun h => he (by have e := hvx.out; rw [h, hvy.out] at e; simpa using e.symm |> fun t => by simpa [eq_comm] using t)))
          have ne : (x1 == y1 && x2 == y2) = false := by
            cases h1 : (x1 == y1) <;> cases h2 : (x2 == y2) <;> simp_all
          have NE := neqH x1 x2 y1 y2
          rw [ne] at NE
          clear hvx hvy he ne
          go_wp2
          go_quiet (fail)
          go_wp2
          go_ret
          exact ⟨retb' E.out.symm, _, drewN_drewNH _ _ _⟩
      · have E := Lib.hid (show eqHB xs ys = true from decide_eq_true (take_extH HL.out (fun j hj => HK.out j (by omega))))
        go_wp2
        go_ret
        exact ⟨retb' E.out.symm, nq, rfl⟩
  · have ne : ((xs.length : Int) != (ys.length : Int)) = true := by simp; omega
    have E := Lib.hid (show eqHB xs ys = false from decide_eq_false (fun h => hl (by rw [h])))
    clear hl
    go_enter Try.func11, Try.ntmps11
    go_wp2
    go_ret
    exact ⟨retb' E.out.symm, 0, rfl⟩
end Go.Proofs.Ytkmngbkghgelfaa
