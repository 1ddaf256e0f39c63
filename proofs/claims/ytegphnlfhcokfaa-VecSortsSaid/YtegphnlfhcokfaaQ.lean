/- The walks of SameHits and count. -/
import Derived.Test.YtegphnlfhcokfaaV
import Derived.Laws.StructEq
import Derived.Deep.QuietTactic
import Derived.BigQuiet
namespace Go.Proofs.Ytegphnlfhcokfaa
open Go.RowKit Go.Shelf
set_option linter.unusedVariables false
theorem eqH (a b c d : Int) (w : World) : Sem.run Try.prog (binOp .eql 35 (.agg #[.int .u64 a, .int .i64 b]) (.agg #[.int .u64 c, .int .i64 d])) w = .ok (.bool (a == c && b == d)) w := by
  have u33 := Try.underlying33
  have u2 := Try.underlying2
  have a33 := Try.isAgg33
  have z33 := Try.sizeOf33
  have a2 := Try.isAgg2
  have z2 := Try.sizeOf2
  have hS : Try.prog.underlying 35 = some (.struct (Try.prog.fieldsOf 35)) := by kernel_rfl
  have hp : Try.prog.stoodInHeld 35 = false := by kernel_rfl
  rw [run_eql_struct, show (10000 : Nat) = 9999 + 1 from rfl, run_equalIn_agg w 9999 35 _ _ hS hp]
  simp only [Program.fieldsOf, Try.underlying35]
  go_simp
  by_cases h1 : a = c <;> by_cases h2 : b = d <;> simp [h1, h2]
theorem neqH (a b c d : Int) (w : World) : Sem.run Try.prog (binOp .neq 35 (.agg #[.int .u64 a, .int .i64 b]) (.agg #[.int .u64 c, .int .i64 d])) w = .ok (.bool (!(a == c && b == d))) w := by
  have u33 := Try.underlying33
  have u2 := Try.underlying2
  have a33 := Try.isAgg33
  have z33 := Try.sizeOf33
  have a2 := Try.isAgg2
  have z2 := Try.sizeOf2
  have hS : Try.prog.underlying 35 = some (.struct (Try.prog.fieldsOf 35)) := by kernel_rfl
  have hp : Try.prog.stoodInHeld 35 = false := by kernel_rfl
  rw [run_neq_struct, show (10000 : Nat) = 9999 + 1 from rfl, run_equalIn_agg w 9999 35 _ _ hS hp]
  simp only [Program.fieldsOf, Try.underlying35]
  go_simp
  by_cases h1 : a = c <;> by_cases h2 : b = d <;> simp [h1, h2]
def eqHB (xs ys : List (Int × Int)) : Bool := decide (xs = ys)
theorem take_extH {xs ys : List (Int × Int)} (hl : ys.length = xs.length) (h : ∀ j, j < xs.length → xs[j]? = ys[j]?) : xs = ys := by
  apply List.ext_getElem?
  intro i
  rcases Nat.lt_or_ge i xs.length with h1 | h1
  · exact h i h1
  · rw [List.getElem?_eq_none h1, List.getElem?_eq_none (by omega)]
theorem retb' {a b : Bool} (h : a = b) : Ending.returned (.bool a) = .returned (.bool b) := by rw [h]
theorem drewN_drewNH (w : World) (a b : Nat) : (w.drewN a).drewN b = w.drewN (a + b) := by simp [go_sem]
set_option maxHeartbeats 1000000 in
theorem sameHits_any (A B : Option Addr) (c d : Nat) (xs ys : List (Int × Int)) (w : World) (D : Nat) (hx : RdH w D A xs) (hy : RdH w D B ys) (hxl : xs.length ≤ 140737488355328) (hyl : ys.length ≤ 140737488355328) :
    Calls Try.prog 18 #[.slice A xs.length c, .slice B ys.length d] w fun e w' => e = .returned (.bool (eqHB xs ys)) ∧ ∃ nq, w' = w.drewN nq := by
  by_cases hl : ys.length = xs.length
  · have HL := Lib.hid hl
    rw [hl]
    clear hl
    go_enter Try.func18, Try.ntmps18
    go_wp2
    go_loopw [5] (fun i wr => ∃ k nq : Nat, k ≤ xs.length ∧ i = .int .i64 k ∧ wr = w.drewN nq ∧ Hid (∀ j, j < k → xs[j]? = ys[j]?)) (fun i _ => xs.length - (intOf i).toNat)
    case atStart => exact ⟨0, 0, by omega, rfl, rfl, (fun j hj => absurd hj (Nat.not_lt_zero _) : ∀ j, j < 0 → xs[j]? = ys[j]?)⟩
    case round =>
      obtain ⟨k, nq, hk, rfl, rfl, HK⟩ := hrel
      by_cases hlt : k < xs.length
      · have hlt' : k < ys.length := by have := HL.out; omega
        obtain ⟨b, off, x1, x2, rfl, hbs, hcx, hcx', hvx⟩ := hx.at_ hlt
        obtain ⟨b', off', y1, y2, rfl, hbs', hcy, hcy', hvy⟩ := hy.at_ (i := k) hlt'
        have h1 : (0 : Int) ≤ (k : Int) := by omega
        have h2 : (k : Int) < (xs.length : Int) := by omega
        by_cases he : x1 = y1 ∧ x2 = y2
        · have HN : Hid (∀ j, j < k + 1 → xs[j]? = ys[j]?) := fun j hj => by
            rcases Nat.lt_or_ge j k with h | h
            · exact HK.out j h
            · obtain rfl : j = k := by omega
              rw [hvx.out, hvy.out, he.1, he.2]
          obtain ⟨rfl, rfl⟩ := he
          have e1 : (x1 == x1) = true := by simp
          have e2 : (x2 == x2) = true := by simp
          clear hvx hvy
          go_wp2
          go_quiet (fail)
          go_wp2
          go_roundw
          case rel => exact ⟨k + 1, _, by omega, by go_num, rfl, HN⟩
          case measure => simp [intOf]; omega
        · have E := Lib.hid (show eqHB xs ys = false from decide_eq_false (fun h => he (by have e := hvx.out; rw [h, hvy.out] at e; simpa using e.symm |> fun t => by simpa [eq_comm] using t)))
          have ne : (x1 == y1 && x2 == y2) = false := by
            cases h1 : (x1 == y1) <;> cases h2 : (x2 == y2) <;> simp_all
          have NE := neqH x1 x2 y1 y2
          rw [ne] at NE
          clear hvx hvy he ne
          go_wp2
          go_quiet (fail)
          go_wp2
          go_ret
          exact ⟨retb' E.out.symm, _, drewN_drewNH _ _ _⟩
      · have E := Lib.hid (show eqHB xs ys = true from decide_eq_true (take_extH HL.out (fun j hj => HK.out j (by omega))))
        go_wp2
        go_ret
        exact ⟨retb' E.out.symm, nq, rfl⟩
  · have ne : ((xs.length : Int) != (ys.length : Int)) = true := by simp; omega
    have E := Lib.hid (show eqHB xs ys = false from decide_eq_false (fun h => hl (by rw [h])))
    clear hl
    go_enter Try.func18, Try.ntmps18
    go_wp2
    go_ret
    exact ⟨retb' E.out.symm, 0, rfl⟩
theorem count_take (xs : List (Int × Int)) (x y : Int × Int) (k : Nat) (h : xs[k]? = some y) : (xs.take (k + 1)).count x = (xs.take k).count x + if y = x then 1 else 0 := by
  have hk := (List.getElem?_eq_some_iff.1 h).1
  rw [List.take_succ_eq_append_getElem hk, List.count_append]
  rw [List.getElem?_eq_getElem hk] at h
  simp only [Option.some.injEq] at h
  rw [h, List.count_singleton]
  by_cases e : y = x <;> simp [e]
set_option maxHeartbeats 1000000 in
theorem count_any (A : Option Addr) (c : Nat) (xs : List (Int × Int)) (x1 x2 : Int) (w : World) (hx : RdH w w.heap.size A xs) (hl : xs.length ≤ 140737488355328) :
    Calls Try.prog 27 #[.slice A xs.length c, .agg #[.int .u64 x1, .int .i64 x2]] w fun e w' => e = .returned (.int .i64 ((xs.count (x1, x2) : Nat) : Int)) ∧ ∃ q os', w' = Sort.grow (w.drewN q) os' := by
  have hB0 : Below w.heap.size w (w.alloc (.cells #[.int .u64 x1, .int .i64 x2] 35)) := (Below.refl _ _).alloc (Nat.le_refl _) _
  have hW0 := Whole.new w 35 #[.int .u64 x1, .int .i64 x2]
  have hx0 := hx.below hB0
  have c1 : (w.alloc (.cells #[.int .u64 x1, .int .i64 x2] 35)).cell? ⟨w.heap.size, 0, none⟩ = some (.int .u64 x1) := by rw [hW0.cell 0]; rfl
  have c2 : (w.alloc (.cells #[.int .u64 x1, .int .i64 x2] 35)).cell? ⟨w.heap.size, 1, none⟩ = some (.int .i64 x2) := by rw [hW0.cell 1]; rfl
  have HCL := Lib.hid (fun k => List.count_le_length (a := (x1, x2)) (l := xs.take k))
  clear hx hW0
  go_enter Try.func27, Try.ntmps27
  go_wp2
  have HG0 : w.alloc (.cells #[.int .u64 x1, .int .i64 x2] 35) = Sort.grow w #[.cells #[.int .u64 x1, .int .i64 x2] 35] := Sort.alloc_eq_grow _ _
  have HG : Hid (∀ nq, (w.alloc (.cells #[.int .u64 x1, .int .i64 x2] 35)).drewN nq = Sort.grow (w.drewN nq) #[.cells #[.int .u64 x1, .int .i64 x2] 35]) := fun nq => by rw [HG0]; rfl
  generalize w.alloc (.cells #[.int .u64 x1, .int .i64 x2] 35) = w1 at hB0 hx0 c1 c2 HG HG0 ⊢
  clear HG0
  generalize w.heap.size = g at hx0 c1 c2 hB0 ⊢
  go_loopw [5, 6] (fun s i wr => ∃ k nq : Nat, k ≤ xs.length ∧ i = .int .i64 k ∧ s = .int .i64 (((xs.take k).count (x1, x2) : Nat) : Int) ∧ wr = w1.drewN nq) (fun _ i _ => xs.length - (intOf i).toNat)
  case atStart => exact ⟨0, 0, by omega, rfl, by simp, rfl⟩
  case round =>
    obtain ⟨k, nq, hk, rfl, rfl, rfl⟩ := hrel
    by_cases hlt : k < xs.length
    · obtain ⟨b, off, y1, y2, rfl, hbs, hcx, hcx', hvx⟩ := hx0.at_ hlt
      have h1 : (0 : Int) ≤ (k : Int) := by omega
      have h2 : (k : Int) < (xs.length : Int) := by omega
      have HS := Lib.hid (count_take xs (x1, x2) (y1, y2) k hvx.out)
      have hcl := HCL.out k
      rw [List.length_take] at hcl
      clear hvx
      generalize (xs.take k).count (x1, x2) = C at hcl HS ⊢
      by_cases he : (y1, y2) = (x1, x2)
      · have EQ := eqH y1 y2 x1 x2
        rw [show (y1 == x1 && y2 == x2) = true by simp only [Prod.mk.injEq] at he; simp [he.1, he.2]] at EQ
        rw [if_pos he] at HS
        clear he
        go_wp2
        go_quiet (fail)
        go_wp2
        go_roundw
        case rel => exact ⟨k + 1, _, by omega, by go_num, by rw [HS.out]; go_num, rfl⟩
        case measure => simp [intOf]; omega
      · have EQ := eqH y1 y2 x1 x2
        rw [show (y1 == x1 && y2 == x2) = false by simp only [Prod.mk.injEq] at he; cases h1 : (y1 == x1) <;> cases h2 : (y2 == x2) <;> simp_all] at EQ
        rw [if_neg he] at HS
        clear he
        go_wp2
        go_quiet (fail)
        go_wp2
        go_roundw
        case rel => exact ⟨k + 1, _, by omega, by go_num, by rw [HS.out]; rfl, rfl⟩
        case measure => simp [intOf]; omega
    · have e : xs.take k = xs := List.take_of_length_le (by omega)
      rw [e]
      clear e
      go_wp2
      go_ret
      exact ⟨rfl, nq, _, HG.out nq⟩
end Go.Proofs.Ytegphnlfhcokfaa
