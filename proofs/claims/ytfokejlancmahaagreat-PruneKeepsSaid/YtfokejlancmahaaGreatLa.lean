/- The walks of the program's isPlace, within, Setup, Find (layer 9), and of slices.Index and slices.Contains. -/
import Derived.Test.YtfokejlancmahaaGreatKg
namespace Go.Proofs.YtfokejlancmahaaGreat
open Go.RowKit
set_option linter.unusedVariables false
set_option maxRecDepth 100000 in
theorem isPlace_any (p n : Int) (w : World) :
    Calls Tryz.prog 159 #[.int .i64 p, .int .i64 n] w fun e w' => e = .returned (.bool (decide (0 ≤ p ∧ p < n))) ∧ w' = w := by
  go_enter Tryz.func159, Tryz.ntmps159
  go_wp2
  all_goals
    go_ret
    refine ⟨retb ?_, rfl⟩
    first
      | (rw [decide_eq_decide]; omega)
      | (simp; omega)
set_option maxRecDepth 100000 in
theorem within_any (p n : Int) (w : World) :
    Calls Tryz.prog 158 #[.int .i64 p, .int .i64 n] w fun e w' => e = .returned (.bool (decide (1 ≤ p ∧ p ≤ n))) ∧ w' = w := by
  go_enter Tryz.func158, Tryz.ntmps158
  go_wp2
  all_goals
    go_ret
    refine ⟨retb ?_, rfl⟩
    first
      | (rw [decide_eq_decide]; omega)
      | (simp; omega)
set_option maxRecDepth 100000 in
set_option maxHeartbeats 4000000 in
theorem setup_any (d g b n m : Int) (w : World) :
    Calls Tryz.prog 138 #[.agg #[.int .i64 d, .int .i64 g, .int .i64 b, .int .i64 n, .int .i64 m]] w fun e w' => e = .returned (.bool (setupB d g b n m)) ∧ Below w.heap.size w w' := by
  have W0 := Whole.new w 26 #[.int .i64 d, .int .i64 g, .int .i64 b, .int .i64 n, .int .i64 m]
  have HB := Lib.hid (below_one (Below.refl w.heap.size w) (.cells #[.int .i64 d, .int .i64 g, .int .i64 b, .int .i64 n, .int .i64 m] 26))
  have p0 := W0.cell 0
  have p1 := W0.cell 1
  have p2 := W0.cell 2
  have p3 := W0.cell 3
  have p4 := W0.cell 4
  clear W0
  go_enter Tryz.func138, Tryz.ntmps138
  go_wp2_with (go_at_call 158; refine (within_any _ _ _).mono ?_; rintro e w1 ⟨rfl, rfl⟩)
  all_goals
    go_ret
    refine ⟨retb ?_, HB.out⟩
    unfold setupB
    first
      | (symm; exact decide_eq_false (by omega))
      | (rw [Bool.eq_iff_iff]; simp only [decide_eq_true_eq]; omega)
set_option maxRecDepth 100000 in
set_option maxHeartbeats 4000000 in
/-- slices.Index at int: 0 or more just where the number stands in the list. -/
theorem index_any (A : Option Addr) (c : Nat) (xs : List Int) (n : Nat) (hn : n = xs.length) (a : Int) (w : World) (D : Nat) (hx : Rd .i64 w D A xs) (hl : xs.length ≤ 1000000) :
    Calls Tryz.prog 176 #[.slice A n c, .int .i64 a] w fun e w' => (∃ r : Int, e = .returned (.int .i64 r) ∧ decide (0 ≤ r) = decide (a ∈ xs)) ∧ ∃ nq, w' = w.drewN nq := by
  subst hn
  go_enter Tryz.func176, Tryz.ntmps176
  go_wp2
  go_loopw [5, 8] (fun _ i wr => ∃ k nq : Nat, k ≤ xs.length ∧ i = .int .i64 k ∧ wr = w.drewN nq ∧ Hid (∀ (m : Nat) (t : Int), m < k → xs[m]? = some t → t ≠ a)) (fun _ i _ => xs.length - (intOf i).toNat)
  case atStart => exact ⟨0, 0, by omega, rfl, rfl, Lib.hid (fun m t hm => absurd hm (Nat.not_lt_zero _))⟩
  case round =>
    obtain ⟨k, nq, hk, rfl, rfl, HK⟩ := hrel
    by_cases hlt : k < xs.length
    · have e1 : decide ((k : Int) < (xs.length : Int)) = true := decide_eq_true (by omega)
      obtain ⟨b, off, t, rfl, hBb, hc, hv⟩ := hx.at_ hlt
      have ht : xs[k]? = some t := by rw [← hv.out, List.getElem?_eq_getElem hlt]; rfl
      have HT := Lib.hid ht
      have x1 : (0 : Int) ≤ (k : Int) := by omega
      have x2 : (k : Int) < (xs.length : Int) := by omega
      clear hv ht
      by_cases he : a = t
      · subst he
        have e2 : (a == a) = true := by simp
        go_wp2
        go_ret
        refine ⟨⟨k, rfl, ?_⟩, _, rfl⟩
        rw [decide_eq_true (by omega : (0 : Int) ≤ (k : Int)), decide_eq_true (List.mem_of_getElem? HT.out)]
      · have e2 : (a == t) = false := by simpa using he
        have HN : Hid (∀ (m : Nat) (u : Int), m < k + 1 → xs[m]? = some u → u ≠ a) := fun m u hm hu => by
          rcases Nat.lt_or_ge m k with h | h
          · exact HK.out m u h hu
          · obtain rfl : m = k := by omega
            rw [HT.out] at hu
            injection hu with hu
            subst hu
            exact fun q => he q.symm
        go_wp2
        go_roundw
        case rel => exact ⟨k + 1, _, by omega, by go_num, rfl, HN⟩
        case measure => simp [intOf]; omega
    · obtain rfl : k = xs.length := by omega
      have e1 : decide ((xs.length : Int) < (xs.length : Int)) = false := decide_eq_false (by omega)
      go_wp2
      go_ret
      refine ⟨⟨-1, rfl, ?_⟩, _, rfl⟩
      rw [decide_eq_false (by omega : ¬ (0 : Int) ≤ -1)]
      symm
      refine decide_eq_false (fun hm => ?_)
      obtain ⟨m, hm2, rfl⟩ := List.getElem_of_mem hm
      exact HK.out m _ hm2 (List.getElem?_eq_getElem hm2) rfl
set_option maxRecDepth 100000 in
theorem contains_any (A : Option Addr) (c : Nat) (xs : List Int) (n : Nat) (hn : n = xs.length) (a : Int) (w : World) (D : Nat) (hx : Rd .i64 w D A xs) (hl : xs.length ≤ 1000000) :
    Calls Tryz.prog 160 #[.slice A n c, .int .i64 a] w fun e w' => e = .returned (.bool (decide (a ∈ xs))) ∧ ∃ nq, w' = w.drewN nq := by
  have H := Lib.hid (index_any A c xs n hn a w D hx hl)
  clear hn
  go_enter Tryz.func160, Tryz.ntmps160
  go_wp2_with (go_at_call 176; refine H.out.mono ?_; rintro e w1 ⟨⟨r, rfl, hr⟩, nq, rfl⟩; have HR := Lib.hid hr; clear hr)
  all_goals
    go_ret
    refine ⟨retb ?_, _, rfl⟩
    have := HR.out
    first
      | exact this
      | (rw [← this]; simp; omega)
end Go.Proofs.YtfokejlancmahaaGreat
