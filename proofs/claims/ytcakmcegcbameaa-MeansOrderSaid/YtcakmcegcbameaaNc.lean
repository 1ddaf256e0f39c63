/- The walk of the document's Together (layer 3). -/
import Derived.Test.YtcakmcegcbameaaNd
import Derived.Deep.QuietTactic
import Derived.BigQuiet
namespace Go.Proofs.Ytcakmcegcbameaa
open Go.RowKit
set_option linter.unusedVariables false
set_option maxRecDepth 100000 in
set_option maxHeartbeats 1000000 in
theorem together_any (A : Option Addr) (c : Nat) (L : List Vc) (n : Nat) (hn : n = L.length) (w : World) (B : Nat) (hx : RdV w B A L) (hl : L.length ≤ 140737488355328) :
    Calls Try.prog 37 #[.slice A n c] w fun e w' => e = .returned (.bool (mayB (vecs L))) ∧ ∃ nq, w' = w.drewN nq := by
  subst hn
  by_cases h0 : L.length = 0
  · have E := Lib.hid (mayB_no (vs := vecs L) (fun h => by have := h.1; rw [vecs_len] at this; omega))
    rw [h0]
    go_enter Try.func37, Try.ntmps37
    go_wp2
    go_ret
    exact ⟨retb E.out.symm, 0, rfl⟩
  · have hz : decide ((L.length : Int) < 1) = false := decide_eq_false (by omega)
    by_cases h1 : 2048 < L.length
    · have E := Lib.hid (mayB_no (vs := vecs L) (fun h => by have := h.2.1; rw [vecs_len] at this; omega))
      have hz2 : decide ((2048 : Int) < (L.length : Int)) = true := decide_eq_true (by omega)
      go_enter Try.func37, Try.ntmps37
      go_wp2
      go_ret
      exact ⟨retb E.out.symm, 0, rfl⟩
    · have hz2 : decide ((2048 : Int) < (L.length : Int)) = false := decide_eq_false (by omega)
      obtain ⟨b, off, a0, c0, v0, rfl, hB, hck, hrd, hv0⟩ := hx.at_ (i := 0) (by omega)
      have D0 := Lib.hid (dim0 hv0.out)
      rw [Nat.add_zero] at hck
      have hpos : 0 < L.length := by omega
      have hle : L.length ≤ 2048 := by omega
      clear h0 h1 hrd
      go_enter Try.func37, Try.ntmps37
      go_wp2
      go_loopw [3] (fun i wr => ∃ k nq : Nat, k ≤ L.length ∧ i = .int .i64 k ∧ wr = w.drewN nq ∧ Hid (∀ j, j < k → ((vecs L)[j]?.getD []).length = v0.length ∧ 1 ≤ v0.length ∧ v0.length ≤ 64)) (fun i _ => L.length - (intOf i).toNat)
      case atStart => exact ⟨0, 0, by omega, rfl, rfl, (fun j hj => absurd hj (Nat.not_lt_zero _) : ∀ j, j < 0 → ((vecs L)[j]?.getD []).length = v0.length ∧ 1 ≤ v0.length ∧ v0.length ≤ 64)⟩
      case round =>
        obtain ⟨k, nq, hk, rfl, rfl, HK⟩ := hrel
        by_cases hlt : k < L.length
        · obtain ⟨b', off', a1, c1, v1, hA, _, hck1, _, hv1⟩ := hx.at_ hlt
          simp only [Option.some.injEq, Addr.mk.injEq, and_true] at hA
          obtain ⟨rfl, rfl⟩ := hA
          have E0 := Lib.hid (fun (h : ¬ (v1.length = v0.length ∧ 1 ≤ v1.length ∧ v1.length ≤ 64)) => mayB_no (vs := vecs L) (fun h' => h (by
            have q1 := h'.2.2.2.2 k (by rw [vecs_len]; exact hlt)
            have q2 := h'.2.2.1
            have q3 := h'.2.2.2.1
            rw [vecs_at hv1.out] at q1
            rw [D0.out] at q1 q2 q3
            have q4 : v1.length = v0.length := q1
            omega)))
          by_cases g1 : v1.length < 1
          · have e1 : decide ((v1.length : Int) < 1) = true := decide_eq_true (by omega)
            have E := Lib.hid (E0.out (by omega))
            clear E0
            go_wp2
            go_quiet (fail)
            go_wp2
            go_ret
            exact ⟨retb E.out.symm, _, World.drewN_drewN ..⟩
          · have e1 : decide ((v1.length : Int) < 1) = false := decide_eq_false (by omega)
            by_cases g2 : 64 < v1.length
            · have e2 : decide ((64 : Int) < (v1.length : Int)) = true := decide_eq_true (by omega)
              have E := Lib.hid (E0.out (by omega))
              clear E0
              go_wp2
              go_quiet (fail)
              go_wp2
              go_ret
              exact ⟨retb E.out.symm, _, World.drewN_drewN ..⟩
            · have e2 : decide ((64 : Int) < (v1.length : Int)) = false := decide_eq_false (by omega)
              by_cases he : v1.length = v0.length
              · have ne : ((v1.length : Int) != (v0.length : Int)) = false := by simp; omega
                have HN : Hid (∀ j, j < k + 1 → ((vecs L)[j]?.getD []).length = v0.length ∧ 1 ≤ v0.length ∧ v0.length ≤ 64) := fun j hj => by
                  rcases Nat.lt_or_ge j k with h | h
                  · exact HK.out j h
                  · obtain rfl : j = k := by omega
                    rw [vecs_at hv1.out]; exact ⟨he, by omega, by omega⟩
                have HE := Lib.hid he
                clear he E0 g1 g2
                go_wp2
                go_quiet (fail)
                go_wp2
                go_roundw
                case rel => exact ⟨k + 1, _, by omega, by go_num, rfl, HN⟩
                case measure => simp [intOf]; omega
              · have ne : ((v1.length : Int) != (v0.length : Int)) = true := by simp; omega
                have E := Lib.hid (E0.out (by omega))
                clear E0 he g1 g2
                go_wp2
                go_quiet (fail)
                go_wp2
                go_ret
                exact ⟨retb E.out.symm, _, World.drewN_drewN ..⟩
        · obtain rfl : k = L.length := by omega
          have E := Lib.hid (show mayB (vecs L) = true from decide_eq_true ⟨by rw [vecs_len]; omega, by rw [vecs_len]; omega, by rw [D0.out]; exact (HK.out 0 hpos).2.1, by rw [D0.out]; exact (HK.out 0 hpos).2.2, fun i hi => by rw [D0.out]; exact (HK.out i (by rw [vecs_len] at hi; exact hi)).1⟩)
          go_wp2
          go_ret
          exact ⟨retb E.out.symm, _, rfl⟩
end Go.Proofs.Ytcakmcegcbameaa
