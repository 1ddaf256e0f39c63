/- The walk of Len. -/
import Derived.Test.YtgcclijdkcomiaaDoorSc
namespace Go.Proofs.YtgcclijdkcomiaaDoor
open Go.RowKit
set_option linter.unusedVariables false
theorem Rd.drewN {k : IntKind} {w : World} {B : Nat} {A : Option Addr} {xs : List Int} (h : Rd k w B A xs) (n : Nat) : Rd k (w.drewN n) B A xs := h.below (below_drewN (Below.refl _ _) n)
theorem onesLen_snoc (ws : List Nat) (k : Nat) (hk : k < ws.length) : (onesFrom 0 (ws.take (k + 1))).length = (onesFrom 0 (ws.take k)).length + (bitsOf (ws[k]?.getD 0)).length := by
  rw [List.take_succ_eq_append_getElem hk, onesFrom_append, List.length_append, List.getElem?_eq_getElem hk]
  simp [onesFrom]
theorem onesLen_le (ws : List Nat) : ∀ i, (onesFrom i ws).length ≤ 64 * ws.length := by
  induction ws with
  | nil => intro i; simp [onesFrom]
  | cons x r ih =>
    intro i
    have := ih (i + 1)
    have h2 : (bitsOf x).length ≤ 64 := by unfold bitsOf; exact Nat.le_trans (List.length_filter_le _ _) (by simp)
    rw [onesFrom, List.length_append, List.length_map, List.length_cons]
    omega
set_option maxRecDepth 100000 in
set_option maxHeartbeats 1000000 in
theorem len_none (w : World) : Calls Tryd.prog 21 #[.pointer none] w fun e w' => e = .returned (.int .i64 0) ∧ ∃ k, w' = w.drewN k := by
  have H := Lib.hid (wordsFrom_none 0 w)
  go_enter Tryd.func21, Tryd.ntmps21
  go_wp2_with fail
  refine H.out.mono ?_
  rintro e w1 ⟨rfl, k, rfl⟩
  go_wp2
  go_loop [3, 9, 5] (fun c i _ => c = .int .i64 0 ∧ i = .int .i64 0) (fun _ _ _ => 0)
  case atStart => exact ⟨rfl, rfl⟩
  case round =>
    obtain ⟨rfl, rfl⟩ := hrel
    go_wp2
    go_ret
    exact ⟨rfl, _, rfl⟩
set_option maxRecDepth 100000 in
set_option maxHeartbeats 1000000 in
theorem len_any (b : Nat) (A : Option Addr) (bound : Nat) (ws : List Nat) (w : World) (h : SetR w b A bound ws) :
    Calls Tryd.prog 21 #[.pointer (some ⟨b, 0, none⟩)] w fun e w' => e = .returned (.int .i64 ((numbers ws).length : Nat)) ∧ ∃ k, w' = w.drewN k := by
  have H := wordsFrom_any b A bound ws 0 w h (by omega)
  unfold WFrom at H
  rw [show 0 / 64 = 0 by rfl, show min 0 ws.length = 0 by simp, List.drop_zero] at H
  have H := Lib.hid H
  have hL : ws.length ≤ 32 := by rw [h.ok.len]; have := h.ok.le; omega
  have HW := Lib.hid h.ok
  clear h
  go_enter Tryd.func21, Tryd.ntmps21
  go_wp2_with fail
  refine H.out.mono ?_
  rintro e w1 ⟨⟨A', rfl, hrd, _⟩, k, rfl⟩
  have hrd := Lib.hid hrd
  go_wp2
  go_loop [3, 9, 5] (fun c i _ => ∃ k : Nat, k ≤ ws.length ∧ i = .int .i64 k ∧ c = .int .i64 ((onesFrom 0 (ws.take k)).length : Nat)) (fun _ i _ => ws.length - (intOf i).toNat)
  case atStart => exact ⟨0, Nat.zero_le _, rfl, rfl⟩
  case round =>
    obtain ⟨j, hj, rfl, rfl⟩ := hrel
    by_cases hlt : j < ws.length
    · obtain ⟨g, off, v, rfl, hg, hv, hvv⟩ := hrd.out.at_ (i := j) (by simpa using hlt)
      have hvv := hvv.out
      rw [word_at hlt] at hvv
      subst hvv
      have hx := word_lt HW.out hlt
      have HS := Lib.hid (onesLen_snoc ws j hlt)
      have hle := onesLen_le (ws.take j) 0
      rw [List.length_take, Nat.min_eq_left hj] at hle
      have hle2 : (bitsOf (ws[j]?.getD 0)).length ≤ 64 := by unfold bitsOf; exact Nat.le_trans (List.length_filter_le _ _) (by simp)
      have HO := ones_any (ws[j]?.getD 0) hx (w.drewN k)
      revert HO HS hv hle hle2
      generalize ws[j]?.getD 0 = x
      generalize (onesFrom 0 (ws.take j)).length = c
      generalize hq : (bitsOf x).length = q
      intro hv HS hle hle2 HO
      have HO := Lib.hid HO
      have hq := Lib.hid hq
      clear hx
      have hv' : (w.drewN k).cell? ⟨g, off + j, none⟩ = some (.int .u64 x) := by simpa using hv
      go_wp2_with fail
      refine HO.out.mono ?_
      rintro e w1 ⟨rfl, rfl⟩
      go_wp2
      go_round
      case rel => exact ⟨j + 1, by omega, by go_num, by rw [HS.out]; go_num⟩
      case measure => simp [intOf]; omega
    · obtain rfl : j = ws.length := by omega
      go_wp2
      go_ret
      refine ⟨?_, _, rfl⟩
      rfl
end Go.Proofs.YtgcclijdkcomiaaDoor
