/- The walk of the statements' own helper Beyond. -/
import Derived.Test.YtkmngbkghgelfaaGreatBs
namespace Go.Proofs.YtkmngbkghgelfaaGreat
open Go.RowKit
set_option linter.unusedVariables false
set_option maxHeartbeats 400000 in
theorem beyond_any (A : Option Addr) (c : Nat) (xs : List Int) (n : Nat) (hn : n = xs.length) (w : World) (B : Nat) (hx : Rd .i64 w B A xs) (hb : ∀ x ∈ xs, 0 ≤ x ∧ x ≤ 140737488355328) (hl : xs.length ≤ 1000) :
    Calls Tryz.prog 6 #[.slice A n c] w fun e w' => e = .returned (.bool (bey xs)) ∧ w = w' := by
  subst hn
  go_enter Tryz.func6, Tryz.ntmps6
  go_wp2
  go_loop [3, 4] (fun s i => ∃ k : Nat, k ≤ xs.length ∧ i = .int .i64 k ∧ s = .int .i64 (xs.take k).sum ∧ 0 ≤ (xs.take k).sum ∧ (xs.take k).sum ≤ 1048576) (fun _ i => xs.length - (intOf i).toNat)
  case atStart => exact ⟨0, by omega, rfl, rfl, by simp, by simp⟩
  case round =>
    obtain ⟨k, hk, rfl, rfl, hs0, hs⟩ := hrel
    by_cases hlt : k < xs.length
    · obtain ⟨b, off, v, rfl, hB, hck, hv⟩ := hx.at_ hlt
      have hvb : 0 ≤ v ∧ v ≤ 140737488355328 := by
        rw [← hv.out, List.getElem?_eq_getElem hlt]; exact hb _ (List.getElem_mem _)
      have HS := Lib.hid (sum_take xs k v hlt hv.out)
      obtain ⟨s, hs'⟩ : ∃ s, (xs.take k).sum = s := ⟨_, rfl⟩
      rw [hs'] at HS hs0 hs ⊢
      have hm := sum_mono xs (fun x hx => (hb x hx).1) (k + 1)
      clear hs'
      by_cases hg : 1048576 < s + v
      · have e : bey xs = true := by unfold bey; simp; have := HS.out; omega
        have E := Lib.hid e
        clear e hm
        go_wp2
        go_ret
        exact ⟨retb E.out.symm, rfl⟩
      · clear hm
        go_wp2
        go_round
        case rel => exact ⟨k + 1, by omega, by go_num, by rw [HS.out], by rw [HS.out]; omega, by rw [HS.out]; omega⟩
        case measure => simp [intOf]; omega
    · have e : bey xs = false := by unfold bey; rw [List.take_of_length_le (by omega)] at hs; simp; omega
      have E := Lib.hid e
      clear e
      go_wp2
      go_ret
      exact ⟨retb E.out.symm, rfl⟩
end Go.Proofs.YtkmngbkghgelfaaGreat
