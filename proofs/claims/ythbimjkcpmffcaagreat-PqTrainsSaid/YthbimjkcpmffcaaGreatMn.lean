/- The walk of package means' Nearest. -/
import Derived.Test.YthbimjkcpmffcaaGreatMb
import Derived.Test.YthbimjkcpmffcaaGreatNr
namespace Go.Proofs.YthbimjkcpmffcaaGreat
open Go.RowKit
set_option linter.unusedVariables false
set_option maxRecDepth 100000 in
set_option maxHeartbeats 1000000 in
theorem near_spec : NearSpec := by
  intro A c L B d v w hx hy
  have HA := Lib.hid (mayBeM_any A c L _ rfl w _ hx.rd (by have := hx.len; omega))
  cases hl : likeB (vecs L) 64 with
  | false =>
    have E : mayM (vecs L) [v] = false := mayM_no1 hl
    have E2 : nearA (vecs L) v = 0 := by unfold nearA; rw [E]; rfl
    rw [E, E2]
    rw [hl] at HA
    clear hl E E2 hx hy
    go_enter Tryz.func32, Tryz.ntmps32
    go_wp2_with (go_at_call 91; refine HA.out.mono ?_; rintro e w' ⟨rfl, rfl⟩)
    go_ret2
    exact ⟨rfl, Below.refl _ _⟩
  | true =>
    have h1 := likeB_yes hl
    rw [vecs_len] at h1
    have hrd := hx.rd
    obtain ⟨b, off, a0, c0, v0, rfl, hB, hck, _, hv0⟩ := hrd.at_ (i := 0) (by omega)
    have D0 := dim0 hv0.out
    rw [Nat.add_zero] at hck
    have hpos : 0 < L.length := by omega
    rw [hl] at HA
    by_cases hv : v.length = v0.length
    · have E : mayM (vecs L) [v] = true := by
        rw [mayM_two hl]
        refine decide_eq_true ⟨by simp, decide_eq_true (fun i hi => ?_)⟩
        obtain rfl : i = 0 := by simpa using hi
        show ((v.length : Nat) : Int) = _
        rw [D0, hv]
      have E2 : nearA (vecs L) v = ((nearestI (vecs L) v : Nat) : Int) := by unfold nearA; rw [E]; rfl
      have NE := Lib.hid (near_may (some ⟨b, off, none⟩) c L B d v w hrd hy.rd h1.2.1 h1.2.2 (by rw [D0]; exact hv) hx.b8 hy.b8)
      rw [E, E2]
      have ne : ((v.length : Int) != (v0.length : Int)) = false := by simp; omega
      obtain ⟨S, eS⟩ : ∃ S, nearestI (vecs L) v = S := ⟨_, rfl⟩
      rw [eS] at NE ⊢
      clear hl E E2 hx hy hrd D0 h1 hv eS
      go_enter Tryz.func32, Tryz.ntmps32
      go_wp2_with (first | (go_at_call 91; refine HA.out.mono ?_; rintro e w' ⟨rfl, rfl⟩) | (go_at_call 92; refine NE.out.mono ?_; rintro e w' ⟨rfl, hD⟩))
      go_ret2
      exact ⟨rfl, hD⟩
    · have E : mayM (vecs L) [v] = false := by
        rw [mayM_two hl]
        refine decide_eq_false (fun h => hv ?_)
        have h3 : ((v.length : Nat) : Int) = _ := allB_yes h.2 0 (by simp)
        rw [D0] at h3
        omega
      have E2 : nearA (vecs L) v = 0 := by unfold nearA; rw [E]; rfl
      rw [E, E2]
      have ne : ((v.length : Int) != (v0.length : Int)) = true := by simp; omega
      clear hl E E2 hx hy hrd D0 h1 hv
      go_enter Tryz.func32, Tryz.ntmps32
      go_wp2_with (go_at_call 91; refine HA.out.mono ?_; rintro e w' ⟨rfl, rfl⟩)
      go_ret2
      exact ⟨rfl, Below.refl _ _⟩
end Go.Proofs.YthbimjkcpmffcaaGreat
