/- The walks of package means: allOf, alike, mayBe, goWith. -/
import Derived.Test.YtcakmcegcbameaaNq
namespace Go.Proofs.Ytcakmcegcbameaa
open Go.RowKit
set_option linter.unusedVariables false
/-- Has each vector so many numbers? -/
def allB (vs : List (List Int)) (s : Int) : Bool := decide (∀ i, i < vs.length → ((vAt vs i).length : Int) = s)
theorem allB_yes {vs : List (List Int)} {s : Int} (h : allB vs s = true) : ∀ i, i < vs.length → ((vAt vs i).length : Int) = s := of_decide_eq_true h
set_option maxRecDepth 100000 in
set_option maxHeartbeats 1000000 in
theorem allOf_any (A : Option Addr) (c : Nat) (L : List Vc) (n : Nat) (hn : n = L.length) (s : Int) (w : World) (B : Nat) (hx : RdV w B A L) (hl : L.length ≤ 140737488355328) :
    Calls Try.prog 39 #[.slice A n c, .int .i64 s] w fun e w' => e = .returned (.bool (allB (vecs L) s)) ∧ w = w' := by
  subst hn
  go_enter Try.func39, Try.ntmps39
  go_wp2
  go_loop [9] (fun i => ∃ k : Nat, k ≤ L.length ∧ i = .int .i64 k ∧ Hid (∀ j, j < k → ((vAt (vecs L) j).length : Int) = s)) (fun i => L.length - (intOf i).toNat)
  case atStart => exact ⟨0, by omega, rfl, (fun j hj => absurd hj (Nat.not_lt_zero _) : ∀ j, j < 0 → ((vAt (vecs L) j).length : Int) = s)⟩
  case round =>
    obtain ⟨k, hk, rfl, HK⟩ := hrel
    by_cases hlt : k < L.length
    · obtain ⟨b, off, a1, c1, v1, rfl, _, hck1, _, hv1⟩ := hx.at_ hlt
      by_cases he : (v1.length : Int) = s
      · have ne : ((v1.length : Int) != s) = false := by simp; omega
        have HN : Hid (∀ j, j < k + 1 → ((vAt (vecs L) j).length : Int) = s) := fun j hj => by
          rcases Nat.lt_or_ge j k with h | h
          · exact HK.out j h
          · obtain rfl : j = k := by omega
            rw [vecs_vAt hv1.out]; exact he
        clear he
        go_wp2
        go_round
        case rel => exact ⟨k + 1, by omega, by go_num, HN⟩
        case measure => simp [intOf]; omega
      · have ne : ((v1.length : Int) != s) = true := by simp; omega
        have E := Lib.hid (show allB (vecs L) s = false from decide_eq_false (fun h => he (by
          have := h k (by rw [vecs_len]; exact hlt)
          rw [vecs_vAt hv1.out] at this; exact this)))
        clear he
        go_wp2
        go_ret
        exact ⟨retb E.out.symm, rfl⟩
    · obtain rfl : k = L.length := by omega
      have E := Lib.hid (show allB (vecs L) s = true from decide_eq_true (fun i hi => HK.out i (by rw [vecs_len] at hi; exact hi)))
      go_wp2
      go_ret
      exact ⟨retb E.out.symm, rfl⟩
/-- Are there 1 to m vectors, all of as many numbers, 1 to 64? -/
def likeB (vs : List (List Int)) (m : Int) : Bool := decide (1 ≤ vs.length ∧ (vs.length : Int) ≤ m ∧ 1 ≤ dimOf vs ∧ dimOf vs ≤ 64 ∧ allB vs (dimOf vs : Nat) = true)
theorem likeB_no {vs : List (List Int)} {m : Int} (h : ¬ (1 ≤ vs.length ∧ (vs.length : Int) ≤ m ∧ 1 ≤ dimOf vs ∧ dimOf vs ≤ 64 ∧ allB vs (dimOf vs : Nat) = true)) : likeB vs m = false := decide_eq_false h
set_option maxRecDepth 100000 in
set_option maxHeartbeats 1000000 in
theorem alike_any (A : Option Addr) (c : Nat) (L : List Vc) (n : Nat) (hn : n = L.length) (m : Int) (w : World) (B : Nat) (hx : RdV w B A L) (hl : L.length ≤ 140737488355328) :
    Calls Try.prog 33 #[.slice A n c, .int .i64 m] w fun e w' => e = .returned (.bool (likeB (vecs L) m)) ∧ w = w' := by
  subst hn
  by_cases h0 : L.length = 0
  · have E := Lib.hid (likeB_no (vs := vecs L) (m := m) (fun h => by have := h.1; rw [vecs_len] at this; omega))
    rw [h0]
    go_enter Try.func33, Try.ntmps33
    go_wp2
    go_ret
    exact ⟨retb E.out.symm, rfl⟩
  · have hz : ((L.length : Int) == 0) = false := by rw [beq_eq_false_iff_ne]; omega
    by_cases h1 : m < (L.length : Int)
    · have E := Lib.hid (likeB_no (vs := vecs L) (m := m) (fun h => by have := h.2.1; rw [vecs_len] at this; omega))
      have hz1 : decide (m < (L.length : Int)) = true := decide_eq_true h1
      go_enter Try.func33, Try.ntmps33
      go_wp2
      go_ret
      exact ⟨retb E.out.symm, rfl⟩
    · have hz1 : decide (m < (L.length : Int)) = false := decide_eq_false h1
      obtain ⟨b, off, a0, c0, v0, rfl, hB, hck, hrd, hv0⟩ := hx.at_ (i := 0) (by omega)
      have D0 := Lib.hid (dim0 hv0.out)
      have HA := Lib.hid (allOf_any (some ⟨b, off, none⟩) c L _ rfl (v0.length : Nat) w B hx hl)
      rw [Nat.add_zero] at hck
      have hpos : 0 < L.length := by omega
      have hml : (L.length : Int) ≤ m := by omega
      clear h0 h1 hrd hx
      by_cases d1 : 1 ≤ v0.length
      · have e1 : decide ((1 : Int) ≤ (v0.length : Int)) = true := decide_eq_true (by omega)
        by_cases d2 : v0.length ≤ 64
        · have e2 : decide ((v0.length : Int) ≤ 64) = true := decide_eq_true (by omega)
          have E := Lib.hid (show allB (vecs L) (v0.length : Nat) = likeB (vecs L) m by
            unfold likeB
            rw [D0.out, vecs_len]
            cases allB (vecs L) (v0.length : Nat) <;> simp <;> omega)
          go_enter Try.func33, Try.ntmps33
          go_wp2_with (go_at_call 39; refine HA.out.mono ?_; rintro e w' ⟨rfl, rfl⟩)
          go_ret
          exact ⟨retb E.out, rfl⟩
        · have e2 : decide ((v0.length : Int) ≤ 64) = false := decide_eq_false (by omega)
          have E := Lib.hid (likeB_no (vs := vecs L) (m := m) (fun h => by have := h.2.2.2.1; rw [D0.out] at this; omega))
          go_enter Try.func33, Try.ntmps33
          go_wp2
          go_ret
          exact ⟨retb E.out.symm, rfl⟩
      · have e1 : decide ((1 : Int) ≤ (v0.length : Int)) = false := decide_eq_false (by omega)
        have E := Lib.hid (likeB_no (vs := vecs L) (m := m) (fun h => by have := h.2.2.1; rw [D0.out] at this; omega))
        go_enter Try.func33, Try.ntmps33
        go_wp2
        go_ret
        exact ⟨retb E.out.symm, rfl⟩
theorem likeB_may (vs : List (List Int)) : likeB vs 64 = decide (vs.length ≤ 64 ∧ mayB vs = true) := by
  unfold likeB
  rw [decide_eq_decide]
  constructor
  · rintro ⟨h1, h2, h3, h4, h5⟩
    exact ⟨by omega, decide_eq_true ⟨h1, by omega, h3, h4, fun i hi => by have := allB_yes h5 i hi; unfold vAt at this; omega⟩⟩
  · rintro ⟨h1, h2⟩
    obtain ⟨g1, g2, g3, g4, g5⟩ := mayB_yes h2
    exact ⟨g1, by omega, g3, g4, decide_eq_true (fun i hi => by have := g5 i hi; unfold vAt; omega)⟩
theorem likeB_all (vs : List (List Int)) : likeB vs 2048 = mayB vs := by
  unfold likeB mayB
  rw [decide_eq_decide]
  constructor
  · rintro ⟨h1, h2, h3, h4, h5⟩
    exact ⟨h1, by omega, h3, h4, fun i hi => by have := allB_yes h5 i hi; unfold vAt at this; omega⟩
  · rintro ⟨g1, g2, g3, g4, g5⟩
    exact ⟨g1, by omega, g3, g4, decide_eq_true (fun i hi => by have := g5 i hi; unfold vAt; omega)⟩
theorem mayBeM_any (A : Option Addr) (c : Nat) (L : List Vc) (n : Nat) (hn : n = L.length) (w : World) (B : Nat) (hx : RdV w B A L) (hl : L.length ≤ 140737488355328) :
    Calls Try.prog 25 #[.slice A n c] w fun e w' => e = .returned (.bool (likeB (vecs L) 64)) ∧ w = w' := by
  have H := Lib.hid (alike_any A c L n hn 64 w B hx hl)
  clear hx hn
  go_enter Try.func25, Try.ntmps25
  go_wp2_with fail
  refine H.out.mono ?_
  rintro e w' ⟨rfl, rfl⟩
  go_wp2
  go_ret
  exact ⟨rfl, rfl⟩
def withB (ms vs : List (List Int)) : Bool := decide (vs.length ≤ 2048 ∧ allB vs (dimOf ms : Nat) = true)
set_option maxRecDepth 100000 in
theorem goWith_any (A : Option Addr) (c : Nat) (L : List Vc) (n : Nat) (hn : n = L.length) (B : Option Addr) (d : Nat) (M : List Vc) (m : Nat) (hm : m = M.length) (w : World) (D : Nat) (hx : RdV w D A L) (hy : RdV w D B M) (h1 : 1 ≤ L.length) (hl : L.length ≤ 140737488355328) (hl2 : M.length ≤ 140737488355328) :
    Calls Try.prog 29 #[.slice A n c, .slice B m d] w fun e w' => e = .returned (.bool (withB (vecs L) (vecs M))) ∧ w = w' := by
  subst hn hm
  by_cases h0 : M.length ≤ 2048
  · have hz : decide ((M.length : Int) ≤ 2048) = true := decide_eq_true (by omega)
    obtain ⟨b, off, a0, c0, v0, rfl, hB, hck, hrd, hv0⟩ := hx.at_ (i := 0) (by omega)
    have D0 := Lib.hid (dim0 hv0.out)
    have HA := Lib.hid (allOf_any B d M _ rfl (v0.length : Nat) w D hy hl2)
    rw [Nat.add_zero] at hck
    have hpos : 0 < L.length := by omega
    have E := Lib.hid (show allB (vecs M) (v0.length : Nat) = withB (vecs L) (vecs M) by
      unfold withB
      rw [D0.out, vecs_len]
      cases allB (vecs M) (v0.length : Nat) <;> simp <;> omega)
    clear hrd hx hy
    go_enter Try.func29, Try.ntmps29
    go_wp2_with (go_at_call 39; refine HA.out.mono ?_; rintro e w' ⟨rfl, rfl⟩)
    go_ret
    exact ⟨retb E.out, rfl⟩
  · have hz : decide ((M.length : Int) ≤ 2048) = false := decide_eq_false (by omega)
    have E := Lib.hid (show withB (vecs L) (vecs M) = false from decide_eq_false (fun h => by have := h.1; rw [vecs_len] at this; omega))
    go_enter Try.func29, Try.ntmps29
    go_wp2
    go_ret
    exact ⟨retb E.out.symm, rfl⟩
theorem mayM_both (ms vs : List (List Int)) : mayM ms vs = (likeB ms 64 && withB ms vs) := by
  rw [likeB_may]
  unfold mayM withB
  rw [← Bool.decide_and, decide_eq_decide]
  constructor
  · rintro ⟨h1, h2, h3, h4⟩
    exact ⟨⟨h1, h2⟩, h3, decide_eq_true (fun i hi => by have := h4 i hi; omega)⟩
  · rintro ⟨⟨h1, h2⟩, h3, h4⟩
    exact ⟨h1, h2, h3, fun i hi => by have := allB_yes h4 i hi; omega⟩
end Go.Proofs.Ytcakmcegcbameaa
