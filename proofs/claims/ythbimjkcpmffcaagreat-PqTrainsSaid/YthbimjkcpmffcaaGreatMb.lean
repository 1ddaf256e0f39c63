/- Several texts in one. -/
import Derived.Test.YthbimjkcpmffcaaGreatNq
import Derived.Test.YthbimjkcpmffcaaGreatNr
/- The walks of package means: allOf, alike, mayBe, goWith. -/
namespace Go.Proofs.YthbimjkcpmffcaaGreat
open Go.RowKit
set_option linter.unusedVariables false
/-- Has each vector so many numbers? -/
def allB (vs : List (List Int)) (s : Int) : Bool := decide (∀ i, i < vs.length → ((vAt vs i).length : Int) = s)
theorem allB_yes {vs : List (List Int)} {s : Int} (h : allB vs s = true) : ∀ i, i < vs.length → ((vAt vs i).length : Int) = s := of_decide_eq_true h
set_option maxRecDepth 100000 in
set_option maxHeartbeats 1000000 in
theorem allOf_any (A : Option Addr) (c : Nat) (L : List Vc) (n : Nat) (hn : n = L.length) (s : Int) (w : World) (B : Nat) (hx : RdV w B A L) (hl : L.length ≤ 140737488355328) :
    Calls Tryz.prog 131 #[.slice A n c, .int .i64 s] w fun e w' => e = .returned (.bool (allB (vecs L) s)) ∧ w = w' := by
  subst hn
  go_enter Tryz.func131, Tryz.ntmps131
  go_wp2
  go_loop [9] (fun i => ∃ k : Nat, k ≤ L.length ∧ i = .int .i64 k ∧ Hid (∀ j, j < k → ((vAt (vecs L) j).length : Int) = s)) (fun i => L.length - (intOf i).toNat)
  case atStart => exact ⟨0, by omega, rfl, (fun j hj => absurd hj (Nat.not_lt_zero _) : ∀ j, j < 0 → ((vAt (vecs L) j).length : Int) = s)⟩
  case round =>
    obtain ⟨k, hk, rfl, HK⟩ := hrel
    by_cases hlt : k < L.length
    · obtain ⟨b, off, a1, c1, v1, rfl, _, hck1, _, hv1⟩ := hx.at_ hlt
      by_cases he : (v1.length : Int) = s
      · have ne : ((v1.length : Int) != s) = false := by simp; omega
        have HN : Hid (∀ j, j < k + 1 → ((vAt (vecs L) j).length : Int) = s) := fun j hj => by
          rcases Nat.lt_or_ge j k with h | h
          · exact HK.out j h
          · obtain rfl : j = k := by omega
            rw [vecs_vAt hv1.out]; exact he
        clear he
        go_wp2
        go_round
        case rel => exact ⟨k + 1, by omega, by go_num, HN⟩
        case measure => simp [intOf]; omega
      · have ne : ((v1.length : Int) != s) = true := by simp; omega
        have E := Lib.hid (show allB (vecs L) s = false from decide_eq_false (fun h => he (by
          have := h k (by rw [vecs_len]; exact hlt)
          rw [vecs_vAt hv1.out] at this; exact this)))
        clear he
        go_wp2
        go_ret
        exact ⟨retb E.out.symm, rfl⟩
    · obtain rfl : k = L.length := by omega
      have E := Lib.hid (show allB (vecs L) s = true from decide_eq_true (fun i hi => HK.out i (by rw [vecs_len] at hi; exact hi)))
      go_wp2
      go_ret
      exact ⟨retb E.out.symm, rfl⟩
/-- Are there 1 to m vectors, all of as many numbers, 1 to 64? -/
def likeB (vs : List (List Int)) (m : Int) : Bool := decide (1 ≤ vs.length ∧ (vs.length : Int) ≤ m ∧ 1 ≤ dimOf vs ∧ dimOf vs ≤ 64 ∧ allB vs (dimOf vs : Nat) = true)
theorem likeB_no {vs : List (List Int)} {m : Int} (h : ¬ (1 ≤ vs.length ∧ (vs.length : Int) ≤ m ∧ 1 ≤ dimOf vs ∧ dimOf vs ≤ 64 ∧ allB vs (dimOf vs : Nat) = true)) : likeB vs m = false := decide_eq_false h
set_option maxRecDepth 100000 in
set_option maxHeartbeats 1000000 in
theorem alike_any (A : Option Addr) (c : Nat) (L : List Vc) (n : Nat) (hn : n = L.length) (m : Int) (w : World) (B : Nat) (hx : RdV w B A L) (hl : L.length ≤ 140737488355328) :
    Calls Tryz.prog 122 #[.slice A n c, .int .i64 m] w fun e w' => e = .returned (.bool (likeB (vecs L) m)) ∧ w = w' := by
  subst hn
  by_cases h0 : L.length = 0
  · have E := Lib.hid (likeB_no (vs := vecs L) (m := m) (fun h => by have := h.1; rw [vecs_len] at this; omega))
    rw [h0]
    go_enter Tryz.func122, Tryz.ntmps122
    go_wp2
    go_ret
    exact ⟨retb E.out.symm, rfl⟩
  · have hz : ((L.length : Int) == 0) = false := by rw [beq_eq_false_iff_ne]; omega
    by_cases h1 : m < (L.length : Int)
    · have E := Lib.hid (likeB_no (vs := vecs L) (m := m) (fun h => by have := h.2.1; rw [vecs_len] at this; omega))
      have hz1 : decide (m < (L.length : Int)) = true := decide_eq_true h1
      go_enter Tryz.func122, Tryz.ntmps122
      go_wp2
      go_ret
      exact ⟨retb E.out.symm, rfl⟩
    · have hz1 : decide (m < (L.length : Int)) = false := decide_eq_false h1
      obtain ⟨b, off, a0, c0, v0, rfl, hB, hck, hrd, hv0⟩ := hx.at_ (i := 0) (by omega)
      have D0 := Lib.hid (dim0 hv0.out)
      have HA := Lib.hid (allOf_any (some ⟨b, off, none⟩) c L _ rfl (v0.length : Nat) w B hx hl)
      rw [Nat.add_zero] at hck
      have hpos : 0 < L.length := by omega
      have hml : (L.length : Int) ≤ m := by omega
      clear h0 h1 hrd hx
      by_cases d1 : 1 ≤ v0.length
      · have e1 : decide ((1 : Int) ≤ (v0.length : Int)) = true := decide_eq_true (by omega)
        by_cases d2 : v0.length ≤ 64
        · have e2 : decide ((v0.length : Int) ≤ 64) = true := decide_eq_true (by omega)
          have E := Lib.hid (show allB (vecs L) (v0.length : Nat) = likeB (vecs L) m by
            unfold likeB
            rw [D0.out, vecs_len]
            cases allB (vecs L) (v0.length : Nat) <;> simp <;> omega)
          go_enter Tryz.func122, Tryz.ntmps122
          go_wp2_with (go_at_call 131; refine HA.out.mono ?_; rintro e w' ⟨rfl, rfl⟩)
          go_ret
          exact ⟨retb E.out, rfl⟩
        · have e2 : decide ((v0.length : Int) ≤ 64) = false := decide_eq_false (by omega)
          have E := Lib.hid (likeB_no (vs := vecs L) (m := m) (fun h => by have := h.2.2.2.1; rw [D0.out] at this; omega))
          go_enter Tryz.func122, Tryz.ntmps122
          go_wp2
          go_ret
          exact ⟨retb E.out.symm, rfl⟩
      · have e1 : decide ((1 : Int) ≤ (v0.length : Int)) = false := decide_eq_false (by omega)
        have E := Lib.hid (likeB_no (vs := vecs L) (m := m) (fun h => by have := h.2.2.1; rw [D0.out] at this; omega))
        go_enter Tryz.func122, Tryz.ntmps122
        go_wp2
        go_ret
        exact ⟨retb E.out.symm, rfl⟩
theorem likeB_may (vs : List (List Int)) : likeB vs 64 = decide (vs.length ≤ 64 ∧ mayB vs = true) := by
  unfold likeB
  rw [decide_eq_decide]
  constructor
  · rintro ⟨h1, h2, h3, h4, h5⟩
    exact ⟨by omega, decide_eq_true ⟨h1, by omega, h3, h4, fun i hi => by have := allB_yes h5 i hi; unfold vAt at this; omega⟩⟩
  · rintro ⟨h1, h2⟩
    obtain ⟨g1, g2, g3, g4, g5⟩ := mayB_yes h2
    exact ⟨g1, by omega, g3, g4, decide_eq_true (fun i hi => by have := g5 i hi; unfold vAt; omega)⟩
theorem likeB_all (vs : List (List Int)) : likeB vs 2048 = mayB vs := by
  unfold likeB mayB
  rw [decide_eq_decide]
  constructor
  · rintro ⟨h1, h2, h3, h4, h5⟩
    exact ⟨h1, by omega, h3, h4, fun i hi => by have := allB_yes h5 i hi; unfold vAt at this; omega⟩
  · rintro ⟨g1, g2, g3, g4, g5⟩
    exact ⟨g1, by omega, g3, g4, decide_eq_true (fun i hi => by have := g5 i hi; unfold vAt; omega)⟩
theorem mayBeM_any (A : Option Addr) (c : Nat) (L : List Vc) (n : Nat) (hn : n = L.length) (w : World) (B : Nat) (hx : RdV w B A L) (hl : L.length ≤ 140737488355328) :
    Calls Tryz.prog 91 #[.slice A n c] w fun e w' => e = .returned (.bool (likeB (vecs L) 64)) ∧ w = w' := by
  have H := Lib.hid (alike_any A c L n hn 64 w B hx hl)
  clear hx hn
  go_enter Tryz.func91, Tryz.ntmps91
  go_wp2_with fail
  refine H.out.mono ?_
  rintro e w' ⟨rfl, rfl⟩
  go_wp2
  go_ret
  exact ⟨rfl, rfl⟩
def withB (ms vs : List (List Int)) : Bool := decide (vs.length ≤ 2048 ∧ allB vs (dimOf ms : Nat) = true)
theorem mayM_both (ms vs : List (List Int)) : mayM ms vs = (likeB ms 64 && withB ms vs) := by
  rw [likeB_may]
  unfold mayM withB
  rw [← Bool.decide_and, decide_eq_decide]
  constructor
  · rintro ⟨h1, h2, h3, h4⟩
    exact ⟨⟨h1, h2⟩, h3, decide_eq_true (fun i hi => by have := h4 i hi; omega)⟩
  · rintro ⟨⟨h1, h2⟩, h3, h4⟩
    exact ⟨h1, h2, h3, fun i hi => by have := allB_yes h4 i hi; omega⟩
end Go.Proofs.YthbimjkcpmffcaaGreat
/- The walks of package means: nearest, Cost. -/
namespace Go.Proofs.YthbimjkcpmffcaaGreat
open Go.RowKit
set_option linter.unusedVariables false
/-- How far the best of the first k places is; of none: the greatest number. -/
def bestF (ms : List (List Int)) (v : List Int) (k : Nat) : Int := if k = 0 then 9223372036854775807 else far (vAt ms (nearI ms v k)) v
theorem bestF_nil (ms : List (List Int)) (v : List Int) : bestF ms v 0 = 9223372036854775807 := if_pos rfl
theorem bestF_pos {ms : List (List Int)} {v : List Int} {k : Nat} (h : 1 ≤ k) : bestF ms v k = far (vAt ms (nearI ms v k)) v := if_neg (by omega)
theorem best_step (ms : List (List Int)) (v : List Int) (k : Nat) (h : far (vAt ms k) v < 9223372036854775807) :
    (far (vAt ms k) v < bestF ms v k → nearI ms v (k + 1) = k ∧ bestF ms v (k + 1) = far (vAt ms k) v) ∧ (¬ far (vAt ms k) v < bestF ms v k → nearI ms v (k + 1) = nearI ms v k ∧ bestF ms v (k + 1) = bestF ms v k) := by
  rw [bestF_pos (k := k + 1) (by omega)]
  by_cases h0 : k = 0
  · subst h0
    rw [bestF_nil, show nearI ms v (0 + 1) = 0 from nearI_one ms v]
    exact ⟨fun _ => ⟨rfl, rfl⟩, fun hn => absurd h hn⟩
  · rw [bestF_pos (k := k) (by omega)]
    have e : nearI ms v (k + 1) = if far (vAt ms k) v < far (vAt ms (nearI ms v k)) v then k else nearI ms v k := rfl
    refine ⟨fun hp => ?_, fun hn => ?_⟩
    · rw [if_pos hp] at e
      exact ⟨e, by rw [e]⟩
    · rw [if_neg hn] at e
      exact ⟨e, by rw [e]⟩
theorem best_bd {ms : List (List Int)} {v : List Int} (h : ∀ j, j < ms.length → 0 ≤ far (vAt ms j) v ∧ far (vAt ms j) v ≤ 4161600) (k : Nat) (hk : k ≤ ms.length) : 0 ≤ bestF ms v k ∧ bestF ms v k ≤ 9223372036854775807 := by
  by_cases h0 : k = 0
  · subst h0
    rw [bestF_nil]; omega
  · rw [bestF_pos (by omega)]
    have := h _ (Nat.lt_of_lt_of_le (nearI_lt ms v k (by omega)) hk)
    omega
set_option maxRecDepth 100000 in
set_option maxHeartbeats 2000000 in
theorem near_any (A : Option Addr) (c : Nat) (L : List Vc) (B : Option Addr) (d : Nat) (v : List Int) (w : World) (hx : RdV w w.heap.size A L) (hy : Rd .i8 w w.heap.size B v) (h1 : 1 ≤ L.length) (h2 : L.length ≤ 2048) (hd1 : 1 ≤ v.length) (hd : v.length ≤ 64) (hlen : ∀ u ∈ vecs L, u.length = v.length) (hb : B8 (vecs L)) (hv : ∀ x ∈ v, -128 ≤ x ∧ x ≤ 127) :
    Calls Tryz.prog 92 #[.slice A L.length c, .slice B v.length d] w fun e w' => e = .returned (.tuple #[.int .i64 (nearestI (vecs L) v : Nat), .int .i64 (far (vAt (vecs L) (nearestI (vecs L) v)) v)]) ∧ Below w.heap.size w w' := by
  have HB := Lib.hid hb
  have HL := Lib.hid hlen
  have HV := Lib.hid hv
  have HF : Hid (∀ j, j < (vecs L).length → 0 ≤ far (vAt (vecs L) j) v ∧ far (vAt (vecs L) j) v ≤ 4161600) := fun j hj => far_bd (by rw [hlen _ (vAt_mem hj)]; exact hd) (hb _ (vAt_mem hj)) hv
  clear hb hlen hv
  have E0 : nearI (vecs L) v L.length = nearestI (vecs L) v := by unfold nearestI; rw [vecs_len]
  have E1 : bestF (vecs L) v L.length = far (vAt (vecs L) (nearestI (vecs L) v)) v := by rw [bestF_pos h1, E0]
  obtain ⟨R, eR⟩ : ∃ R, far (vAt (vecs L) (nearestI (vecs L) v)) v = R := ⟨_, rfl⟩
  rw [eR] at E1 ⊢
  clear eR
  obtain ⟨S, eS⟩ : ∃ S, nearestI (vecs L) v = S := ⟨_, rfl⟩
  rw [eS] at E0 ⊢
  have ER := Lib.hid E0
  have ES := Lib.hid E1
  clear E0 E1 eS
  go_enter Tryz.func92, Tryz.ntmps92
  go_wp2
  go_loopw [6, 7, 14] (fun s f i wr => ∃ k : Nat, k ≤ L.length ∧ i = .int .i64 k ∧ s = .int .i64 (nearI (vecs L) v k : Nat) ∧ f = .int .i64 (bestF (vecs L) v k) ∧ Below w.heap.size w wr) (fun _ _ i _ => L.length - (intOf i).toNat)
  case atStart => exact ⟨0, by omega, rfl, rfl, by rw [bestF_nil], Below.refl _ _⟩
  case round =>
    obtain ⟨k, hk, rfl, rfl, rfl, hB⟩ := hrel
    by_cases hlt : k < L.length
    · obtain ⟨b, off, a1, c1, v1, rfl, hBk, hck, hrd, hv1⟩ := (hx.below hB).at_ hlt
      have hf := HF.out k (by rw [vecs_len]; exact hlt)
      have hbb := best_bd HF.out k (by rw [vecs_len]; omega)
      have hst := best_step (vecs L) v k (by omega)
      rw [vecs_vAt hv1.out] at hf hst
      have l1 : v1.length = v.length := HL.out v1 (List.mem_of_getElem? (vecs_at hv1.out))
      have DI := Lib.hid (dist_yes a1 B c1 d v1 v (by omega) (by omega) l1.symm v.length l1.symm wr (hrd.more hB.size) ((hy.below hB).more hB.size) (b8_at HB.out (vecs_at hv1.out)) HV.out)
      obtain ⟨x, ex⟩ : ∃ x, far v1 v = x := ⟨_, rfl⟩
      rw [ex] at hf hst DI
      obtain ⟨y, ey⟩ : ∃ y, bestF (vecs L) v k = y := ⟨_, rfl⟩
      rw [ey] at hst hbb ⊢
      obtain ⟨g, eg⟩ : ∃ g, nearI (vecs L) v k = g := ⟨_, rfl⟩
      rw [eg] at hst ⊢
      clear ex ey eg hrd hv1 l1
      by_cases hxy : x < y
      · have e1 : decide (x < y) = true := decide_eq_true hxy
        have HS := Lib.hid (hst.1 hxy)
        clear hxy hst
        go_wp2_with (go_at_call 93; refine DI.out.mono ?_; rintro e w' ⟨rfl, hD⟩)
        go_roundw
        case rel => exact ⟨k + 1, by omega, by go_num, by rw [HS.out.1], by rw [HS.out.2], hB.trans (hD.mono hB.size)⟩
        case measure => simp [intOf]; omega
      · have e1 : decide (x < y) = false := decide_eq_false hxy
        have HS := Lib.hid (hst.2 hxy)
        clear hxy hst
        go_wp2_with (go_at_call 93; refine DI.out.mono ?_; rintro e w' ⟨rfl, hD⟩)
        go_roundw
        case rel => exact ⟨k + 1, by omega, by go_num, by rw [HS.out.1], by rw [HS.out.2], hB.trans (hD.mono hB.size)⟩
        case measure => simp [intOf]; omega
    · obtain rfl : k = L.length := by omega
      rw [ER.out, ES.out]
      go_wp2
      go_ret2
      exact ⟨rfl, hB⟩
theorem likeB_yes {vs : List (List Int)} (h : likeB vs 64 = true) : 1 ≤ vs.length ∧ vs.length ≤ 64 ∧ mayB vs = true := by
  rw [likeB_may] at h
  have h1 := of_decide_eq_true h
  exact ⟨(mayB_yes h1.2).1, h1⟩
theorem mayM_no1 {ms vs : List (List Int)} (h : likeB ms 64 = false) : mayM ms vs = false := by rw [mayM_both, h]; rfl
theorem mayM_two {ms vs : List (List Int)} (h : likeB ms 64 = true) : mayM ms vs = withB ms vs := by rw [mayM_both, h]; rfl
/-- nearest, of means that may be, and a vector that goes with them. -/
theorem near_may (A : Option Addr) (c : Nat) (L : List Vc) (B : Option Addr) (d : Nat) (v : List Int) (w : World) (hx : RdV w w.heap.size A L) (hy : Rd .i8 w w.heap.size B v) (hl : L.length ≤ 64) (hm : mayB (vecs L) = true) (hd : v.length = dimOf (vecs L)) (hb : B8 (vecs L)) (hv : ∀ x ∈ v, -128 ≤ x ∧ x ≤ 127) :
    Calls Tryz.prog 92 #[.slice A L.length c, .slice B v.length d] w fun e w' => e = .returned (.tuple #[.int .i64 (nearestI (vecs L) v : Nat), .int .i64 (far (vAt (vecs L) (nearestI (vecs L) v)) v)]) ∧ Below w.heap.size w w' := by
  have h := mayB_yes hm
  rw [vecs_len] at h
  exact near_any A c L B d v w hx hy h.1 h.2.1 (by omega) (by omega) (fun u hu => by rw [hd]; exact mayB_len hm u hu) hb hv
end Go.Proofs.YthbimjkcpmffcaaGreat
