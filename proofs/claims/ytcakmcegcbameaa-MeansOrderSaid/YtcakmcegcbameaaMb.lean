/- The walks of package means: nearest, Cost. -/
import Derived.Test.YtcakmcegcbameaaMa
import Derived.Test.YtcakmcegcbameaaN2
namespace Go.Proofs.Ytcakmcegcbameaa
open Go.RowKit
set_option linter.unusedVariables false
/-- How far the best of the first k places is; of none: the greatest number. -/
def bestF (ms : List (List Int)) (v : List Int) (k : Nat) : Int := if k = 0 then 9223372036854775807 else far (vAt ms (nearI ms v k)) v
theorem bestF_nil (ms : List (List Int)) (v : List Int) : bestF ms v 0 = 9223372036854775807 := if_pos rfl
theorem bestF_pos {ms : List (List Int)} {v : List Int} {k : Nat} (h : 1 ≤ k) : bestF ms v k = far (vAt ms (nearI ms v k)) v := if_neg (by omega)
theorem best_step (ms : List (List Int)) (v : List Int) (k : Nat) (h : far (vAt ms k) v < 9223372036854775807) :
    (far (vAt ms k) v < bestF ms v k → nearI ms v (k + 1) = k ∧ bestF ms v (k + 1) = far (vAt ms k) v) ∧ (¬ far (vAt ms k) v < bestF ms v k → nearI ms v (k + 1) = nearI ms v k ∧ bestF ms v (k + 1) = bestF ms v k) := by
  rw [bestF_pos (k := k + 1) (by omega)]
  by_cases h0 : k = 0
  · subst h0
    rw [bestF_nil, show nearI ms v (0 + 1) = 0 from nearI_one ms v]
    exact ⟨fun _ => ⟨rfl, rfl⟩, fun hn => absurd h hn⟩
  · rw [bestF_pos (k := k) (by omega)]
    have e : nearI ms v (k + 1) = if far (vAt ms k) v < far (vAt ms (nearI ms v k)) v then k else nearI ms v k := rfl
    refine ⟨fun hp => ?_, fun hn => ?_⟩
    · rw [if_pos hp] at e
      exact ⟨e, by rw [e]⟩
    · rw [if_neg hn] at e
      exact ⟨e, by rw [e]⟩
theorem best_bd {ms : List (List Int)} {v : List Int} (h : ∀ j, j < ms.length → 0 ≤ far (vAt ms j) v ∧ far (vAt ms j) v ≤ 4161600) (k : Nat) (hk : k ≤ ms.length) : 0 ≤ bestF ms v k ∧ bestF ms v k ≤ 9223372036854775807 := by
  by_cases h0 : k = 0
  · subst h0
    rw [bestF_nil]; omega
  · rw [bestF_pos (by omega)]
    have := h _ (Nat.lt_of_lt_of_le (nearI_lt ms v k (by omega)) hk)
    omega
set_option maxRecDepth 100000 in
set_option maxHeartbeats 2000000 in
theorem near_any (A : Option Addr) (c : Nat) (L : List Vc) (B : Option Addr) (d : Nat) (v : List Int) (w : World) (hx : RdV w w.heap.size A L) (hy : Rd .i8 w w.heap.size B v) (h1 : 1 ≤ L.length) (h2 : L.length ≤ 2048) (hd1 : 1 ≤ v.length) (hd : v.length ≤ 64) (hlen : ∀ u ∈ vecs L, u.length = v.length) (hb : B8 (vecs L)) (hv : ∀ x ∈ v, -128 ≤ x ∧ x ≤ 127) :
    Calls Try.prog 26 #[.slice A L.length c, .slice B v.length d] w fun e w' => e = .returned (.tuple #[.int .i64 (nearestI (vecs L) v : Nat), .int .i64 (far (vAt (vecs L) (nearestI (vecs L) v)) v)]) ∧ Below w.heap.size w w' := by
  have HB := Lib.hid hb
  have HL := Lib.hid hlen
  have HV := Lib.hid hv
  have HF : Hid (∀ j, j < (vecs L).length → 0 ≤ far (vAt (vecs L) j) v ∧ far (vAt (vecs L) j) v ≤ 4161600) := fun j hj => far_bd (by rw [hlen _ (vAt_mem hj)]; exact hd) (hb _ (vAt_mem hj)) hv
  clear hb hlen hv
  have E0 : nearI (vecs L) v L.length = nearestI (vecs L) v := by unfold nearestI; rw [vecs_len]
  have E1 : bestF (vecs L) v L.length = far (vAt (vecs L) (nearestI (vecs L) v)) v := by rw [bestF_pos h1, E0]
  obtain ⟨R, eR⟩ : ∃ R, far (vAt (vecs L) (nearestI (vecs L) v)) v = R := ⟨_, rfl⟩
  rw [eR] at E1 ⊢
  clear eR
  obtain ⟨S, eS⟩ : ∃ S, nearestI (vecs L) v = S := ⟨_, rfl⟩
  rw [eS] at E0 ⊢
  have ER := Lib.hid E0
  have ES := Lib.hid E1
  clear E0 E1 eS
  go_enter Try.func26, Try.ntmps26
  go_wp2
  go_loopw [6, 7, 14] (fun s f i wr => ∃ k : Nat, k ≤ L.length ∧ i = .int .i64 k ∧ s = .int .i64 (nearI (vecs L) v k : Nat) ∧ f = .int .i64 (bestF (vecs L) v k) ∧ Below w.heap.size w wr) (fun _ _ i _ => L.length - (intOf i).toNat)
  case atStart => exact ⟨0, by omega, rfl, rfl, by rw [bestF_nil], Below.refl _ _⟩
  case round =>
    obtain ⟨k, hk, rfl, rfl, rfl, hB⟩ := hrel
    by_cases hlt : k < L.length
    · obtain ⟨b, off, a1, c1, v1, rfl, hBk, hck, hrd, hv1⟩ := (hx.below hB).at_ hlt
      have hf := HF.out k (by rw [vecs_len]; exact hlt)
      have hbb := best_bd HF.out k (by rw [vecs_len]; omega)
      have hst := best_step (vecs L) v k (by omega)
      rw [vecs_vAt hv1.out] at hf hst
      have l1 : v1.length = v.length := HL.out v1 (List.mem_of_getElem? (vecs_at hv1.out))
      have DI := Lib.hid (dist_yes a1 B c1 d v1 v (by omega) (by omega) l1.symm v.length l1.symm wr (hrd.more hB.size) ((hy.below hB).more hB.size) (b8_at HB.out (vecs_at hv1.out)) HV.out)
      obtain ⟨x, ex⟩ : ∃ x, far v1 v = x := ⟨_, rfl⟩
      rw [ex] at hf hst DI
      obtain ⟨y, ey⟩ : ∃ y, bestF (vecs L) v k = y := ⟨_, rfl⟩
      rw [ey] at hst hbb ⊢
      obtain ⟨g, eg⟩ : ∃ g, nearI (vecs L) v k = g := ⟨_, rfl⟩
      rw [eg] at hst ⊢
      clear ex ey eg hrd hv1 l1
      by_cases hxy : x < y
      · have e1 : decide (x < y) = true := decide_eq_true hxy
        have HS := Lib.hid (hst.1 hxy)
        clear hxy hst
        go_wp2_with (go_at_call 21; refine DI.out.mono ?_; rintro e w' ⟨rfl, hD⟩)
        go_roundw
        case rel => exact ⟨k + 1, by omega, by go_num, by rw [HS.out.1], by rw [HS.out.2], hB.trans (hD.mono hB.size)⟩
        case measure => simp [intOf]; omega
      · have e1 : decide (x < y) = false := decide_eq_false hxy
        have HS := Lib.hid (hst.2 hxy)
        clear hxy hst
        go_wp2_with (go_at_call 21; refine DI.out.mono ?_; rintro e w' ⟨rfl, hD⟩)
        go_roundw
        case rel => exact ⟨k + 1, by omega, by go_num, by rw [HS.out.1], by rw [HS.out.2], hB.trans (hD.mono hB.size)⟩
        case measure => simp [intOf]; omega
    · obtain rfl : k = L.length := by omega
      rw [ER.out, ES.out]
      go_wp2
      go_ret2
      exact ⟨rfl, hB⟩
theorem likeB_yes {vs : List (List Int)} (h : likeB vs 64 = true) : 1 ≤ vs.length ∧ vs.length ≤ 64 ∧ mayB vs = true := by
  rw [likeB_may] at h
  have h1 := of_decide_eq_true h
  exact ⟨(mayB_yes h1.2).1, h1⟩
theorem mayM_no1 {ms vs : List (List Int)} (h : likeB ms 64 = false) : mayM ms vs = false := by rw [mayM_both, h]; rfl
theorem mayM_two {ms vs : List (List Int)} (h : likeB ms 64 = true) : mayM ms vs = withB ms vs := by rw [mayM_both, h]; rfl
/-- nearest, of means that may be, and a vector that goes with them. -/
theorem near_may (A : Option Addr) (c : Nat) (L : List Vc) (B : Option Addr) (d : Nat) (v : List Int) (w : World) (hx : RdV w w.heap.size A L) (hy : Rd .i8 w w.heap.size B v) (hl : L.length ≤ 64) (hm : mayB (vecs L) = true) (hd : v.length = dimOf (vecs L)) (hb : B8 (vecs L)) (hv : ∀ x ∈ v, -128 ≤ x ∧ x ≤ 127) :
    Calls Try.prog 26 #[.slice A L.length c, .slice B v.length d] w fun e w' => e = .returned (.tuple #[.int .i64 (nearestI (vecs L) v : Nat), .int .i64 (far (vAt (vecs L) (nearestI (vecs L) v)) v)]) ∧ Below w.heap.size w w' := by
  have h := mayB_yes hm
  rw [vecs_len] at h
  exact near_any A c L B d v w hx hy h.1 h.2.1 (by omega) (by omega) (fun u hu => by rw [hd]; exact mayB_len hm u hu) hb hv
set_option maxRecDepth 100000 in
set_option maxHeartbeats 2000000 in
theorem cost_spec : CostSpec := by
  intro A c L B d M w hx hy
  have HA := Lib.hid (mayBeM_any A c L _ rfl w _ hx.rd (by have := hx.len; omega))
  cases hl : likeB (vecs L) 64 with
  | false =>
    have E : mayM (vecs L) (vecs M) = false := mayM_no1 hl
    have E2 : costA (vecs L) (vecs M) = 0 := by unfold costA; rw [E]; rfl
    rw [E, E2]
    rw [hl] at HA
    clear hl E E2 hx hy
    go_enter Try.func18, Try.ntmps18
    go_wp2_with (go_at_call 25; refine HA.out.mono ?_; rintro e w' ⟨rfl, rfl⟩)
    go_ret2
    exact ⟨rfl, Below.refl _ _⟩
  | true =>
    have h1 := likeB_yes hl
    rw [vecs_len] at h1
    have HG := Lib.hid (goWith_any A c L _ rfl B d M _ rfl w _ hx.rd hy.rd h1.1 (by have := hx.len; omega) (by have := hy.len; omega))
    rw [hl] at HA
    rw [mayM_two hl]
    cases hg : withB (vecs L) (vecs M) with
    | false =>
      have E2 : costA (vecs L) (vecs M) = 0 := by unfold costA; rw [mayM_two hl, hg]; rfl
      rw [E2]
      rw [hg] at HG
      clear hl E2 hx hy h1
      go_enter Try.func18, Try.ntmps18
      go_wp2_with (first | (go_at_call 25; refine HA.out.mono ?_; rintro e w' ⟨rfl, rfl⟩) | (go_at_call 29; refine HG.out.mono ?_; rintro e w' ⟨rfl, rfl⟩))
      go_ret2
      exact ⟨rfl, Below.refl _ _⟩
    | true =>
      have hm : mayM (vecs L) (vecs M) = true := by rw [mayM_two hl, hg]
      have E2 : costA (vecs L) (vecs M) = costL (vecs L) (vecs M) := by unfold costA; rw [hm]; rfl
      have hl2 : M.length ≤ 2048 := by have := (mayM_yes hm).2.2.1; rw [vecs_len] at this; exact this
      have HBD := Lib.hid (costL_bd hm hx.b8 hy.b8)
      have HV := Lib.hid (mayM_len hm)
      have HX := Lib.hid hx
      have HY := Lib.hid hy
      have hrx := hx.rd
      have hry := hy.rd
      have H1 := Lib.hid h1
      have HFB : Hid (∀ u ∈ vecs M, 0 ≤ far (vAt (vecs L) (nearestI (vecs L) u)) u ∧ far (vAt (vecs L) (nearestI (vecs L) u)) u ≤ 4161600) := fun u hu => by
        have hn := nearestI_lt (ms := vecs L) u (by rw [vecs_len]; exact h1.1)
        have hd := mayB_yes h1.2.2
        exact far_bd (by rw [mayB_len h1.2.2 _ (vAt_mem hn)]; exact hd.2.2.2.1) (hx.b8 _ (vAt_mem hn)) (hy.b8 u hu)
      rw [E2]
      rw [hg] at HG
      obtain ⟨R, eR⟩ : ∃ R, costL (vecs L) (vecs M) = R := ⟨_, rfl⟩
      rw [eR]
      have ER := Lib.hid eR
      clear hl E2 hx hy h1 hm eR hg
      go_enter Try.func18, Try.ntmps18
      go_wp2_with (first | (go_at_call 25; refine HA.out.mono ?_; rintro e w' ⟨rfl, rfl⟩) | (go_at_call 29; refine HG.out.mono ?_; rintro e w' ⟨rfl, rfl⟩))
      go_loopw [6, 22] (fun s i wr => ∃ k : Nat, k ≤ M.length ∧ i = .int .i64 k ∧ s = .int .i64 (costL (vecs L) ((vecs M).take k)) ∧ Below w.heap.size w wr) (fun _ i _ => M.length - (intOf i).toNat)
      case atStart => exact ⟨0, by omega, rfl, by simp [costL], Below.refl _ _⟩
      case round =>
        clear HA HG
        obtain ⟨k, hk, rfl, rfl, hB⟩ := hrel
        by_cases hlt : k < M.length
        · obtain ⟨b, off, a1, c1, v1, rfl, hBk, hck, hrd, hv1⟩ := (hry.below hB).at_ hlt
          have hmem : v1 ∈ vecs M := List.mem_of_getElem? (vecs_at hv1.out)
          have NE := Lib.hid (near_may A c L a1 c1 v1 wr ((hrx.below hB).more hB.size) (hrd.more hB.size) H1.out.2.1 H1.out.2.2 (HV.out v1 hmem) HX.out.b8 (HY.out.b8 v1 hmem))
          have hfb := HFB.out v1 hmem
          have HS := Lib.hid (costL_take (ms := vecs L) (vecs_at hv1.out))
          have hbd := HBD.out k
          rw [List.length_take] at hbd
          have hbd' : 0 ≤ costL (vecs L) ((vecs M).take k) ∧ costL (vecs L) ((vecs M).take k) ≤ 4161600 * 2048 := by omega
          obtain ⟨S, eS⟩ : ∃ S, costL (vecs L) ((vecs M).take k) = S := ⟨_, rfl⟩
          rw [eS] at HS hbd' ⊢
          obtain ⟨F, eF⟩ : ∃ F, far (vAt (vecs L) (nearestI (vecs L) v1)) v1 = F := ⟨_, rfl⟩
          rw [eF] at HS NE hfb
          obtain ⟨g, eg⟩ : ∃ g, nearestI (vecs L) v1 = g := ⟨_, rfl⟩
          rw [eg] at NE
          clear hbd eS eF eg hrd hv1 hmem
          go_wp2_with (go_at_call 26; refine NE.out.mono ?_; rintro e w' ⟨rfl, hD⟩)
          go_roundw
          case rel => exact ⟨k + 1, by omega, by go_num, by rw [HS.out], hB.trans (hD.mono hB.size)⟩
          case measure => simp [intOf]; omega
        · obtain rfl : k = M.length := by omega
          have hfin := ER.out
          rw [← List.take_of_length_le (l := vecs M) (i := M.length) (by rw [vecs_len]; exact Nat.le_refl _)] at hfin
          rw [hfin]
          clear hfin
          go_wp2
          go_ret2
          exact ⟨rfl, hB⟩
end Go.Proofs.Ytcakmcegcbameaa
