/- Several texts in one. -/
import Derived.Test.YthbimjkcpmffcaaGreatVf
import Derived.Test.YthbimjkcpmffcaaGreatOw
import Derived.Deep.QuietTactic
import Derived.BigQuiet
/- Mathematics of means: the first mean that is nearest to a vector, what vectors cost, groups, a step; and words on lists of vectors of the call's own. -/
namespace Go.Proofs.YthbimjkcpmffcaaGreat
open Go.RowKit
set_option linter.unusedVariables false
def vAt (ms : List (List Int)) (i : Nat) : List Int := ms[i]?.getD []
/-- The best of the first k places, as it is found one by one. -/
def nearI (ms : List (List Int)) (v : List Int) : Nat → Nat
  | 0 => 0
  | k + 1 => if far (vAt ms k) v < far (vAt ms (nearI ms v k)) v then k else nearI ms v k
def nearestI (ms : List (List Int)) (v : List Int) : Nat := nearI ms v ms.length
theorem nearI_one (ms : List (List Int)) (v : List Int) : nearI ms v 1 = 0 := by
  unfold nearI
  simp [nearI]
theorem nearI_lt (ms : List (List Int)) (v : List Int) : ∀ k, 1 ≤ k → nearI ms v k < k
  | 0, h => by omega
  | 1, _ => by rw [nearI_one]; omega
  | k + 2, _ => by
    have := nearI_lt ms v (k + 1) (by omega)
    rw [nearI]
    split <;> omega
theorem nearI_min (ms : List (List Int)) (v : List Int) : ∀ k, (∀ j, j < k → far (vAt ms (nearI ms v k)) v ≤ far (vAt ms j) v) ∧ ∀ j, j < nearI ms v k → far (vAt ms (nearI ms v k)) v < far (vAt ms j) v
  | 0 => ⟨fun j hj => by omega, fun j hj => by simp [nearI] at hj⟩
  | k + 1 => by
    obtain ⟨h1, h2⟩ := nearI_min ms v k
    rw [nearI]
    split
    · rename_i h
      refine ⟨fun j hj => ?_, fun j hj => ?_⟩
      · rcases Nat.lt_or_ge j k with h3 | h3
        · have := h1 j h3; omega
        · obtain rfl : j = k := by omega
          omega
      · have := h1 j hj; omega
    · rename_i h
      refine ⟨fun j hj => ?_, h2⟩
      rcases Nat.lt_or_ge j k with h3 | h3
      · exact h1 j h3
      · obtain rfl : j = k := by omega
        omega
theorem nearestI_lt {ms : List (List Int)} (v : List Int) (h : 1 ≤ ms.length) : nearestI ms v < ms.length := nearI_lt ms v _ h
/-- There is one such place. -/
theorem nearestI_only {ms : List (List Int)} {v : List Int} {b : Nat} (hb : b < ms.length) (h1 : ∀ j, j < ms.length → far (vAt ms b) v ≤ far (vAt ms j) v) (h2 : ∀ j, j < b → far (vAt ms b) v < far (vAt ms j) v) : nearestI ms v = b := by
  obtain ⟨k1, k2⟩ := nearI_min ms v ms.length
  have hl := nearestI_lt v (show 1 ≤ ms.length by omega)
  rcases Nat.lt_trichotomy (nearestI ms v) b with h | h | h
  · have a1 := h2 _ h
    have a2 := k1 b hb
    unfold nearestI at a1
    omega
  · exact h
  · have a1 := k2 b h
    have a2 := h1 _ hl
    unfold nearestI at a2
    omega
/-- What vectors cost. -/
def costL (ms vs : List (List Int)) : Int := (vs.map fun v => far (vAt ms (nearestI ms v)) v).sum
theorem costL_snoc (ms vs : List (List Int)) (v : List Int) : costL ms (vs ++ [v]) = costL ms vs + far (vAt ms (nearestI ms v)) v := by
  unfold costL; simp
/-- The vectors whose nearest mean is the k-th. -/
def groupL (ms vs : List (List Int)) (k : Nat) : List (List Int) := vs.filter fun v => nearestI ms v == k
/-- What stands in place of the k-th mean. -/
def nextM (ms vs : List (List Int)) (k : Nat) : List Int := if groupL ms vs k = [] then vAt ms k else meanL (groupL ms vs k)
def stepL (ms vs : List (List Int)) : List (List Int) := (List.range ms.length).map (nextM ms vs)
theorem stepL_len (ms vs : List (List Int)) : (stepL ms vs).length = ms.length := by simp [stepL]
theorem stepL_take (ms vs : List (List Int)) {k : Nat} (h : k < ms.length) : (stepL ms vs).take (k + 1) = (stepL ms vs).take k ++ [nextM ms vs k] := by
  have hl : k < (stepL ms vs).length := by rw [stepL_len]; exact h
  rw [List.take_add_one, List.getElem?_eq_getElem hl]
  simp [stepL]
/-- May means be, and do vectors go with them? -/
def mayM (ms vs : List (List Int)) : Bool := decide (ms.length ≤ 64 ∧ mayB ms = true ∧ vs.length ≤ 2048 ∧ ∀ i, i < vs.length → (vAt vs i).length = dimOf ms)
theorem mayM_yes {ms vs : List (List Int)} (h : mayM ms vs = true) : ms.length ≤ 64 ∧ mayB ms = true ∧ vs.length ≤ 2048 ∧ ∀ i, i < vs.length → (vAt vs i).length = dimOf ms := of_decide_eq_true h
theorem mayM_no {ms vs : List (List Int)} (h : ¬ (ms.length ≤ 64 ∧ mayB ms = true ∧ vs.length ≤ 2048 ∧ ∀ i, i < vs.length → (vAt vs i).length = dimOf ms)) : mayM ms vs = false := decide_eq_false h
theorem vAt_mem {vs : List (List Int)} {i : Nat} (h : i < vs.length) : vAt vs i ∈ vs := by
  unfold vAt; rw [List.getElem?_eq_getElem h]; exact List.getElem_mem h
theorem mem_vAt {vs : List (List Int)} {v : List Int} (h : v ∈ vs) : ∃ i, i < vs.length ∧ vAt vs i = v := by
  obtain ⟨i, hi, rfl⟩ := List.getElem_of_mem h
  exact ⟨i, hi, by unfold vAt; rw [List.getElem?_eq_getElem hi]; rfl⟩
theorem mayM_len {ms vs : List (List Int)} (h : mayM ms vs = true) : ∀ v ∈ vs, v.length = dimOf ms := fun v hv => by
  obtain ⟨i, hi, rfl⟩ := mem_vAt hv
  exact (mayM_yes h).2.2.2 i hi
theorem mayB_len {ms : List (List Int)} (h : mayB ms = true) : ∀ v ∈ ms, v.length = dimOf ms := fun v hv => by
  obtain ⟨i, hi, rfl⟩ := mem_vAt hv
  exact (mayB_yes h).2.2.2.2 i hi
theorem mayB_of {vs : List (List Int)} {d : Nat} (h1 : 1 ≤ vs.length) (h2 : vs.length ≤ 2048) (hd1 : 1 ≤ d) (hd2 : d ≤ 64) (h : ∀ v ∈ vs, v.length = d) : mayB vs = true ∧ dimOf vs = d := by
  have e : dimOf vs = d := h _ (vAt_mem (show 0 < vs.length by omega))
  exact ⟨decide_eq_true ⟨h1, h2, by omega, by omega, fun i hi => by rw [e]; exact h _ (vAt_mem hi)⟩, e⟩
theorem group_mem {ms vs : List (List Int)} {k : Nat} {v : List Int} (h : v ∈ groupL ms vs k) : v ∈ vs ∧ nearestI ms v = k := by
  unfold groupL at h
  rw [List.mem_filter] at h
  exact ⟨h.1, by simpa using h.2⟩
/-- A group that has vectors has a mean. -/
theorem group_may {ms vs : List (List Int)} (h : mayM ms vs = true) {k : Nat} (hk : groupL ms vs k ≠ []) : mayB (groupL ms vs k) = true ∧ dimOf (groupL ms vs k) = dimOf ms := by
  have h1 := mayM_yes h
  have h2 := mayB_yes h1.2.1
  refine mayB_of ?_ ?_ h2.2.2.1 h2.2.2.2.1 (fun v hv => mayM_len h v (group_mem hv).1)
  · cases hg : groupL ms vs k with
    | nil => exact absurd hg hk
    | cons a l => simp
  · exact Nat.le_trans (List.length_filter_le _ _) h1.2.2.1
theorem mayB_nil : mayB [] = false := mayB_no (fun h => by simp at h)
theorem nextM_len {ms vs : List (List Int)} (h : mayM ms vs = true) {k : Nat} (hk : k < ms.length) : (nextM ms vs k).length = dimOf ms := by
  unfold nextM
  split
  · exact mayB_len (mayM_yes h).2.1 _ (vAt_mem hk)
  · rename_i hg
    rw [meanL_len]; exact (group_may h hg).2
theorem meanL_b8 {vs : List (List Int)} (h1 : 1 ≤ vs.length) (hb : B8 vs) : ∀ x ∈ meanL vs, -128 ≤ x ∧ x ≤ 127 := fun x hx => by
  unfold meanL at hx
  simp only [List.mem_map, List.mem_range] at hx
  obtain ⟨p, _, rfl⟩ := hx
  exact quo_half (by omega) (sumP_bd vs hb p)
theorem nextM_b8 {ms vs : List (List Int)} (hm : B8 ms) (hv : B8 vs) {k : Nat} (hk : k < ms.length) : ∀ x ∈ nextM ms vs k, -128 ≤ x ∧ x ≤ 127 := by
  unfold nextM
  split
  · exact hm _ (vAt_mem hk)
  · rename_i hg
    refine meanL_b8 ?_ (fun v h => hv v (group_mem h).1)
    cases h : groupL ms vs k with
    | nil => exact absurd h hg
    | cons a l => simp
theorem stepL_b8 {ms vs : List (List Int)} (hm : B8 ms) (hv : B8 vs) : B8 (stepL ms vs) := fun v h => by
  unfold stepL at h
  simp only [List.mem_map, List.mem_range] at h
  obtain ⟨k, hk, rfl⟩ := h
  exact nextM_b8 hm hv hk
/-- A step's means may be, too. -/
theorem stepL_may {ms vs : List (List Int)} (h : mayM ms vs = true) : mayM (stepL ms vs) vs = true ∧ dimOf (stepL ms vs) = dimOf ms := by
  have h1 := mayM_yes h
  have h2 := mayB_yes h1.2.1
  have h3 := mayB_of (vs := stepL ms vs) (d := dimOf ms) (by rw [stepL_len]; exact h2.1) (by rw [stepL_len]; omega) h2.2.2.1 h2.2.2.2.1 (fun v hv => by
    unfold stepL at hv
    simp only [List.mem_map, List.mem_range] at hv
    obtain ⟨k, hk, rfl⟩ := hv
    exact nextM_len h hk)
  exact ⟨decide_eq_true ⟨by rw [stepL_len]; exact h1.1, h3.1, h1.2.2.1, fun i hi => by rw [h3.2]; exact h1.2.2.2 i hi⟩, h3.2⟩
/-- So many steps. -/
def stepsL (vs : List (List Int)) : Nat → List (List Int) → List (List Int)
  | 0, ms => ms
  | k + 1, ms => stepL (stepsL vs k ms) vs
/-- The cells of a row of vectors. -/
def cellsV (L : List Vc) : List Value := L.map fun x => .slice x.1 x.2.2.length x.2.1
theorem cellsV_len (L : List Vc) : (cellsV L).length = L.length := by simp [cellsV]
theorem cellsV_snoc (L : List Vc) (x : Vc) : cellsV L ++ [.slice x.1 x.2.2.length x.2.1] = cellsV (L ++ [x]) := by simp [cellsV]
theorem cellsV_at {L : List Vc} {i : Nat} {a : Option Addr} {c : Nat} {v : List Int} (h : L[i]? = some (a, c, v)) : (cellsV L)[i]? = some (.slice a v.length c) := by simp [cellsV, h]
theorem vecs_snoc (L : List Vc) (x : Vc) : vecs (L ++ [x]) = vecs L ++ [x.2.2] := by simp [vecs]
theorem vecs_vAt {L : List Vc} {i : Nat} {a : Option Addr} {c : Nat} {v : List Int} (h : L[i]? = some (a, c, v)) : vAt (vecs L) i = v := by unfold vAt; rw [vecs_at h]; rfl
end Go.Proofs.YthbimjkcpmffcaaGreat
/- The walk of the document's Together (layer 3). -/
namespace Go.Proofs.YthbimjkcpmffcaaGreat
open Go.RowKit
set_option linter.unusedVariables false
set_option maxRecDepth 100000 in
set_option maxHeartbeats 1000000 in
theorem together_any (A : Option Addr) (c : Nat) (L : List Vc) (n : Nat) (hn : n = L.length) (w : World) (B : Nat) (hx : RdV w B A L) (hl : L.length ≤ 140737488355328) :
    Calls Tryz.prog 86 #[.slice A n c] w fun e w' => e = .returned (.bool (mayB (vecs L))) ∧ ∃ nq, w' = w.drewN nq := by
  subst hn
  by_cases h0 : L.length = 0
  · have E := Lib.hid (mayB_no (vs := vecs L) (fun h => by have := h.1; rw [vecs_len] at this; omega))
    rw [h0]
    go_enter Tryz.func86, Tryz.ntmps86
    go_wp2
    go_ret
    exact ⟨retb E.out.symm, 0, rfl⟩
  · have hz : decide ((L.length : Int) < 1) = false := decide_eq_false (by omega)
    by_cases h1 : 2048 < L.length
    · have E := Lib.hid (mayB_no (vs := vecs L) (fun h => by have := h.2.1; rw [vecs_len] at this; omega))
      have hz2 : decide ((2048 : Int) < (L.length : Int)) = true := decide_eq_true (by omega)
      go_enter Tryz.func86, Tryz.ntmps86
      go_wp2
      go_ret
      exact ⟨retb E.out.symm, 0, rfl⟩
    · have hz2 : decide ((2048 : Int) < (L.length : Int)) = false := decide_eq_false (by omega)
      obtain ⟨b, off, a0, c0, v0, rfl, hB, hck, hrd, hv0⟩ := hx.at_ (i := 0) (by omega)
      have D0 := Lib.hid (dim0 hv0.out)
      rw [Nat.add_zero] at hck
      have hpos : 0 < L.length := by omega
      have hle : L.length ≤ 2048 := by omega
      clear h0 h1 hrd
      go_enter Tryz.func86, Tryz.ntmps86
      go_wp2
      go_loopw [3] (fun i wr => ∃ k nq : Nat, k ≤ L.length ∧ i = .int .i64 k ∧ wr = w.drewN nq ∧ Hid (∀ j, j < k → ((vecs L)[j]?.getD []).length = v0.length ∧ 1 ≤ v0.length ∧ v0.length ≤ 64)) (fun i _ => L.length - (intOf i).toNat)
      case atStart => exact ⟨0, 0, by omega, rfl, rfl, (fun j hj => absurd hj (Nat.not_lt_zero _) : ∀ j, j < 0 → ((vecs L)[j]?.getD []).length = v0.length ∧ 1 ≤ v0.length ∧ v0.length ≤ 64)⟩
      case round =>
        obtain ⟨k, nq, hk, rfl, rfl, HK⟩ := hrel
        by_cases hlt : k < L.length
        · obtain ⟨b', off', a1, c1, v1, hA, _, hck1, _, hv1⟩ := hx.at_ hlt
          simp only [Option.some.injEq, Addr.mk.injEq, and_true] at hA
          obtain ⟨rfl, rfl⟩ := hA
          have E0 := Lib.hid (fun (h : ¬ (v1.length = v0.length ∧ 1 ≤ v1.length ∧ v1.length ≤ 64)) => mayB_no (vs := vecs L) (fun h' => h (by
            have q1 := h'.2.2.2.2 k (by rw [vecs_len]; exact hlt)
            have q2 := h'.2.2.1
            have q3 := h'.2.2.2.1
            rw [vecs_at hv1.out] at q1
            rw [D0.out] at q1 q2 q3
            have q4 : v1.length = v0.length := q1
            omega)))
          by_cases g1 : v1.length < 1
          · have e1 : decide ((v1.length : Int) < 1) = true := decide_eq_true (by omega)
            have E := Lib.hid (E0.out (by omega))
            clear E0
            go_wp2
            go_quiet (fail)
            go_wp2
            go_ret
            exact ⟨retb E.out.symm, _, World.drewN_drewN ..⟩
          · have e1 : decide ((v1.length : Int) < 1) = false := decide_eq_false (by omega)
            by_cases g2 : 64 < v1.length
            · have e2 : decide ((64 : Int) < (v1.length : Int)) = true := decide_eq_true (by omega)
              have E := Lib.hid (E0.out (by omega))
              clear E0
              go_wp2
              go_quiet (fail)
              go_wp2
              go_ret
              exact ⟨retb E.out.symm, _, World.drewN_drewN ..⟩
            · have e2 : decide ((64 : Int) < (v1.length : Int)) = false := decide_eq_false (by omega)
              by_cases he : v1.length = v0.length
              · have ne : ((v1.length : Int) != (v0.length : Int)) = false := by simp; omega
                have HN : Hid (∀ j, j < k + 1 → ((vecs L)[j]?.getD []).length = v0.length ∧ 1 ≤ v0.length ∧ v0.length ≤ 64) := fun j hj => by
                  rcases Nat.lt_or_ge j k with h | h
                  · exact HK.out j h
                  · obtain rfl : j = k := by omega
                    rw [vecs_at hv1.out]; exact ⟨he, by omega, by omega⟩
                have HE := Lib.hid he
                clear he E0 g1 g2
                go_wp2
                go_quiet (fail)
                go_wp2
                go_roundw
                case rel => exact ⟨k + 1, _, by omega, by go_num, rfl, HN⟩
                case measure => simp [intOf]; omega
              · have ne : ((v1.length : Int) != (v0.length : Int)) = true := by simp; omega
                have E := Lib.hid (E0.out (by omega))
                clear E0 he g1 g2
                go_wp2
                go_quiet (fail)
                go_wp2
                go_ret
                exact ⟨retb E.out.symm, _, World.drewN_drewN ..⟩
        · obtain rfl : k = L.length := by omega
          have E := Lib.hid (show mayB (vecs L) = true from decide_eq_true ⟨by rw [vecs_len]; omega, by rw [vecs_len]; omega, by rw [D0.out]; exact (HK.out 0 hpos).2.1, by rw [D0.out]; exact (HK.out 0 hpos).2.2, fun i hi => by rw [D0.out]; exact (HK.out i (by rw [vecs_len] at hi; exact hi)).1⟩)
          go_wp2
          go_ret
          exact ⟨retb E.out.symm, _, rfl⟩
end Go.Proofs.YthbimjkcpmffcaaGreat
/- The walks of the document's means: may, nearest (layer 7). -/
namespace Go.Proofs.YthbimjkcpmffcaaGreat
open Go.RowKit
set_option linter.unusedVariables false
theorem RdV.drewN {w : World} {B : Nat} {A : Option Addr} {L : List Vc} (h : RdV w B A L) (n : Nat) : RdV (w.drewN n) B A L := h.below (below_drewN (Below.refl B w) n)
theorem Rd.drewN {k : IntKind} {w : World} {B : Nat} {A : Option Addr} {xs : List Int} (h : Rd k w B A xs) (n : Nat) : Rd k (w.drewN n) B A xs := h.below (below_drewN (Below.refl B w) n)
set_option maxRecDepth 100000 in
set_option maxHeartbeats 1000000 in
theorem may_any (A : Option Addr) (c : Nat) (L : List Vc) (n : Nat) (hn : n = L.length) (B : Option Addr) (d : Nat) (M : List Vc) (m : Nat) (hm : m = M.length) (w : World) (D : Nat) (hx : RdV w D A L) (hy : RdV w D B M) (hl : L.length ≤ 140737488355328) (hl2 : M.length ≤ 140737488355328) :
    Calls Tryz.prog 94 #[.slice A n c, .slice B m d] w fun e w' => e = .returned (.bool (mayM (vecs L) (vecs M))) ∧ ∃ nq, w' = w.drewN nq := by
  subst hn hm
  by_cases h0 : 64 < L.length
  · have E := Lib.hid (mayM_no (ms := vecs L) (vs := vecs M) (fun h => by have := h.1; rw [vecs_len] at this; omega))
    have hz : decide ((64 : Int) < (L.length : Int)) = true := decide_eq_true (by omega)
    go_enter Tryz.func94, Tryz.ntmps94
    go_wp2
    go_ret
    exact ⟨retb E.out.symm, 0, rfl⟩
  · have hz : decide ((64 : Int) < (L.length : Int)) = false := decide_eq_false (by omega)
    have H := Lib.hid (together_any A c L _ rfl w D hx hl)
    cases hb : mayB (vecs L) with
    | false =>
      have E := Lib.hid (mayM_no (ms := vecs L) (vs := vecs M) (fun h => by have := h.2.1; rw [hb] at this; cases this))
      rw [hb] at H
      clear hb hx hy
      go_enter Tryz.func94, Tryz.ntmps94
      go_wp2_with fail
      refine H.out.mono ?_
      rintro e w' ⟨rfl, nq, rfl⟩
      go_wp2
      go_ret
      exact ⟨retb E.out.symm, _, rfl⟩
    | true =>
      rw [hb] at H
      have hmb := mayB_yes hb
      have hd2 := hmb.1
      rw [vecs_len] at hd2
      by_cases h1 : 2048 < M.length
      · have E := Lib.hid (mayM_no (ms := vecs L) (vs := vecs M) (fun h => by have := h.2.2.1; rw [vecs_len] at this; omega))
        have hz2 : decide ((2048 : Int) < (M.length : Int)) = true := decide_eq_true (by omega)
        clear hx hy hmb
        go_enter Tryz.func94, Tryz.ntmps94
        go_wp2_with fail
        refine H.out.mono ?_
        rintro e w' ⟨rfl, nq, rfl⟩
        go_wp2
        go_ret
        exact ⟨retb E.out.symm, _, rfl⟩
      · have hz2 : decide ((2048 : Int) < (M.length : Int)) = false := decide_eq_false (by omega)
        obtain ⟨b, off, a0, c0, v0, rfl, hB, hck, hrd, hv0⟩ := hx.at_ (i := 0) (by omega)
        have D0 := Lib.hid (dim0 hv0.out)
        rw [Nat.add_zero] at hck
        have HMB := Lib.hid hb
        clear hrd hmb hb
        go_enter Tryz.func94, Tryz.ntmps94
        go_wp2_with fail
        refine H.out.mono ?_
        rintro e w' ⟨rfl, nq0, rfl⟩
        have hck2 : (w.drewN nq0).cell? ⟨b, off, none⟩ = some (.slice a0 v0.length c0) := hck
        have hy2 := hy.drewN nq0
        have HW := Lib.hid (show ∃ q, w.drewN nq0 = w.drewN q from ⟨_, rfl⟩)
        obtain ⟨W0, eW⟩ : ∃ W0, w.drewN nq0 = W0 := ⟨_, rfl⟩
        rw [eW] at hck2 hy2 HW ⊢
        clear eW hck hy H
        go_wp2
        go_loopw [5] (fun i wr => ∃ k nq : Nat, k ≤ M.length ∧ i = .int .i64 k ∧ wr = W0.drewN nq ∧ Hid (∀ j, j < k → (vAt (vecs M) j).length = v0.length)) (fun i _ => M.length - (intOf i).toNat)
        case atStart => exact ⟨0, 0, by omega, rfl, rfl, (fun j hj => absurd hj (Nat.not_lt_zero _) : ∀ j, j < 0 → (vAt (vecs M) j).length = v0.length)⟩
        case round =>
          obtain ⟨k, nq, hk, rfl, rfl, HK⟩ := hrel
          by_cases hlt : k < M.length
          · obtain ⟨b', off', a1, c1, v1, rfl, hB1, hck1, _, hv1⟩ := hy2.at_ hlt
            have g1 : (0 : Int) ≤ (k : Int) := by omega
            have g2 : (k : Int) < (M.length : Int) := by omega
            by_cases he : v1.length = v0.length
            · have ne : ((v1.length : Int) != (v0.length : Int)) = false := by simp; omega
              have HN : Hid (∀ j, j < k + 1 → (vAt (vecs M) j).length = v0.length) := fun j hj => by
                rcases Nat.lt_or_ge j k with h | h
                · exact HK.out j h
                · obtain rfl : j = k := by omega
                  rw [vecs_vAt hv1.out]; exact he
              clear he
              go_wp2
              go_quiet (fail)
              go_wp2
              go_roundw
              case rel => exact ⟨k + 1, _, by omega, by go_num, rfl, HN⟩
              case measure => simp [intOf]; omega
            · have ne : ((v1.length : Int) != (v0.length : Int)) = true := by simp; omega
              have E := Lib.hid (mayM_no (ms := vecs L) (vs := vecs M) (fun h => he (by
                have := h.2.2.2 k (by rw [vecs_len]; exact hlt)
                rw [vecs_vAt hv1.out, D0.out] at this; exact this)))
              clear he
              go_wp2
              go_quiet (fail)
              go_wp2
              go_ret
              obtain ⟨q, hq⟩ := HW.out
              exact ⟨retb E.out.symm, q + _, by rw [hq, World.drewN_drewN, World.drewN_drewN]⟩
          · obtain rfl : k = M.length := by omega
            have E := Lib.hid (show mayM (vecs L) (vecs M) = true from decide_eq_true ⟨by rw [vecs_len]; omega, HMB.out, by rw [vecs_len]; omega, fun i hi => by rw [D0.out]; exact HK.out i (by rw [vecs_len] at hi; exact hi)⟩)
            go_wp2
            go_ret
            obtain ⟨q, hq⟩ := HW.out
            exact ⟨retb E.out.symm, q + nq, by rw [hq, World.drewN_drewN]⟩
set_option maxRecDepth 100000 in
set_option maxHeartbeats 1000000 in
theorem nearest_any (A : Option Addr) (c : Nat) (L : List Vc) (n : Nat) (hn : n = L.length) (B : Option Addr) (d : Nat) (v : List Int) (m : Nat) (hm : m = v.length) (w : World) (D : Nat) (hx : RdV w D A L) (hy : Rd .i8 w D B v) (h1 : 1 ≤ L.length) (h2 : L.length ≤ 2048) (hd : v.length ≤ 64) (hlen : ∀ u ∈ vecs L, u.length = v.length) (hb : B8 (vecs L)) (hv : ∀ x ∈ v, -128 ≤ x ∧ x ≤ 127) :
    Calls Tryz.prog 95 #[.slice A n c, .slice B m d] w fun e w' => e = .returned (.int .i64 (nearestI (vecs L) v : Nat)) ∧ ∃ nq, w' = w.drewN nq := by
  subst hn hm
  have HB := Lib.hid hb
  have HL := Lib.hid hlen
  have HV := Lib.hid hv
  clear hb hlen hv
  have E0 : nearI (vecs L) v L.length = nearestI (vecs L) v := by unfold nearestI; rw [vecs_len]
  obtain ⟨R, eR⟩ : ∃ R, nearestI (vecs L) v = R := ⟨_, rfl⟩
  rw [eR] at E0 ⊢
  have ER := Lib.hid E0
  clear E0 eR
  go_enter Tryz.func95, Tryz.ntmps95
  go_wp2
  go_loopw [5, 6] (fun s i wr => ∃ k nq : Nat, 1 ≤ k ∧ k ≤ L.length ∧ i = .int .i64 k ∧ s = .int .i64 (nearI (vecs L) v k : Nat) ∧ Hid (wr = w.drewN nq)) (fun _ i _ => L.length - (intOf i).toNat)
  case atStart => exact ⟨1, 0, by omega, by omega, rfl, by rw [nearI_one]; rfl, rfl⟩
  case round =>
    obtain ⟨k, nq, hk1, hk, rfl, rfl, hwr⟩ := hrel
    by_cases hlt : k < L.length
    · have hx' : RdV wr D A L := by rw [hwr.out]; exact hx.drewN nq
      have hy' : Rd .i8 wr D B v := by rw [hwr.out]; exact hy.drewN nq
      have hbl := nearI_lt (vecs L) v k hk1
      have hstep : nearI (vecs L) v (k + 1) = if far (vAt (vecs L) k) v < far (vAt (vecs L) (nearI (vecs L) v k)) v then k else nearI (vecs L) v k := rfl
      obtain ⟨b, off, a1, c1, v1, rfl, hBk, hck, hrd, hv1⟩ := hx'.at_ hlt
      have HS := Lib.hid hstep
      clear hstep
      obtain ⟨g, eg⟩ : ∃ g, nearI (vecs L) v k = g := ⟨_, rfl⟩
      rw [eg] at hbl HS ⊢
      clear eg
      obtain ⟨b', off', a2, c2, v2, hA, hBg, hcg, hrg, hv2⟩ := hx'.at_ (i := g) (by omega)
      simp only [Option.some.injEq, Addr.mk.injEq, and_true] at hA
      obtain ⟨rfl, rfl⟩ := hA
      have l1 : v1.length = v.length := HL.out v1 (List.mem_of_getElem? (vecs_at hv1.out))
      have l2 : v2.length = v.length := HL.out v2 (List.mem_of_getElem? (vecs_at hv2.out))
      have F1 := fun q => refFar_any a1 B c1 d v1 v (by omega) l1.symm (wr.drewN q) D (hrd.drewN q) (hy'.drewN q) (b8_at HB.out (vecs_at hv1.out)) HV.out
      have F2 := fun q => refFar_any a2 B c2 d v2 v (by omega) l2.symm (wr.drewN q) D (hrg.drewN q) (hy'.drewN q) (b8_at HB.out (vecs_at hv2.out)) HV.out
      rw [vecs_vAt hv1.out, vecs_vAt hv2.out] at HS
      rw [l1] at F1 hck
      rw [l2] at F2 hcg
      have FA := Lib.hid F1
      have FB := Lib.hid F2
      clear F1 F2 hrd hrg hv1 hv2 l1 l2 hx' hy'
      obtain ⟨x, ex⟩ : ∃ x, far v1 v = x := ⟨_, rfl⟩
      obtain ⟨y, ey⟩ : ∃ y, far v2 v = y := ⟨_, rfl⟩
      rw [ex] at FA HS
      rw [ey] at FB HS
      clear ex ey
      have g1 : (0 : Int) ≤ (k : Int) := by omega
      have g2 : (k : Int) < (L.length : Int) := by omega
      have g3 : (0 : Int) ≤ (g : Int) := by omega
      have g4 : (g : Int) < (L.length : Int) := by omega
      by_cases hxy : x < y
      · have e1 : decide (x < y) = true := decide_eq_true hxy
        rw [if_pos hxy] at HS
        clear hxy
        go_wp2
        go_quiet ((go_at_call 36; first | with_reducible exact Calls.quiet_of (FA.out _) | with_reducible exact Calls.quiet_of (FB.out _)))
        go_wp2
        go_roundw
        case rel => exact ⟨k + 1, _, by omega, by omega, by go_num, by rw [HS.out], Lib.hid ((congrArg (fun W => World.drewN W _) hwr.out).trans (World.drewN_drewN ..))⟩
        case measure => simp [intOf]; omega
      · have e1 : decide (x < y) = false := decide_eq_false hxy
        rw [if_neg hxy] at HS
        clear hxy
        go_wp2
        go_quiet ((go_at_call 36; first | with_reducible exact Calls.quiet_of (FA.out _) | with_reducible exact Calls.quiet_of (FB.out _)))
        go_wp2
        go_roundw
        case rel => exact ⟨k + 1, _, by omega, by omega, by go_num, by rw [HS.out], Lib.hid ((congrArg (fun W => World.drewN W _) hwr.out).trans (World.drewN_drewN ..))⟩
        case measure => simp [intOf]; omega
    · obtain rfl : k = L.length := by omega
      rw [ER.out]
      go_wp2
      go_ret
      exact ⟨rfl, nq, hwr.out⟩
end Go.Proofs.YthbimjkcpmffcaaGreat
