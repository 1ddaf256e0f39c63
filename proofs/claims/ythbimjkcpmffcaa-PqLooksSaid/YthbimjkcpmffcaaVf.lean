/- The walks of layer 3 (vec) on means: mayBe, sumAt, quotient, Mean. -/
import Derived.Test.YthbimjkcpmffcaaVd
namespace Go.Proofs.Ythbimjkcpmffcaa
open Go.RowKit Go.Shelf
set_option linter.unusedVariables false
/-- A slice that is an element of a slice: where it lies, its room, its numbers. -/
abbrev Vc := Option Addr × Nat × List Int
def vNil : Vc := (none, 0, [])
/-- A slice value at A reads, in w, as the vectors L; where it has one it lies below block B, and so do they. -/
def RdV (w : World) (B : Nat) (A : Option Addr) (L : List Vc) : Prop :=
  0 < L.length → ∃ b off, A = some ⟨b, off, none⟩ ∧ b < B ∧ ∀ i, i < L.length → w.cell? ⟨b, off + i, none⟩ = some (.slice (L[i]?.getD vNil).1 (L[i]?.getD vNil).2.2.length (L[i]?.getD vNil).2.1) ∧ Rd .i8 w B (L[i]?.getD vNil).1 (L[i]?.getD vNil).2.2
theorem RdV.at_ {w : World} {B : Nat} {A : Option Addr} {L : List Vc} (h : RdV w B A L) {i : Nat} (hi : i < L.length) :
    ∃ b off a c v, A = some ⟨b, off, none⟩ ∧ b < B ∧ w.cell? ⟨b, off + i, none⟩ = some (.slice a v.length c) ∧ Rd .i8 w B a v ∧ Hid (L[i]? = some (a, c, v)) := by
  obtain ⟨b, off, hA, hB, hc⟩ := h (by omega)
  refine ⟨b, off, (L[i]?.getD vNil).1, (L[i]?.getD vNil).2.1, (L[i]?.getD vNil).2.2, hA, hB, (hc i hi).1, (hc i hi).2, (by simp [List.getElem?_eq_getElem hi] : L[i]? = some ((L[i]?.getD vNil).1, (L[i]?.getD vNil).2.1, (L[i]?.getD vNil).2.2))⟩
theorem RdV.below {w w' : World} {B : Nat} {A : Option Addr} {L : List Vc} (h : RdV w B A L) (hb : Below B w w') : RdV w' B A L := fun hl => by
  obtain ⟨b, off, hA, hB, hc⟩ := h hl
  exact ⟨b, off, hA, hB, fun i hi => ⟨(hb.cell (p := ⟨b, off + i, none⟩) hB).trans (hc i hi).1, (hc i hi).2.below hb⟩⟩
theorem RdV.more {w : World} {B B' : Nat} {A : Option Addr} {L : List Vc} (h : RdV w B A L) (hB : B ≤ B') : RdV w B' A L := fun hl => by
  obtain ⟨b, off, hA, hb, hc⟩ := h hl
  exact ⟨b, off, hA, by omega, fun i hi => ⟨(hc i hi).1, (hc i hi).2.more hB⟩⟩
/-- The vectors themselves. -/
def vecs (L : List Vc) : List (List Int) := L.map (·.2.2)
theorem vecs_len (L : List Vc) : (vecs L).length = L.length := by simp [vecs]
theorem vecs_at {L : List Vc} {i : Nat} {a : Option Addr} {c : Nat} {v : List Int} (h : L[i]? = some (a, c, v)) : (vecs L)[i]? = some v := by simp [vecs, h]
/-- How many numbers the first vector has. -/
def dimOf (vs : List (List Int)) : Nat := (vs[0]?.getD []).length
/-- May a mean be told of these vectors? -/
def mayB (vs : List (List Int)) : Bool := decide (1 ≤ vs.length ∧ vs.length ≤ 2048 ∧ 1 ≤ dimOf vs ∧ dimOf vs ≤ 64 ∧ ∀ i, i < vs.length → (vs[i]?.getD []).length = dimOf vs)
theorem mayB_no {vs : List (List Int)} (h : ¬ (1 ≤ vs.length ∧ vs.length ≤ 2048 ∧ 1 ≤ dimOf vs ∧ dimOf vs ≤ 64 ∧ ∀ i, i < vs.length → (vs[i]?.getD []).length = dimOf vs)) : mayB vs = false := decide_eq_false h
theorem dim0 {L : List Vc} {a : Option Addr} {c : Nat} {v : List Int} (h : L[0]? = some (a, c, v)) : dimOf (vecs L) = v.length := by
  unfold dimOf; rw [vecs_at h]; rfl
set_option maxHeartbeats 400000 in
theorem mayBe_any (A : Option Addr) (c : Nat) (L : List Vc) (n : Nat) (hn : n = L.length) (w : World) (B : Nat) (hx : RdV w B A L) (hl : L.length ≤ 140737488355328) :
    Calls Try.prog 176 #[.slice A n c] w fun e w' => e = .returned (.bool (mayB (vecs L))) ∧ w = w' := by
  subst hn
  by_cases h0 : L.length = 0
  · have E := Lib.hid (mayB_no (vs := vecs L) (fun h => by have := h.1; rw [vecs_len] at this; omega))
    rw [h0]
    go_enter Try.func176, Try.ntmps176
    go_wp2
    go_ret
    exact ⟨retb E.out.symm, rfl⟩
  · by_cases h1 : 2048 < L.length
    · have E := Lib.hid (mayB_no (vs := vecs L) (fun h => by have := h.2.1; rw [vecs_len] at this; omega))
      have hz : ((L.length : Int) == 0) = false := by rw [beq_eq_false_iff_ne]; omega
      go_enter Try.func176, Try.ntmps176
      go_wp2
      go_ret
      exact ⟨retb E.out.symm, rfl⟩
    · have hz : ((L.length : Int) == 0) = false := by rw [beq_eq_false_iff_ne]; omega
      obtain ⟨b, off, a0, c0, v0, rfl, hB, hck, hrd, hv0⟩ := hx.at_ (i := 0) (by omega)
      have D0 := Lib.hid (dim0 hv0.out)
      have H := Lib.hid (isDim_any v0.length w)
      have hpos : 0 < L.length := by omega
      have hle : L.length ≤ 2048 := by omega
      have hle' : decide (2048 < (L.length : Int)) = false := decide_eq_false (by omega)
      rw [Nat.add_zero] at hck
      clear h0 h1 hrd
      cases hd : dimB v0.length with
      | false =>
        have E := Lib.hid (mayB_no (vs := vecs L) (by
          have : ¬ (1 ≤ (v0.length : Int) ∧ (v0.length : Int) ≤ 64) := by simpa [dimB] using hd
          intro h
          have h1 := h.2.2.1
          have h2 := h.2.2.2.1
          rw [D0.out] at h1 h2
          omega))
        rw [hd] at H
        clear hd
        go_enter Try.func176, Try.ntmps176
        go_wp2_with fail
        refine H.out.mono ?_
        rintro e w' ⟨rfl, rfl⟩
        go_wp2
        go_ret
        exact ⟨retb E.out.symm, rfl⟩
      | true =>
        have hdd : 1 ≤ v0.length ∧ v0.length ≤ 64 := by
          have : 1 ≤ (v0.length : Int) ∧ (v0.length : Int) ≤ 64 := by simpa [dimB] using hd
          omega
        rw [hd] at H
        clear hd
        go_enter Try.func176, Try.ntmps176
        go_wp2_with fail
        refine H.out.mono ?_
        rintro e w' ⟨rfl, rfl⟩
        go_wp2
        go_loop [23] (fun i => ∃ k : Nat, k ≤ L.length ∧ i = .int .i64 k ∧ Hid (∀ j, j < k → ((vecs L)[j]?.getD []).length = v0.length)) (fun i => L.length - (intOf i).toNat)
        case atStart => exact ⟨0, by omega, rfl, (fun j hj => absurd hj (Nat.not_lt_zero _) : ∀ j, j < 0 → ((vecs L)[j]?.getD []).length = v0.length)⟩
        case round =>
          obtain ⟨k, hk, rfl, HK⟩ := hrel
          by_cases hlt : k < L.length
          · obtain ⟨b', off', a1, c1, v1, hA, _, hck1, _, hv1⟩ := hx.at_ hlt
            simp only [Option.some.injEq, Addr.mk.injEq, and_true] at hA
            obtain ⟨rfl, rfl⟩ := hA
            by_cases he : v1.length = v0.length
            · have ne : ((v1.length : Int) != (v0.length : Int)) = false := by simp; omega
              have HN : Hid (∀ j, j < k + 1 → ((vecs L)[j]?.getD []).length = v0.length) := fun j hj => by
                rcases Nat.lt_or_ge j k with h | h
                · exact HK.out j h
                · obtain rfl : j = k := by omega
                  rw [vecs_at hv1.out]; exact he
              have HE := Lib.hid he
              clear he
              go_wp2
              go_round
              case rel => exact ⟨k + 1, by omega, by go_num, HN⟩
              case measure => simp [intOf]; omega
            · have ne : ((v1.length : Int) != (v0.length : Int)) = true := by simp; omega
              have E := Lib.hid (mayB_no (vs := vecs L) (fun h => he (by
                have := h.2.2.2.2 k (by rw [vecs_len]; exact hlt)
                rw [vecs_at hv1.out, D0.out] at this; exact this)))
              clear he
              go_wp2
              go_ret
              exact ⟨retb E.out.symm, rfl⟩
          · obtain rfl : k = L.length := by omega
            have E := Lib.hid (show mayB (vecs L) = true from decide_eq_true ⟨by rw [vecs_len]; omega, by rw [vecs_len]; omega, by rw [D0.out]; omega, by rw [D0.out]; omega, fun i hi => by rw [D0.out]; exact HK.out i (by rw [vecs_len] at hi; exact hi)⟩)
            go_wp2
            go_ret
            exact ⟨retb E.out.symm, rfl⟩
/-- The sum of the vectors' numbers at a place. -/
def sumP (vs : List (List Int)) (p : Nat) : Int := (vs.map fun v => v[p]?.getD 0).sum
theorem sumP_take (vs : List (List Int)) (p k : Nat) (v : List Int) (x : Int) (h : vs[k]? = some v) (hx : v[p]?.getD 0 = x) : sumP (vs.take (k + 1)) p = sumP (vs.take k) p + x := by
  have hk : k < vs.length := (List.getElem?_eq_some_iff.1 h).1
  unfold sumP
  rw [List.take_succ_eq_append_getElem hk, List.map_append, List.sum_append]
  rw [List.getElem?_eq_getElem hk] at h
  simp only [Option.some.injEq] at h
  rw [h]; simp [hx]
/-- All numbers are of an int8. -/
def B8 (vs : List (List Int)) : Prop := ∀ v ∈ vs, ∀ x ∈ v, -128 ≤ x ∧ x ≤ 127
theorem getD_bd {v : List Int} (h : ∀ x ∈ v, -128 ≤ x ∧ x ≤ 127) (p : Nat) : -128 ≤ v[p]?.getD 0 ∧ v[p]?.getD 0 ≤ 127 := by
  rcases Nat.lt_or_ge p v.length with h1 | h1
  · rw [List.getElem?_eq_getElem h1]; exact h _ (List.getElem_mem _)
  · rw [List.getElem?_eq_none h1]; simp
theorem sumP_bd (vs : List (List Int)) (h : B8 vs) (p : Nat) : -128 * (vs.length : Int) ≤ sumP vs p ∧ sumP vs p ≤ 127 * (vs.length : Int) := by
  induction vs with
  | nil => simp [sumP]
  | cons v r ih =>
    have h1 := ih (fun u hu => h u (by simp [hu]))
    have h2 := getD_bd (h v (by simp)) p
    have e : sumP (v :: r) p = v[p]?.getD 0 + sumP r p := by unfold sumP; simp
    rw [e]; simp only [List.length_cons]; omega
theorem b8_take {vs : List (List Int)} (h : B8 vs) (k : Nat) : B8 (vs.take k) := fun v hv => h v (List.mem_of_mem_take hv)
theorem b8_at {vs : List (List Int)} (h : B8 vs) {i : Nat} {v : List Int} (hi : vs[i]? = some v) : ∀ x ∈ v, -128 ≤ x ∧ x ≤ 127 := h v (List.mem_of_getElem? hi)
set_option maxHeartbeats 400000 in
theorem sumAt_any (A : Option Addr) (c p : Nat) (L : List Vc) (n : Nat) (hn : n = L.length) (w : World) (B : Nat) (hx : RdV w B A L) (hl : L.length ≤ 2048) (hb : B8 (vecs L)) (hp : ∀ i, i < L.length → p < ((vecs L)[i]?.getD []).length) :
    Calls Try.prog 178 #[.slice A n c, .int .i64 p] w fun e w' => e = .returned (.int .i64 (sumP (vecs L) p)) ∧ w = w' := by
  subst hn
  have HB := Lib.hid hb
  have HP := Lib.hid hp
  clear hb hp
  go_enter Try.func178, Try.ntmps178
  go_wp2
  go_loop [5, 10] (fun s i => ∃ k : Nat, k ≤ L.length ∧ i = .int .i64 k ∧ s = .int .i64 (sumP ((vecs L).take k) p)) (fun _ i => L.length - (intOf i).toNat)
  case atStart => exact ⟨0, by omega, rfl, by simp [sumP]⟩
  case round =>
    obtain ⟨k, hk, rfl, rfl⟩ := hrel
    by_cases hlt : k < L.length
    · obtain ⟨b, off, a1, c1, v1, rfl, hB, hck, hrd, hv1⟩ := hx.at_ hlt
      have hp1 : p < v1.length := by have := HP.out k hlt; rw [vecs_at hv1.out] at this; exact this
      obtain ⟨b', off', x, rfl, hB', hcx, hvx⟩ := hrd.at_ hp1
      have hbx : -128 ≤ x ∧ x ≤ 127 := by rw [← hvx.out]; exact getD_bd (b8_at HB.out (vecs_at hv1.out)) p
      have HS := Lib.hid (sumP_take (vecs L) p k v1 x (vecs_at hv1.out) hvx.out)
      have hs := sumP_bd _ (b8_take HB.out k) p
      rw [List.length_take] at hs
      have hs' : -128 * 2048 ≤ sumP ((vecs L).take k) p ∧ sumP ((vecs L).take k) p ≤ 127 * 2048 := by omega
      clear hs hvx hv1
      generalize sumP ((vecs L).take k) p = S at hs' HS ⊢
      go_wp2
      go_round
      case rel => exact ⟨k + 1, by omega, by go_num, by rw [HS.out]⟩
      case measure => simp [intOf]; omega
    · have e : (vecs L).take k = vecs L := List.take_of_length_le (by rw [vecs_len]; omega)
      rw [e]
      clear e
      go_wp2
      go_ret
      exact ⟨rfl, rfl⟩
/-- The whole number nearest to s / c, of two as near the one farther from 0. -/
def quo (s c : Int) : Int := if s < 0 then -((2 * -s + c) / (2 * c)) else (2 * s + c) / (2 * c)
theorem quo_half {s c : Int} (hc : 1 ≤ c) (h : -128 * c ≤ s ∧ s ≤ 127 * c) : -128 ≤ quo s c ∧ quo s c ≤ 127 := by
  unfold quo
  split
  · have h1 : (2 * -s + c) / (2 * c) < 129 := Int.ediv_lt_of_lt_mul (by omega) (by omega)
    have h2 : 0 ≤ (2 * -s + c) / (2 * c) := Int.ediv_nonneg (by omega) (by omega)
    omega
  · have h1 : (2 * s + c) / (2 * c) < 128 := Int.ediv_lt_of_lt_mul (by omega) (by omega)
    have h2 : 0 ≤ (2 * s + c) / (2 * c) := Int.ediv_nonneg (by omega) (by omega)
    omega
theorem quotient_pos (s c : Int) (hs : 0 ≤ s) (hs2 : s ≤ 1000000) (hc : 1 ≤ c) (hc2 : c ≤ 2048) (w : World) : Calls Try.prog 177 #[.int .i64 s, .int .i64 c] w fun e w' => e = .returned (.int .i64 ((2 * s + c) / (2 * c))) ∧ w = w' := by
  have h1 : ¬ s < 0 := by omega
  have h2 : (2 * c == 0) = false := by simp; omega
  go_enter Try.func177, Try.ntmps177
  go_wp2
  go_ret
  exact ⟨rfl, rfl⟩
theorem quotient_any (s c : Int) (hs : -1000000 ≤ s) (hs2 : s ≤ 1000000) (hc : 1 ≤ c) (hc2 : c ≤ 2048) (w : World) : Calls Try.prog 177 #[.int .i64 s, .int .i64 c] w fun e w' => e = .returned (.int .i64 (quo s c)) ∧ w = w' := by
  by_cases h : s < 0
  · have H := Lib.hid (quotient_pos (-s) c (by omega) (by omega) hc hc2 w)
    have E := Lib.hid (show quo s c = -((2 * -s + c) / (2 * c)) from if_pos h)
    have h1 : (2 * -s + c) / (2 * c) ≤ 2 * -s + c := Int.ediv_le_self _ (by omega)
    have h2 : 0 ≤ (2 * -s + c) / (2 * c) := Int.ediv_nonneg (by omega) (by omega)
    generalize (2 * -s + c) / (2 * c) = q at H E h1 h2
    go_enter Try.func177, Try.ntmps177
    go_wp2_with fail
    refine H.out.mono ?_
    rintro e w' ⟨rfl, rfl⟩
    go_wp2
    go_ret
    exact ⟨ret1 E.out.symm, rfl⟩
  · have := quotient_pos s c (by omega) hs2 hc hc2 w
    rw [show (2 * s + c) / (2 * c) = quo s c from (if_neg h).symm] at this
    exact this
/-- The mean of vectors, number by number. -/
def meanL (vs : List (List Int)) : List Int := (List.range (dimOf vs)).map fun p => quo (sumP vs p) vs.length
theorem meanL_len (vs : List (List Int)) : (meanL vs).length = dimOf vs := by simp [meanL]
theorem mayB_yes {vs : List (List Int)} (h : mayB vs = true) : 1 ≤ vs.length ∧ vs.length ≤ 2048 ∧ 1 ≤ dimOf vs ∧ dimOf vs ≤ 64 ∧ ∀ i, i < vs.length → (vs[i]?.getD []).length = dimOf vs := of_decide_eq_true h
theorem mean_no (A : Option Addr) (c : Nat) (L : List Vc) (n : Nat) (hn : n = L.length) (w : World) (B : Nat) (hx : RdV w B A L) (hl : L.length ≤ 140737488355328) (h : mayB (vecs L) = false) :
    Calls Try.prog 168 #[.slice A n c] w fun e w' => e = .returned (.tuple #[.slice none 0 0, .int .i64 1]) ∧ w = w' := by
  have H := Lib.hid (mayBe_any A c L n hn w B hx hl)
  rw [h] at H
  clear hx hn h
  go_enter Try.func168, Try.ntmps168
  go_wp2_with fail
  refine H.out.mono ?_
  rintro e w' ⟨rfl, rfl⟩
  go_wp2
  go_ret2
  exact ⟨rfl, rfl⟩
/-- The row as it stands when k of its places are told. -/
def rowTo (m : List Int) (k : Nat) : List Int := m.take k ++ List.replicate (m.length - k) 0
theorem rowTo_len (m : List Int) (k : Nat) (h : k ≤ m.length) : (rowTo m k).length = m.length := by simp [rowTo]; omega
theorem rowTo_step (m : List Int) (k : Nat) (v : Int) (h : k < m.length) (hv : m[k]?.getD 0 = v) : ((rowTo m k).map (Value.int .i8)).set k (.int .i8 v) = (rowTo m (k + 1)).map (Value.int .i8) := by
  rw [← List.map_set]
  congr 1
  unfold rowTo
  rw [List.set_append_right (h := by rw [List.length_take]; omega), List.length_take, show k - min k m.length = 0 by omega]
  rw [show m.length - k = (m.length - (k + 1)) + 1 by omega, List.replicate_succ, List.set_cons_zero]
  rw [List.take_succ_eq_append_getElem h, List.append_assoc, List.singleton_append]
  rw [List.getElem?_eq_getElem h] at hv
  simp at hv
  rw [hv]
set_option maxRecDepth 100000 in
set_option maxHeartbeats 1000000 in
theorem mean_yes (A : Option Addr) (c : Nat) (L : List Vc) (n : Nat) (hn : n = L.length) (w : World) (hx : RdV w w.heap.size A L) (h : mayB (vecs L) = true) (hb : B8 (vecs L)) :
    Calls Try.prog 168 #[.slice A n c] w fun e w' => e = .returned (.tuple #[.slice (some ⟨w.heap.size, 0, none⟩) (dimOf (vecs L)) (dimOf (vecs L)), .int .i64 0]) ∧
      w'.ownsRow w.heap.size 79 1 (.slice (some ⟨w.heap.size, 0, none⟩) (dimOf (vecs L)) (dimOf (vecs L))) (dimOf (vecs L)) ((meanL (vecs L)).map (Value.int .i8)) ∧ Below w.heap.size w w' := by
  subst hn
  have hm := mayB_yes h
  rw [vecs_len] at hm
  have hl1 : 1 ≤ L.length := hm.1
  have hl2 : L.length ≤ 2048 := hm.2.1
  have hd1 : 1 ≤ dimOf (vecs L) := hm.2.2.1
  have hd2 : dimOf (vecs L) ≤ 64 := hm.2.2.2.1
  have HM := Lib.hid hm.2.2.2.2
  have H := Lib.hid (mayBe_any A c L _ rfl w _ hx (by omega))
  rw [h] at H
  obtain ⟨b, off, a0, c0, v0, rfl, hB, hck, hrd, hv0⟩ := hx.at_ (i := 0) (by omega)
  rw [Nat.add_zero] at hck
  have D0 := dim0 hv0.out
  obtain ⟨D, hD⟩ : ∃ D, dimOf (vecs L) = D := ⟨_, rfl⟩
  have E0 := Lib.hid (show v0.length = D by rw [← D0, hD])
  rw [E0.out] at hck
  rw [hD] at hd1 hd2 HM ⊢
  have HLEN := Lib.hid (show (meanL (vecs L)).length = D by rw [meanL_len, hD])
  have HBD := Lib.hid hb
  clear h hm D0 hrd hv0 E0 hb
  have HDD := Lib.hid hD
  clear hD
  obtain ⟨i0, hi, hz0, hz1, hz2⟩ := info_parts Try.info79
  go_enter Try.func168, Try.ntmps168
  go_wp2_with fail
  refine H.out.mono ?_
  rintro e w' ⟨rfl, rfl⟩
  go_wp2_with (at_make; refine wpList_make_full _ rfl _ _ 30 rfl w.heap.size 79 i0 (.int .i8 0) 1 Try.underlying30 hi hz0 hz1 _ _ _ _ D rfl rfl rfl rfl ?b2 ?b3 (Nat.le_refl _) ?_)
  case b2 => rw [hz2]; omega
  case b3 => unfold maxLen; omega
  intro w1 hown hgrow
  have hB1 : Below w.heap.size w w1 := (Below.refl _ _).grown hgrow (Nat.le_refl _) (by simp)
  rw [made_one] at hown
  have hown' : w1.ownsRow w.heap.size 79 1 (.slice (some ⟨w.heap.size, 0, none⟩) D D) D ((rowTo (meanL (vecs L)) 0).map (Value.int .i8)) := by
    have e : rowTo (meanL (vecs L)) 0 = List.replicate D 0 := by unfold rowTo; simp [HLEN.out]
    rw [e]; exact hown
  clear hown hgrow hi hz0 hz1 hz2
  go_wp2
  go_loopw [16] (fun i wr => ∃ k : Nat, k ≤ D ∧ i = .int .i64 k ∧ wr.ownsRow w.heap.size 79 1 (.slice (some ⟨w.heap.size, 0, none⟩) D D) D ((rowTo (meanL (vecs L)) k).map (Value.int .i8)) ∧ Below w.heap.size w wr) (fun i _ => D - (intOf i).toNat)
  case atStart => exact ⟨0, by omega, rfl, hown', hB1⟩
  case round =>
    clear hown' hB1
    obtain ⟨k, hk, rfl, hown, hB⟩ := hrel
    by_cases hlt : k < D
    · have hs := sumP_bd (vecs L) HBD.out k
      rw [vecs_len] at hs
      have hq := quo_half (s := sumP (vecs L) k) (c := (L.length : Int)) (by omega) hs
      have H1 := Lib.hid (sumAt_any (some ⟨b, off, none⟩) c k L _ rfl wr _ (hx.below hB) hl2 HBD.out (fun i hi => by have := HM.out i hi; omega))
      have HS := Lib.hid (rowTo_step (meanL (vecs L)) k (quo (sumP (vecs L) k) (L.length : Int)) (by rw [HLEN.out]; exact hlt) (by unfold meanL; simp [HDD.out, hlt, vecs_len]))
      have hs' : -1000000 ≤ sumP (vecs L) k ∧ sumP (vecs L) k ≤ 1000000 := by omega
      clear hs
      generalize sumP (vecs L) k = S at H1 HS hs' hq
      have H2 := Lib.hid (quotient_any S (L.length : Int) hs'.1 hs'.2 (by omega) (by omega) wr)
      generalize quo S (L.length : Int) = q at H2 HS hq
      obtain ⟨hq1, hq2⟩ := hq
      have hc1 := hown.cellAt k (by omega)
      have hf1 := hown.frozenAt k
      obtain ⟨old, hold⟩ : ∃ old, ((rowTo (meanL (vecs L)) k).map (Value.int .i8))[k]? = some old := ⟨_, List.getElem?_eq_getElem (by rw [List.length_map, rowTo_len _ _ (by rw [HLEN.out]; omega), HLEN.out]; exact hlt)⟩
      rw [hold] at hc1
      have hw := (hown.stored k (.int .i8 q)).1
      rw [HS.out] at hw
      clear hold HS hown
      go_wp2_with fail
      refine H1.out.mono ?_
      rintro e w' ⟨rfl, rfl⟩
      go_wp2_with fail
      refine H2.out.mono ?_
      rintro e w' ⟨rfl, rfl⟩
      go_wp2
      go_roundw
      case rel => exact ⟨k + 1, by omega, by go_num, hw, hB.setCell (p := ⟨w.heap.size, k, none⟩) (Nat.le_refl _) _⟩
      case measure => simp [intOf]; omega
    · obtain rfl : k = D := by omega
      have e : rowTo (meanL (vecs L)) k = meanL (vecs L) := by unfold rowTo; rw [List.take_of_length_le (by rw [HLEN.out]; omega)]; simp [HLEN.out]
      rw [e] at hown
      go_wp2
      go_ret2
      exact ⟨rfl, hown, hB⟩
end Go.Proofs.Ythbimjkcpmffcaa
