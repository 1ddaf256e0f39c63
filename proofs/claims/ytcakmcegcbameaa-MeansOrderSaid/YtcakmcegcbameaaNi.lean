/- The walks of the statements' own helpers on lists of vectors: VectorsSize, great, SameVectors. -/
import Derived.Test.YtcakmcegcbameaaNd
import Derived.Test.YtcakmcegcbameaaSe
import Derived.Deep.QuietTactic
import Derived.BigQuiet
namespace Go.Proofs.Ytcakmcegcbameaa
open Go.RowKit
set_option linter.unusedVariables false
/-- How much there is. -/
def sizeL (vs : List (List Int)) : Nat := vs.length + (vs.map List.length).sum
theorem sizeL_vec {vs : List (List Int)} {v : List Int} (h : v ∈ vs) : v.length ≤ (vs.map List.length).sum := by
  induction vs with
  | nil => simp at h
  | cons a r ih =>
    simp only [List.map_cons, List.sum_cons]
    rcases List.mem_cons.1 h with h1 | h1
    · subst h1; omega
    · have := ih h1; omega
theorem sum_take_len {vs : List (List Int)} {i : Nat} {v : List Int} (h : vs[i]? = some v) : ((vs.take (i + 1)).map List.length).sum = ((vs.take i).map List.length).sum + v.length := by
  rw [List.take_add_one, h]; simp
/-- What VectorsSize tells of lists of vectors: how much there is, or more than a million. -/
def SzIs (vs : List (List Int)) (z : Int) : Prop := 0 ≤ z ∧ z ≤ 281474976711656 ∧ (z = sizeL vs ∨ 1000000 < z)
set_option maxRecDepth 100000 in
set_option maxHeartbeats 1000000 in
theorem size_any (A : Option Addr) (c : Nat) (L : List Vc) (n : Nat) (hn : n = L.length) (w : World) (B : Nat) (hx : RdV w B A L) (hl : L.length ≤ 140737488355328) (hv : ∀ v ∈ vecs L, v.length ≤ 140737488355328) :
    Calls Try.prog 22 #[.slice A n c] w fun e w' => (∃ z, e = .returned (.int .i64 z) ∧ SzIs (vecs L) z) ∧ w = w' := by
  subst hn
  have HV := Lib.hid hv
  have HL := Lib.hid (show (vecs L).length = L.length from vecs_len L)
  clear hv
  go_enter Try.func22, Try.ntmps22
  go_wp2
  go_loop [3, 4] (fun s i => ∃ k m : Nat, k ≤ L.length ∧ i = .int .i64 k ∧ s = .int .i64 m ∧ Hid (m = L.length + (((vecs L).take k).map List.length).sum) ∧ (m ≤ 140737489355328 ∨ m ≤ 281474976711656 ∧ 1000000 < m)) (fun _ i => L.length - (intOf i).toNat)
  case atStart => exact ⟨0, L.length, by omega, rfl, rfl, Lib.hid (by simp), by omega⟩
  case round =>
    obtain ⟨k, m, hk, rfl, rfl, hm, hb⟩ := hrel
    by_cases hlt : k < L.length
    · have e1 : decide ((k : Int) < (L.length : Int)) = true := decide_eq_true (by omega)
      by_cases hle : m ≤ 1000000
      · have e2 : decide ((m : Int) ≤ 1000000) = true := decide_eq_true (by omega)
        obtain ⟨b, off, a1, c1, v1, rfl, hBk, hck, hrd, hv1⟩ := hx.at_ hlt
        have hvl := HV.out v1 (List.mem_of_getElem? (vecs_at hv1.out))
        have hs := sum_take_len (vecs_at hv1.out)
        have HS : Hid (m + v1.length = L.length + (((vecs L).take (k + 1)).map List.length).sum) := Lib.hid (by rw [hs, hm.out]; omega)
        clear hs hm hb hrd hv1
        go_wp2
        go_round
        case rel => exact ⟨k + 1, m + v1.length, by omega, by go_num, by go_num, HS, by omega⟩
        case measure => simp [intOf]; omega
      · have e2 : decide ((m : Int) ≤ 1000000) = false := decide_eq_false (by omega)
        have HZ := Lib.hid (show SzIs (vecs L) (m : Nat) from ⟨by omega, by omega, .inr (by omega)⟩)
        clear hm hb hle
        go_wp2
        go_ret
        exact ⟨⟨_, rfl, HZ.out⟩, rfl⟩
    · obtain rfl : k = L.length := by omega
      have e1 : decide ((L.length : Int) < (L.length : Int)) = false := decide_eq_false (by omega)
      have h1 := hm.out
      rw [List.take_of_length_le (by rw [HL.out]; exact Nat.le_refl _)] at h1
      have HZ := Lib.hid (show SzIs (vecs L) (m : Nat) from ⟨by omega, by omega, .inl (by unfold sizeL; rw [HL.out]; omega)⟩)
      clear hm hb h1
      go_wp2
      go_ret
      exact ⟨⟨_, rfl, HZ.out⟩, rfl⟩
/-- Lists of vectors of which all hold no more than is gone through. -/
def Small (L : List Vc) : Prop := sizeL (vecs L) ≤ 20000
theorem Small.len {L : List Vc} (h : Small L) : L.length ≤ 20000 := by unfold Small sizeL at h; rw [vecs_len] at h; omega
theorem Small.vec {L : List Vc} (h : Small L) {v : List Int} (hv : v ∈ vecs L) : v.length ≤ 20000 := by have := sizeL_vec hv; unfold Small sizeL at h; omega
/-- What great answers. -/
def GreatIs (Ls : List (Option Addr × Nat × List Vc)) (e : Ending) : Prop := ∃ b : Bool, e = .returned (.bool b) ∧ (b = false → ∀ x ∈ Ls, Small x.2.2)
/-- An argument of great. -/
structure GArg (w : World) (B g i : Nat) (x : Option Addr × Nat × List Vc) : Prop where
  cell : w.cell? ⟨g, i, none⟩ = some (.slice x.1 x.2.2.length x.2.1)
  rd : RdV w B x.1 x.2.2
  len : x.2.2.length ≤ 140737488355328
  vec : ∀ v ∈ vecs x.2.2, v.length ≤ 140737488355328
set_option maxRecDepth 100000 in
set_option maxHeartbeats 1000000 in
theorem great_any (g : Nat) (Ls : List (Option Addr × Nat × List Vc)) (n : Nat) (hn : n = Ls.length) (h3 : Ls.length ≤ 3) (w : World) (B : Nat) (hc : ∀ i x, Ls[i]? = some x → GArg w B g i x) :
    Calls Try.prog 9 #[.slice (some ⟨g, 0, none⟩) n n] w fun e w' => GreatIs Ls e ∧ w = w' := by
  subst hn
  go_enter Try.func9, Try.ntmps9
  go_wp2
  go_loop [3, 4] (fun s i => ∃ k : Nat, ∃ m : Int, k ≤ Ls.length ∧ i = .int .i64 k ∧ s = .int .i64 m ∧ 0 ≤ m ∧ m ≤ k * 281474976711656 ∧ Hid (m ≤ 20000 → ∀ i x, i < k → Ls[i]? = some x → Small x.2.2)) (fun _ i => Ls.length - (intOf i).toNat)
  case atStart => exact ⟨0, 0, by omega, rfl, rfl, by omega, by omega, Lib.hid (fun _ i x hi => by omega)⟩
  case round =>
    obtain ⟨k, m, hk, rfl, rfl, hm0, hm, HS⟩ := hrel
    by_cases hlt : k < Ls.length
    · have G := hc k _ (List.getElem?_eq_getElem hlt)
      have HX := Lib.hid (List.getElem?_eq_getElem hlt)
      obtain ⟨x, ex⟩ : ∃ x, Ls[k] = x := ⟨_, rfl⟩
      rw [ex] at G HX
      clear ex
      have SZ := Lib.hid (size_any x.1 x.2.1 x.2.2 _ rfl w B G.rd G.len G.vec)
      have q := G.cell
      clear G
      go_wp2_with (go_at_call 22; refine SZ.out.mono ?_; rintro e w' ⟨⟨z, rfl, hz⟩, rfl⟩; have hz1 := hz.1; have hz2 := hz.2.1; have HZ := Lib.hid hz; clear hz)
      have HN : Hid (m + z ≤ 20000 → ∀ i x, i < k + 1 → Ls[i]? = some x → Small x.2.2) := Lib.hid (fun h i y hi hy => by
        rcases Nat.lt_or_ge i k with h1 | h1
        · exact HS.out (by omega) i y h1 hy
        · obtain rfl : i = k := by omega
          rw [HX.out] at hy
          injection hy with hy
          subst hy
          rcases HZ.out.2.2 with h2 | h2
          · unfold Small; omega
          · omega)
      go_round
      case rel => exact ⟨k + 1, m + z, by omega, by go_num, by go_num, by omega, by omega, HN⟩
      case measure => simp [intOf]; omega
    · obtain rfl : k = Ls.length := by omega
      have HB : Hid (decide (20000 < m) = false → ∀ x ∈ Ls, Small x.2.2) := Lib.hid (fun h x hx => by
        obtain ⟨i, hi⟩ := List.getElem?_of_mem hx
        have h1 : ¬ 20000 < m := of_decide_eq_false h
        exact HS.out (by omega) i x (List.getElem?_eq_some_iff.1 hi).1 hi)
      clear HS
      go_wp2
      go_ret
      exact ⟨⟨_, rfl, HB.out⟩, rfl⟩
/-- SameVectors: are they the same? -/
theorem vecs_ext {L M : List Vc} (hl : M.length = L.length) (h : ∀ j, j < L.length → vAt (vecs L) j = vAt (vecs M) j) : vecs L = vecs M := by
  apply List.ext_getElem?
  intro i
  by_cases hi : i < L.length
  · have h1 := h i hi
    unfold vAt at h1
    have a1 : i < (vecs L).length := by rw [vecs_len]; exact hi
    have a2 : i < (vecs M).length := by rw [vecs_len]; omega
    rw [List.getElem?_eq_getElem a1, List.getElem?_eq_getElem a2] at h1 ⊢
    simpa using h1
  · rw [List.getElem?_eq_none (by rw [vecs_len]; omega), List.getElem?_eq_none (by rw [vecs_len]; omega)]
set_option maxRecDepth 100000 in
set_option maxHeartbeats 1000000 in
theorem sameVecs_any (A : Option Addr) (c : Nat) (L : List Vc) (n : Nat) (hn : n = L.length) (B : Option Addr) (d : Nat) (M : List Vc) (m : Nat) (hm : m = M.length) (w : World) (D : Nat) (hx : RdV w D A L) (hy : RdV w D B M) (hl : L.length ≤ 140737488355328) (hl2 : M.length ≤ 140737488355328) (hv : ∀ v ∈ vecs L, v.length ≤ 140737488355328) (hv2 : ∀ v ∈ vecs M, v.length ≤ 140737488355328) :
    Calls Try.prog 20 #[.slice A n c, .slice B m d] w fun e w' => e = .returned (.bool (decide (vecs L = vecs M))) ∧ ∃ nq, w' = w.drewN nq := by
  subst hn hm
  by_cases hlen : L.length = M.length
  · have ne : ((L.length : Int) != (M.length : Int)) = false := by simp; omega
    have HL := Lib.hid hlen
    have HV := Lib.hid hv
    have HV2 := Lib.hid hv2
    clear hlen hv hv2
    go_enter Try.func20, Try.ntmps20
    go_wp2
    go_loopw [5] (fun i wr => ∃ k nq : Nat, k ≤ L.length ∧ i = .int .i64 k ∧ Hid (wr = w.drewN nq) ∧ Hid (∀ j, j < k → vAt (vecs L) j = vAt (vecs M) j)) (fun i _ => L.length - (intOf i).toNat)
    case atStart => exact ⟨0, 0, by omega, rfl, rfl, (fun j hj => absurd hj (Nat.not_lt_zero _) : ∀ j, j < 0 → vAt (vecs L) j = vAt (vecs M) j)⟩
    case round =>
      obtain ⟨k, nq0, hk, rfl, hwr, HK⟩ := hrel
      by_cases hlt : k < L.length
      · have hlt2 : k < M.length := by have := HL.out; omega
        have hx' : RdV wr D A L := by rw [hwr.out]; exact hx.below (below_drewN (Below.refl D w) nq0)
        have hy' : RdV wr D B M := by rw [hwr.out]; exact hy.below (below_drewN (Below.refl D w) nq0)
        obtain ⟨b, off, a1, c1, v1, rfl, hBk, hck, hrd, hv1⟩ := hx'.at_ hlt
        obtain ⟨b', off', a2, c2, v2, rfl, hBk', hck', hrd', hv2⟩ := hy'.at_ hlt2
        have SE := Lib.hid (fun q => same8_any a1 a2 c1 c2 v1 v2 (wr.drewN q) D (hrd.below (below_drewN (Below.refl D wr) q)) (hrd'.below (below_drewN (Below.refl D wr) q)) (HV.out v1 (List.mem_of_getElem? (vecs_at hv1.out))) (HV2.out v2 (List.mem_of_getElem? (vecs_at hv2.out))))
        have g1 : (0 : Int) ≤ (k : Int) := by omega
        have g2 : (k : Int) < (L.length : Int) := by omega
        have g3 : (k : Int) < (M.length : Int) := by omega
        clear hx' hy' hrd hrd'
        by_cases he : v1 = v2
        · have eb : eqB v1 v2 = true := decide_eq_true he
          rw [eb] at SE
          have HN : Hid (∀ j, j < k + 1 → vAt (vecs L) j = vAt (vecs M) j) := Lib.hid (fun j hj => by
            rcases Nat.lt_or_ge j k with h | h
            · exact HK.out j h
            · obtain rfl : j = k := by omega
              rw [vecs_vAt hv1.out, vecs_vAt hv2.out]; exact he)
          clear he eb hv1 hv2 HK
          go_wp2
          go_quiet ((go_at_call 24; with_reducible exact Calls.quiet_of (SE.out _)))
          go_wp2
          go_roundw
          case rel => exact ⟨k + 1, _, by omega, by go_num, Lib.hid (by rw [hwr.out, World.drewN_drewN]), HN⟩
          case measure => simp [intOf]; omega
        · have eb : eqB v1 v2 = false := decide_eq_false he
          rw [eb] at SE
          have E : Hid (decide (vecs L = vecs M) = false) := Lib.hid (decide_eq_false (fun h => he (by
            have h1 := vecs_vAt hv1.out
            rw [h, vecs_vAt hv2.out] at h1
            exact h1.symm)))
          clear he eb hv1 hv2 HK
          go_wp2
          go_quiet ((go_at_call 24; with_reducible exact Calls.quiet_of (SE.out _)))
          go_wp2
          go_ret
          exact ⟨retb E.out.symm, _, by rw [hwr.out, World.drewN_drewN]⟩
      · obtain rfl : k = L.length := by omega
        have E : Hid (decide (vecs L = vecs M) = true) := Lib.hid (decide_eq_true (vecs_ext HL.out.symm HK.out))
        clear HK
        go_wp2
        go_ret
        exact ⟨retb E.out.symm, nq0, hwr.out⟩
  · have ne : ((L.length : Int) != (M.length : Int)) = true := by simp; omega
    have E : Hid (decide (vecs L = vecs M) = false) := Lib.hid (decide_eq_false (fun h => hlen (by rw [← vecs_len L, h, vecs_len])))
    clear hlen hx hy
    go_enter Try.func20, Try.ntmps20
    go_wp2
    go_ret
    exact ⟨retb E.out.symm, 0, rfl⟩
end Go.Proofs.Ytcakmcegcbameaa
