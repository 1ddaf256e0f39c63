/- The walks of the statements' own helpers on lists of vectors: VectorsSize, great, SameVectors. -/
import Derived.Test.YthbimjkcpmffcaaNd
import Derived.Test.YthbimjkcpmffcaaSe
import Derived.Deep.QuietTactic
import Derived.BigQuiet
namespace Go.Proofs.Ythbimjkcpmffcaa
open Go.RowKit
set_option linter.unusedVariables false
/-- How much there is. -/
def sizeL (vs : List (List Int)) : Nat := vs.length + (vs.map List.length).sum
theorem sizeL_vec {vs : List (List Int)} {v : List Int} (h : v ∈ vs) : v.length ≤ (vs.map List.length).sum := by
  induction vs with
  | nil => simp at h
  | cons a r ih =>
    simp only [List.map_cons, List.sum_cons]
    rcases List.mem_cons.1 h with h1 | h1
    · subst h1; omega
    · have := ih h1; omega
theorem sum_take_len {vs : List (List Int)} {i : Nat} {v : List Int} (h : vs[i]? = some v) : ((vs.take (i + 1)).map List.length).sum = ((vs.take i).map List.length).sum + v.length := by
  rw [List.take_add_one, h]; simp
/-- What VectorsSize tells of lists of vectors: how much there is, or more than a million. -/
def SzIs (vs : List (List Int)) (z : Int) : Prop := 0 ≤ z ∧ z ≤ 281474976711656 ∧ (z = sizeL vs ∨ 1000000 < z)
set_option maxRecDepth 100000 in
set_option maxHeartbeats 1000000 in
theorem size_any (A : Option Addr) (c : Nat) (L : List Vc) (n : Nat) (hn : n = L.length) (w : World) (B : Nat) (hx : RdV w B A L) (hl : L.length ≤ 140737488355328) (hv : ∀ v ∈ vecs L, v.length ≤ 140737488355328) :
    Calls Try.prog 33 #[.slice A n c] w fun e w' => (∃ z, e = .returned (.int .i64 z) ∧ SzIs (vecs L) z) ∧ w = w' := by
  subst hn
  have HV := Lib.hid hv
  have HL := Lib.hid (show (vecs L).length = L.length from vecs_len L)
  clear hv
  go_enter Try.func33, Try.ntmps33
  go_wp2
  go_loop [3, 4] (fun s i => ∃ k m : Nat, k ≤ L.length ∧ i = .int .i64 k ∧ s = .int .i64 m ∧ Hid (m = L.length + (((vecs L).take k).map List.length).sum) ∧ (m ≤ 140737489355328 ∨ m ≤ 281474976711656 ∧ 1000000 < m)) (fun _ i => L.length - (intOf i).toNat)
  case atStart => exact ⟨0, L.length, by omega, rfl, rfl, Lib.hid (by simp), by omega⟩
  case round =>
    obtain ⟨k, m, hk, rfl, rfl, hm, hb⟩ := hrel
    by_cases hlt : k < L.length
    · have e1 : decide ((k : Int) < (L.length : Int)) = true := decide_eq_true (by omega)
      by_cases hle : m ≤ 1000000
      · have e2 : decide ((m : Int) ≤ 1000000) = true := decide_eq_true (by omega)
        obtain ⟨b, off, a1, c1, v1, rfl, hBk, hck, hrd, hv1⟩ := hx.at_ hlt
        have hvl := HV.out v1 (List.mem_of_getElem? (vecs_at hv1.out))
        have hs := sum_take_len (vecs_at hv1.out)
        have HS : Hid (m + v1.length = L.length + (((vecs L).take (k + 1)).map List.length).sum) := Lib.hid (by rw [hs, hm.out]; omega)
        clear hs hm hb hrd hv1
        go_wp2
        go_round
        case rel => exact ⟨k + 1, m + v1.length, by omega, by go_num, by go_num, HS, by omega⟩
        case measure => simp [intOf]; omega
      · have e2 : decide ((m : Int) ≤ 1000000) = false := decide_eq_false (by omega)
        have HZ := Lib.hid (show SzIs (vecs L) (m : Nat) from ⟨by omega, by omega, .inr (by omega)⟩)
        clear hm hb hle
        go_wp2
        go_ret
        exact ⟨⟨_, rfl, HZ.out⟩, rfl⟩
    · obtain rfl : k = L.length := by omega
      have e1 : decide ((L.length : Int) < (L.length : Int)) = false := decide_eq_false (by omega)
      have h1 := hm.out
      rw [List.take_of_length_le (by rw [HL.out]; exact Nat.le_refl _)] at h1
      have HZ := Lib.hid (show SzIs (vecs L) (m : Nat) from ⟨by omega, by omega, .inl (by unfold sizeL; rw [HL.out]; omega)⟩)
      clear hm hb h1
      go_wp2
      go_ret
      exact ⟨⟨_, rfl, HZ.out⟩, rfl⟩
/-- Lists of vectors of which all hold no more than is gone through. -/
def Small (L : List Vc) : Prop := sizeL (vecs L) ≤ 20000
theorem Small.len {L : List Vc} (h : Small L) : L.length ≤ 20000 := by unfold Small sizeL at h; rw [vecs_len] at h; omega
theorem Small.vec {L : List Vc} (h : Small L) {v : List Int} (hv : v ∈ vecs L) : v.length ≤ 20000 := by have := sizeL_vec hv; unfold Small sizeL at h; omega
/-- What great answers. -/
def GreatIs (Ls : List (Option Addr × Nat × List Vc)) (e : Ending) : Prop := ∃ b : Bool, e = .returned (.bool b) ∧ (b = false → ∀ x ∈ Ls, Small x.2.2)
/-- An argument of great. -/
structure GArg (w : World) (B g i : Nat) (x : Option Addr × Nat × List Vc) : Prop where
  cell : w.cell? ⟨g, i, none⟩ = some (.slice x.1 x.2.2.length x.2.1)
  rd : RdV w B x.1 x.2.2
  len : x.2.2.length ≤ 140737488355328
  vec : ∀ v ∈ vecs x.2.2, v.length ≤ 140737488355328
/-- SameVectors: are they the same? -/
theorem vecs_ext {L M : List Vc} (hl : M.length = L.length) (h : ∀ j, j < L.length → vAt (vecs L) j = vAt (vecs M) j) : vecs L = vecs M := by
  apply List.ext_getElem?
  intro i
  by_cases hi : i < L.length
  · have h1 := h i hi
    unfold vAt at h1
    have a1 : i < (vecs L).length := by rw [vecs_len]; exact hi
    have a2 : i < (vecs M).length := by rw [vecs_len]; omega
    rw [List.getElem?_eq_getElem a1, List.getElem?_eq_getElem a2] at h1 ⊢
    simpa using h1
  · rw [List.getElem?_eq_none (by rw [vecs_len]; omega), List.getElem?_eq_none (by rw [vecs_len]; omega)]
end Go.Proofs.Ythbimjkcpmffcaa
