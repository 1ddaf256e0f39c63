/- The walk of the statement NumsReads. -/
import Derived.Test.YtlkkmeeijjaeiaaEe
namespace Go.Proofs.Ytlkkmeeijjaeiaa
open Go.RowKit
set_option linter.unusedVariables false
/-- What GetItem answers, refused or not. -/
def GetRes (w : World) (id K E : Int) (ys : List Int) (e : Ending) (w' : World) : Prop :=
  ∃ A c, e = .returned (.tuple #[.agg #[.int .u64 id, .slice A ys.length c], .int .i64 K, .int .i64 E]) ∧ w'.ownsRow w.heap.size 74 1 (.slice A ys.length c) ys.length (ys.map (Value.int .i8)) ∧ Below w.heap.size w w' ∧ Rd .i8 w' w'.heap.size A ys
theorem getRes_no {w w' : World} {e : Ending} {x : Int} (h : e = itNo x ∧ Below w.heap.size w w') : GetRes w 0 0 x [] e w' := ⟨none, 0, h.1, World.ownsRow_nil _ _ _ _, h.2, fun h => by simp at h⟩
theorem getRes_yes {w w' : World} {e : Ending} {xs : List Int} (h : GetItemYes w xs e w') : GetRes w (getN xs) (itK xs) 0 ((itV xs).map sgn) e w' := by
  obtain ⟨g, h1, h2, h3⟩ := h
  exact ⟨some ⟨g, 0, none⟩, (itV xs).length, by rw [List.length_map]; exact h1, by rw [List.length_map]; exact h2, h3, rd_own h2⟩
theorem getRes_ref {w w' : World} {e : Ending} {id K : Int} {ys : List Int} (h : RefYes w id K ys e w') : GetRes w id K 0 (ys.map sgn) e w' := by
  obtain ⟨g, c, h1, h2, h3⟩ := h
  exact ⟨some ⟨g, 0, none⟩, c, by rw [List.length_map]; exact h1, by rw [List.length_map]; exact h2, h3, rd_own h2⟩
theorem refGetItem_mk (A : Option Addr) (c : Nat) (xs : List Int) (w : World) (hx : Rd .u8 w w.heap.size A xs) (hb : ∀ x ∈ xs, 0 ≤ x ∧ x ≤ 255) (hc : xs.length ≤ c) (hm : c ≤ 9223372036854775807 ∧ xs.length ≤ 140737488355328)
    (hE : getE xs = 0) (hE2 : getE (itR xs) = 0) : ∃ w0 k j m, RPre A xs.length c w w0 k j m (getN xs) ∧ getN (itR xs) = (m : Int) ∧ getK (itR xs) = (j : Int) ∧ getK xs = (k : Int) ∧ itR xs = xs.drop k ∧ k + j ≤ xs.length := by
  obtain ⟨w0, hw0⟩ : ∃ w0, w.alloc (.cells #[.int .u64 0, .slice none 0 0] 54) = w0 := ⟨_, rfl⟩
  have hB0 : Below w.heap.size w w0 := by rw [← hw0]; exact (Below.refl _ _).alloc (Nat.le_refl _) _
  have g1 := refGet_any A c xs xs.length rfl w0 _ (hx.below hB0) hb hc hm
  obtain ⟨_, hN0, hNm, hk0, hkl, hk9⟩ := put_got xs hb hE
  obtain ⟨k, hk⟩ : ∃ k : Nat, getK xs = k := ⟨(getK xs).toNat, by omega⟩
  have hR : itR xs = xs.drop k := by unfold itR; rw [hk]; rfl
  rw [hk, hE] at g1
  obtain ⟨_, hM0, hMm, hj0, hjl, hj9⟩ := put_got (itR xs) (by rw [hR]; exact byte_drop hb _) hE2
  obtain ⟨j, hj⟩ : ∃ j : Nat, getK (itR xs) = j := ⟨(getK (itR xs)).toNat, by omega⟩
  obtain ⟨m, hmm⟩ : ∃ m : Nat, getN (itR xs) = m := ⟨(getN (itR xs)).toNat, by omega⟩
  have hlR : (itR xs).length = xs.length - k := by rw [hR, List.length_drop]
  have hck : ¬ c = k := by omega
  have hxd := (hx.below hB0).drop (n := k) hc
  rw [if_neg hck] at hxd
  have g2 := refGet_any (A.map (·.add k)) (c - k) (xs.drop k) (xs.length - k) (by rw [List.length_drop]) w0 _ hxd (byte_drop hb _) (by rw [List.length_drop]; omega) (by rw [List.length_drop]; omega)
  rw [← hR, hmm, hj, hE2] at g2
  exact ⟨w0, k, j, m, ⟨hw0, g1, g2, by omega, hck, by omega, hc, hm.1, hm.2⟩, hmm, hj, hk, hR, by omega⟩
theorem refGetItem_no2 (A : Option Addr) (c : Nat) (xs : List Int) (w : World) (hx : Rd .u8 w w.heap.size A xs) (hb : ∀ x ∈ xs, 0 ≤ x ∧ x ≤ 255) (hc : xs.length ≤ c) (hm : c ≤ 9223372036854775807 ∧ xs.length ≤ 140737488355328)
    (hE : getE xs = 0) (hE2 : getE (itR xs) ≠ 0) : Calls Try.prog 32 #[.slice A xs.length c] w fun e w' => e = itNo (getE (itR xs)) ∧ Below w.heap.size w w' := by
  obtain ⟨w0, hw0⟩ : ∃ w0, w.alloc (.cells #[.int .u64 0, .slice none 0 0] 54) = w0 := ⟨_, rfl⟩
  have hB0 : Below w.heap.size w w0 := by rw [← hw0]; exact (Below.refl _ _).alloc (Nat.le_refl _) _
  have g1 := refGet_any A c xs xs.length rfl w0 _ (hx.below hB0) hb hc hm
  obtain ⟨_, hN0, hNm, hk0, hkl, hk9⟩ := put_got xs hb hE
  obtain ⟨k, hk⟩ : ∃ k : Nat, getK xs = k := ⟨(getK xs).toNat, by omega⟩
  have hR : itR xs = xs.drop k := by unfold itR; rw [hk]; rfl
  rw [hk, hE] at g1
  have hxd := (hx.below hB0).drop (n := k) hc
  have g2 := refGet_any _ (c - k) (xs.drop k) (xs.length - k) (by rw [List.length_drop]) w0 _ hxd (byte_drop hb _) (by rw [List.length_drop]; omega) (by rw [List.length_drop]; omega)
  rw [← hR] at g2
  have hge : (getE (itR xs) == 0) = false := by simpa using hE2
  by_cases hck : c = k
  · have e1 : xs.length = k := by omega
    rw [if_pos hck] at g2
    rw [e1, hck] at g1 g2 ⊢
    rw [Nat.sub_self] at g2
    exact refGetItem_w2b hw0 g1 g2 (by omega) hge
  · rw [if_neg hck] at g2
    exact refGetItem_w2 hw0 g1 g2 (by omega) hck hc hm.1 hm.2 hge
theorem refGetItem_bad (A : Option Addr) (c : Nat) (xs : List Int) (w : World) (hx : Rd .u8 w w.heap.size A xs) (hb : ∀ x ∈ xs, 0 ≤ x ∧ x ≤ 255) (hc : xs.length ≤ c) (hm : c ≤ 9223372036854775807 ∧ xs.length ≤ 140737488355328) (h : itE xs ≠ 0) :
    Calls Try.prog 32 #[.slice A xs.length c] w fun e w' => e = itNo (itE xs) ∧ Below w.heap.size w w' := by
  by_cases hE : getE xs = 0
  · by_cases hE2 : getE (itR xs) = 0
    · obtain ⟨w0, k, j, m, hpre, e1, e2, e3, e4, e5⟩ := refGetItem_mk A c xs w hx hb hc hm hE hE2
      have hlR : (itR xs).length = xs.length - k := by rw [e4, List.length_drop]
      cases hd : isDimB (m : Int) with
      | false =>
        have : itE xs = 5 := by unfold itE; rw [if_neg (by omega), if_neg (by omega), e1, if_pos hd]
        rw [this]
        exact refGetItem_w3 hpre hd
      | true =>
        obtain ⟨hm0, hm64⟩ := isDim_of hd
        by_cases hlt : ((itR xs).length : Int) - getK (itR xs) < getN (itR xs)
        · have : itE xs = 4 := by unfold itE; rw [if_neg (by omega), if_neg (by omega), e1, if_neg (by rw [hd]; decide), if_pos (by rw [e1] at hlt; exact hlt)]
          rw [this]
          exact refGetItem_w4 hpre (by omega) hm64 (by omega)
        · exfalso
          apply h
          unfold itE; rw [if_neg (by omega), if_neg (by omega), e1, if_neg (by rw [hd]; decide), if_neg (by rw [e1] at hlt; exact hlt)]
    · have : itE xs = getE (itR xs) := by unfold itE; rw [if_neg (by omega), if_pos hE2]
      rw [this]
      exact refGetItem_no2 A c xs w hx hb hc hm hE hE2
  · have : itE xs = getE xs := by unfold itE; rw [if_pos hE]
    rw [this]
    exact refGetItem_no1 A c xs _ rfl w hx hb hc hm hE
theorem refGetItem_good (A : Option Addr) (c : Nat) (xs : List Int) (w : World) (hx : Rd .u8 w w.heap.size A xs) (hb : ∀ x ∈ xs, 0 ≤ x ∧ x ≤ 255) (hc : xs.length ≤ c) (hm : c ≤ 9223372036854775807 ∧ xs.length ≤ 140737488355328) (h : itE xs = 0) :
    Calls Try.prog 32 #[.slice A xs.length c] w (RefYes w (getN xs) (itK xs) (itV xs)) := by
  obtain ⟨hE, hE2, hd, hlt⟩ := itE_zero h
  obtain ⟨w0, k, j, m, hpre, e1, e2, e3, e4, e5⟩ := refGetItem_mk A c xs w hx hb hc hm hE hE2
  have hlR : (itR xs).length = xs.length - k := by rw [e4, List.length_drop]
  rw [e1] at hd
  obtain ⟨hm0, hm64⟩ := isDim_of hd
  have hV : itV xs = (xs.drop (k + j)).take m := by unfold itV; rw [e2, e1, e4, List.drop_drop]; simp
  have hK : itK xs = (k : Int) + j + m := by unfold itK; rw [e1, e2, e3]
  rw [hV, hK]
  exact refGetItem_w5 hpre (by omega) hm64 (by omega) xs rfl hx hb
end Go.Proofs.Ytlkkmeeijjaeiaa
