/- The walks of the statements' own helpers on books of codes: WordsSize. -/
import Derived.Test.YthbimjkcpmffcaaGreatPd
namespace Go.Proofs.YthbimjkcpmffcaaGreat
open Go.RowKit
set_option linter.unusedVariables false
theorem sumSz_take {ps : List (List (List Int))} {i : Nat} {l : List (List Int)} (h : ps[i]? = some l) : ((ps.take (i + 1)).map sizeL).sum = ((ps.take i).map sizeL).sum + sizeL l := by
  rw [List.take_add_one, h]; simp
/-- What WordsSize tells of books: how much there is, or more than a million. -/
def SzPIs (ps : List (List (List Int))) (z : Int) : Prop := 0 ≤ z ∧ (z = sizeP ps ∨ 1000000 < z)
set_option maxRecDepth 100000 in
set_option maxHeartbeats 1000000 in
theorem psize_any (P : Int) (A : Option Addr) (c : Nat) (L : List Pc) (w : World) (hx : PGiven w A L) :
    Calls Tryz.prog 5 #[.agg #[.int .i64 P, .slice A L.length c]] w fun e w' => (∃ z, e = .returned (.int .i64 z) ∧ SzPIs (words L) z) ∧ Below w.heap.size w w' := by
  have HL := Lib.hid (words_len L)
  have hb0 : Below w.heap.size w (w.alloc (.cells #[.int .i64 P, .slice A L.length c] 24)) := below_one (Below.refl _ _) _
  have HX := Lib.hid (hx.below hb0)
  have B0 := Lib.hid hb0
  have W0 : Whole (w.alloc (.cells #[.int .i64 P, .slice A L.length c] 24)) w.heap.size 24 #[.int .i64 P, .slice A L.length c] := Whole.new w _ _
  have r1 : (w.alloc (.cells #[.int .i64 P, .slice A L.length c] 24)).cell? ⟨w.heap.size, 1, none⟩ = some (.slice A L.length c) := W0.cell 1
  have hlen := hx.len
  clear hx hb0 W0
  go_enter Tryz.func5, Tryz.ntmps5
  go_wp2
  go_loop [3, 4] (fun s i => ∃ k m : Nat, k ≤ L.length ∧ i = .int .i64 k ∧ s = .int .i64 m ∧ m ≤ 562949953421312 ∧ Hid (m = L.length + (((words L).take k).map sizeL).sum ∨ 1000000 < m)) (fun _ i => L.length - (intOf i).toNat)
  case atStart => exact ⟨0, L.length, by omega, rfl, rfl, by omega, Lib.hid (.inl (by simp))⟩
  case round =>
    obtain ⟨k, m, hk, rfl, rfl, hb, hm⟩ := hrel
    by_cases hlt : k < L.length
    · have e1 : decide ((k : Int) < (L.length : Int)) = true := decide_eq_true (by omega)
      by_cases hle : m ≤ 1000000
      · have e2 : decide ((m : Int) ≤ 1000000) = true := decide_eq_true (by omega)
        obtain ⟨b, off, a1, c1, M, rfl, hBk, hck, hG, hR, hv1⟩ := HX.out.at_ hlt
        have SZ := Lib.hid (size_any a1 c1 M _ rfl _ _ hG.rd hG.len hG.vec)
        have hs := sumSz_take (words_at hv1.out)
        have HM := Lib.hid (show ∀ z : Nat, z = sizeL (vecs M) ∨ 1000000 < z → m + z = L.length + (((words L).take (k + 1)).map sizeL).sum ∨ 1000000 < m + z from fun z hz => by
          rcases hm.out with h1 | h1
          · rcases hz with h2 | h2
            · left; rw [hs]; omega
            · right; omega
          · omega)
        clear hs hm hG hR hv1
        go_wp2_with (go_at_call 24; refine SZ.out.mono ?_; rintro e w' ⟨⟨z, rfl, hz⟩, rfl⟩; obtain ⟨z, rfl⟩ := Int.eq_ofNat_of_zero_le hz.1; have hz2 := hz.2.1; have HZ := Lib.hid (HM.out z (by have h := hz.2.2; omega)); clear hz)
        go_round
        case rel => exact ⟨k + 1, m + z, by omega, by go_num, by go_num, by omega, HZ⟩
        case measure => simp [intOf]; omega
      · have e2 : decide ((m : Int) ≤ 1000000) = false := decide_eq_false (by omega)
        have HZ := Lib.hid (show SzPIs (words L) (m : Nat) from ⟨by omega, .inr (by omega)⟩)
        clear hm hb hle
        go_wp2
        go_ret
        exact ⟨⟨_, rfl, HZ.out⟩, B0.out⟩
    · obtain rfl : k = L.length := by omega
      have e1 : decide ((L.length : Int) < (L.length : Int)) = false := decide_eq_false (by omega)
      have h1 := hm.out
      rw [List.take_of_length_le (by rw [HL.out]; exact Nat.le_refl _)] at h1
      have HZ := Lib.hid (show SzPIs (words L) (m : Nat) from ⟨by omega, by unfold sizeP; rw [HL.out]; omega⟩)
      clear hm hb h1
      go_wp2
      go_ret
      exact ⟨⟨_, rfl, HZ.out⟩, B0.out⟩
end Go.Proofs.YthbimjkcpmffcaaGreat
