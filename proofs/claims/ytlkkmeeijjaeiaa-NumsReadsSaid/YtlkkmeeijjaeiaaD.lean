/- The walk of the statement NumsGets. -/
import Derived.Test.YtlkkmeeijjaeiaaC
namespace Go.Proofs.Ytlkkmeeijjaeiaa
open Go.RowKit
set_option linter.unusedVariables false
/-- One number in a new box reads as itself. -/
theorem rd_one (w : World) (k : IntKind) (t : TypeId) (x : Int) : Rd k (w.alloc (.cells #[.int k x] t)) (w.heap.size + 1) (some ⟨w.heap.size, 0, none⟩) [x] := fun _ => by
  refine ⟨w.heap.size, 0, rfl, by omega, fun i hi => ?_⟩
  obtain rfl : i = 0 := by simpa using hi
  simp [go_sem]
/-- A row of the call's own reads as its numbers. -/
theorem rd_own {w : World} {base g n cap : Nat} {e : TypeId} {k : IntKind} {xs : List Int} (h : w.ownsRow base e 1 (.slice (some ⟨g, 0, none⟩) n cap) n (xs.map (Value.int k))) : Rd k w w.heap.size (some ⟨g, 0, none⟩) xs := fun hl => by
  have hn : n = xs.length := by have := h.1; simpa using this.symm
  refine ⟨g, 0, rfl, (h.lt g rfl).2, fun i hi => ?_⟩
  have := h.cellAt i (by omega)
  rw [Nat.zero_add, this]
  simp [List.getElem?_eq_getElem hi]
set_option maxHeartbeats 400000 in
theorem numsGets_walk (A : Option Addr) (c : Nat) (xs : List Int) (w : World) (hx : Rd .u8 w w.heap.size A xs) (hb : ∀ x ∈ xs, 0 ≤ x ∧ x ≤ 255) (hc : xs.length ≤ c) (hm : c ≤ 140737488351232) :
    Calls Try.prog 4 #[.slice A xs.length c] w fun e w' => e = .returned (.bool true) ∧ Below w.heap.size w w' := by
  obtain ⟨w1, hw1⟩ : ∃ w1, w.alloc (.cells #[.int .i64 (xs.length : Int)] 3) = w1 := ⟨_, rfl⟩
  have hB1 : Below w.heap.size w w1 := by rw [← hw1]; exact (Below.refl _ _).alloc (Nat.le_refl _) _
  have hs1 : w.heap.size < w1.heap.size := by rw [← hw1]; simp
  have h21 := beyond_any (some ⟨w.heap.size, 0, none⟩) 1 [(xs.length : Int)] 1 rfl w1 (w.heap.size + 1) (by rw [← hw1]; exact rd_one w .i64 3 _) (by simp; omega) (by simp)
  have H21 := Lib.hid h21
  clear h21
  by_cases hbey : bey [(xs.length : Int)] = true
  · go_enter Try.func4, Try.ntmps4
    rw [hbey] at H21
    clear hbey
    go_wp2_with fail
    refine H21.out.mono ?_
    rintro e w' ⟨rfl, rfl⟩
    clear hw1
    go_wp2
    go_ret
    exact ⟨rfl, hB1⟩
  · have hlen : xs.length ≤ 1048576 := by unfold bey at hbey; simp at hbey; omega
    simp only [Bool.not_eq_true] at hbey
    rw [hbey] at H21
    clear hbey
    have h22 := Lib.hid (twinBytes_any A c xs xs.length rfl w1 ((hx.below hB1).more (by omega)) (by omega))
    go_enter Try.func4, Try.ntmps4
    go_wp2_with fail
    refine H21.out.mono ?_
    rintro e w' ⟨rfl, rfl⟩
    clear hw1
    go_wp2_with fail
    refine h22.out.mono ?_
    rintro e w2 ⟨rfl, hB2, hown⟩
    have hT : Rd .u8 w2 w2.heap.size (some ⟨w1.heap.size, 0, none⟩) (xs ++ [77]) := rd_own hown
    have hT' : Rd .u8 w2 w2.heap.size (some ⟨w1.heap.size, 0, none⟩) xs := by simpa using hT.take xs.length
    have h23 := Lib.hid (get_any (some ⟨w1.heap.size, 0, none⟩) (xs.length + 1) xs xs.length rfl w2 _ hT' (Nat.le_refl _) hb (by omega) (by omega))
    have HT := Lib.hid hT
    clear hown hT hT'
    go_wp2_with fail
    refine h23.out.mono ?_
    rintro e w3 ⟨rfl, hB3⟩
    have hx3 : Rd .u8 w3 w3.heap.size A xs := ((((hx.below hB1).below (hB2.mono (by omega))).below (hB3.mono (by have := hB2.size; omega)))).more (by have := hB2.size; have := hB3.size; omega)
    have hT3 : Rd .u8 w3 w3.heap.size (some ⟨w1.heap.size, 0, none⟩) (xs ++ [77]) := (HT.out.below hB3).more hB3.size
    have h24 := Lib.hid (refGet_any A c xs xs.length rfl w3 _ hx3 hb hc (by omega))
    have h25 := Lib.hid (leftBytes_any (some ⟨w1.heap.size, 0, none⟩) A (xs.length + 1) c xs xs.length rfl w3 _ hx3 hT3 hc (by omega) (by omega) (by omega))
    have hBw : Below w.heap.size w w3 := (hB1.trans (hB2.mono (by omega))).trans (hB3.mono (by have := hB2.size; omega))
    clear hx3 hT3
    go_wp2_with fail
    refine h24.out.mono ?_
    rintro e w4 ⟨rfl, rfl⟩
    go_wp2_with fail
    refine h25.out.mono ?_
    rintro e w5 ⟨rfl, nq, rfl⟩
    go_wp2
    go_ret
    exact ⟨rfl, below_drewN hBw nq⟩
end Go.Proofs.Ytlkkmeeijjaeiaa
