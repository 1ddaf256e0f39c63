/- The walks of layer 1 (nums), more: GetItem, whole. -/
import Derived.Test.YtlkkmeeijjaeiaaG
namespace Go.Proofs.Ytlkkmeeijjaeiaa
open Go.RowKit
set_option linter.unusedVariables false
/-- The two closures' contracts, and what stands when the reader is made, as the rest of GetItem needs them. -/
structure Pre (A : Option Addr) (len c : Nat) (w w0 W : World) (q k j m : Nat) (id : Int) (xs : List Int) : Prop where
  hw0 : w.alloc (.cells #[.int .u64 0, .slice none 0 0] 54) = w0
  HR : Calls Try.prog 73 #[.slice A len c] w0 fun e w' => e = .returned (.func (.func 105) #[] #[.pointer (some ⟨w0.heap.size, 0, none⟩), .pointer (some ⟨q, 0, none⟩)]) ∧ W = w'
  G1 : Calls Try.prog 105 #[.pointer (some ⟨w0.heap.size, 0, none⟩), .pointer (some ⟨q, 0, none⟩)] W fun e W' => e = .returned (.tuple #[.int .u64 id, .int .i64 (k : Int), .int .i64 0]) ∧ Moved W q k W'
  G2 : ∀ W1, Moved W q k W1 → Calls Try.prog 105 #[.pointer (some ⟨w0.heap.size, 0, none⟩), .pointer (some ⟨q, 0, none⟩)] W1 fun e W' => e = .returned (.tuple #[.int .u64 (m : Int), .int .i64 ((k : Int) + j), .int .i64 0]) ∧ Moved W1 q ((k : Int) + j) W'
  res : Res w.heap.size W
  bel : Below w.heap.size w W
  h1 : w.heap.size < w0.heap.size
  h2 : w0.heap.size < q
  h3 : q < W.heap.size
  rd : Rd .u8 W w.heap.size A xs
  hl : len = xs.length
theorem Pre.two {A : Option Addr} {len c : Nat} {w w0 W : World} {q k j m : Nat} {id : Int} {xs : List Int} (h : Pre A len c w w0 W q k j m id xs) {W1 W2 : World} {y z : Int} (m1 : Moved W q y W1) (m2 : Moved W1 q z W2) :
    Res w.heap.size W2 ∧ Below w.heap.size w W2 ∧ Rd .u8 W2 w.heap.size A xs ∧ w.heap.size < W2.heap.size := by
  have hb := m1.1.trans m2.1
  have := h.h1; have := h.h2; have := h.h3
  exact ⟨h.res.below hb (by omega), h.bel.trans (hb.mono (by omega)), h.rd.below (hb.mono (by omega)), by have := hb.size; omega⟩
set_option maxRecDepth 100000 in
set_option maxHeartbeats 1000000 in
theorem getItem_w3 {A : Option Addr} {len c : Nat} {w w0 W : World} {q k j m : Nat} {id : Int} {xs : List Int} (h : Pre A len c w w0 W q k j m id xs) (hd : isDimB m = false) :
    Calls Try.prog 31 #[.slice A len c] w fun e w' => e = itNo 5 ∧ Below w.heap.size w w' := by
  have HI := Lib.hid (fun W => isDim_any (m : Int) W)
  rw [hd] at HI
  have hw0 := h.hw0
  have H := Lib.hid h
  clear h hd
  go_enter Try.func31, Try.ntmps31
  go_wp2_with fail
  refine H.out.HR.mono ?_
  rintro e w' ⟨rfl, rfl⟩
  clear hw0
  go_wp2_with fail
  refine H.out.G1.mono ?_
  rintro e W1 ⟨rfl, m1⟩
  have G2 := Lib.hid (H.out.G2 W1 m1)
  have M1 := Lib.hid m1
  clear m1
  go_wp2_with fail
  refine G2.out.mono ?_
  rintro e W2 ⟨rfl, m2⟩
  obtain ⟨⟨b0, b1, f0, f1⟩, hB, hx, hlt⟩ := H.out.two M1.out m2
  clear m2
  go_wp2_with fail
  refine (HI.out W2).mono ?_
  rintro e w' ⟨rfl, rfl⟩
  go_wp2
  exact bodyPost_ret (v := .tuple #[.agg #[.int .u64 0, .slice none 0 0], .int .i64 0, .int .i64 5]) (by simp [results, Try.results31, go_sem, b0, b1]) rfl ⟨rfl, (hB.setCell (p := ⟨w.heap.size, 0, none⟩) (Nat.le_refl _) _).setCell (p := ⟨w.heap.size, 1, none⟩) (Nat.le_refl _) _⟩
set_option maxRecDepth 100000 in
set_option maxHeartbeats 1000000 in
theorem getItem_w4 {A : Option Addr} {len c : Nat} {w w0 W : World} {q k j m : Nat} {id : Int} {xs : List Int} (h : Pre A len c w w0 W q k j m id xs) (hd : isDimB m = true) (hlen : len ≤ 140737488355328) (hs : k + j ≤ len) (hlt : len - (k + j) < m) (hm : m ≤ 64) :
    Calls Try.prog 31 #[.slice A len c] w fun e w' => e = itNo 4 ∧ Below w.heap.size w w' := by
  have HI := Lib.hid (fun W => isDim_any (m : Int) W)
  rw [hd] at HI
  have hw0 := h.hw0
  have H := Lib.hid h
  clear h hd
  have hs' : (k : Int) + j ≤ len := by omega
  have hlt' : (len : Int) - ((k : Int) + j) < m := by omega
  clear hs hlt
  go_enter Try.func31, Try.ntmps31
  go_wp2_with fail
  refine H.out.HR.mono ?_
  rintro e w' ⟨rfl, rfl⟩
  clear hw0
  go_wp2_with fail
  refine H.out.G1.mono ?_
  rintro e W1 ⟨rfl, m1⟩
  have G2 := Lib.hid (H.out.G2 W1 m1)
  have M1 := Lib.hid m1
  clear m1
  go_wp2_with fail
  refine G2.out.mono ?_
  rintro e W2 ⟨rfl, m2⟩
  obtain ⟨⟨b0, b1, f0, f1⟩, hB, hx, hlt⟩ := H.out.two M1.out m2
  clear m2
  go_wp2_with fail
  refine (HI.out W2).mono ?_
  rintro e w' ⟨rfl, rfl⟩
  go_wp2
  exact bodyPost_ret (v := .tuple #[.agg #[.int .u64 0, .slice none 0 0], .int .i64 0, .int .i64 4]) (by simp [results, Try.results31, go_sem, b0, b1]) rfl ⟨rfl, (hB.setCell (p := ⟨w.heap.size, 0, none⟩) (Nat.le_refl _) _).setCell (p := ⟨w.heap.size, 1, none⟩) (Nat.le_refl _) _⟩

set_option maxRecDepth 100000 in
set_option maxHeartbeats 1000000 in
theorem getItem_w5 {A : Option Addr} {len c : Nat} {w w0 W : World} {q k j m : Nat} {id : Int} {xs : List Int} (h : Pre A len c w w0 W q k j m id xs) (hd : isDimB m = true) (hlen : c ≤ 9223372036854775807 ∧ len ≤ 140737488355328) (hlc : len ≤ c) (hs : k + j + m ≤ len) (hm0 : 0 < m) (hm : m ≤ 64) (hb : ∀ x ∈ xs, 0 ≤ x ∧ x ≤ 255) :
    Calls Try.prog 31 #[.slice A len c] w fun e w' => ∃ g, e = .returned (.tuple #[.agg #[.int .u64 id, .slice (some ⟨g, 0, none⟩) m m], .int .i64 ((k : Int) + j + m), .int .i64 0]) ∧
    w'.ownsRow w.heap.size 74 1 (.slice (some ⟨g, 0, none⟩) m m) m (((((xs.drop (k + j)).take m)).map sgn).map (Value.int .i8)) ∧ Below w.heap.size w w' := by
  have HI := Lib.hid (fun W => isDim_any (m : Int) W)
  rw [hd] at HI
  have hw0 := h.hw0
  have H := Lib.hid h
  clear h hd
  have hs' : (k : Int) + j + m ≤ len := by omega
  have hcc : ¬ c = k + j := by omega
  obtain ⟨s, hS⟩ : ∃ s : Nat, (k : Int) + j = s ∧ k + j = s := ⟨k + j, by omega, rfl⟩
  go_enter Try.func31, Try.ntmps31
  go_wp2_with fail
  refine H.out.HR.mono ?_
  rintro e w' ⟨rfl, rfl⟩
  clear hw0
  go_wp2_with fail
  refine H.out.G1.mono ?_
  rintro e W1 ⟨rfl, m1⟩
  have G2 := H.out.G2 W1 m1
  rw [hS.1] at G2 hs'
  have G2' := Lib.hid G2
  have M1 := Lib.hid m1
  rw [hS.2] at hcc hs
  have HS := Lib.hid hS
  clear m1 G2 hS
  go_wp2_with fail
  refine G2'.out.mono ?_
  rintro e W2 ⟨rfl, m2⟩
  obtain ⟨⟨b0, b1, f0, f1⟩, hB, hx, hlt⟩ := H.out.two M1.out m2
  clear m2
  go_wp2_with fail
  refine (HI.out W2).mono ?_
  rintro e w' ⟨rfl, rfl⟩
  have hxs := H.out.hl
  have hrd : Rd .u8 W2 W2.heap.size (A.map (·.add s)) ((xs.drop s).take m) := by
    have := (hx.drop (n := s) (cap := c) (by omega)).take m
    rw [if_neg hcc] at this
    exact this.more (by omega)
  have H78 := Lib.hid (signed_any (A.map (·.add s)) (c - s) ((xs.drop s).take m) m (by rw [List.length_take, List.length_drop]; omega) W2 hrd (byte_take (byte_drop hb _) _) (by rw [List.length_take]; omega))
  clear hrd hx hxs
  go_wp2_with fail
  refine H78.out.mono ?_
  rintro e W3 ⟨rfl, hB3, hown⟩
  have c0 : W3.cell? ⟨w.heap.size, 0, none⟩ = some (.int .u64 0) := (hB3.cell (p := ⟨w.heap.size, 0, none⟩) hlt).trans b0
  have c1 : W3.cell? ⟨w.heap.size, 1, none⟩ = some (.slice none 0 0) := (hB3.cell (p := ⟨w.heap.size, 1, none⟩) hlt).trans b1
  have e0 : W3.frozen? ⟨w.heap.size, 0, none⟩ = false := (hB3.frozen (p := ⟨w.heap.size, 0, none⟩) hlt).trans f0
  have e1 : W3.frozen? ⟨w.heap.size, 1, none⟩ = false := (hB3.frozen (p := ⟨w.heap.size, 1, none⟩) hlt).trans f1
  have hB4 : Below w.heap.size w W3 := hB.trans (hB3.mono (by omega))
  clear b0 b1 f0 f1 H78 hB hB3
  go_wp2
  refine bodyPost_ret (v := .tuple #[.agg #[.int .u64 id, .slice (some ⟨W2.heap.size, 0, none⟩) m m], .int .i64 ((s : Int) + m), .int .i64 0]) (by simp [results, Try.results31, go_sem, c0, c1]) rfl ?_
  refine ⟨W2.heap.size, by rw [HS.out.1], ?_, (hB4.setCell (p := ⟨w.heap.size, 0, none⟩) (Nat.le_refl _) _).setCell (p := ⟨w.heap.size, 1, none⟩) (Nat.le_refl _) _⟩
  rw [HS.out.2]
  have o1 := ownsRow_setCell_below hown (a := ⟨w.heap.size, 0, none⟩) hlt (.int .u64 id)
  have o2 := ownsRow_setCell_below o1 (a := ⟨w.heap.size, 1, none⟩) hlt (.slice (some ⟨W2.heap.size, 0, none⟩) m m)
  exact owns_base o2 (by omega)

theorem getItem_mk (A : Option Addr) (c : Nat) (xs : List Int) (w : World) (hx : Rd .u8 w w.heap.size A xs) (hb : ∀ x ∈ xs, 0 ≤ x ∧ x ≤ 255) (hc : xs.length ≤ c) (hm : c ≤ 9223372036854775807 ∧ xs.length ≤ 140737488355328)
    (hE : getE xs = 0) (hE2 : getE (itR xs) = 0) : ∃ w0 W q k j m, Pre A xs.length c w w0 W q k j m (getN xs) xs ∧ getN (itR xs) = (m : Int) ∧ getK (itR xs) = (j : Int) ∧ getK xs = (k : Int) ∧ itR xs = xs.drop k ∧ k + j ≤ xs.length := by
  obtain ⟨w0, W, q, hw0, HR, hres, hBW, h1, h2, h3, hp, hq, hf, hxW⟩ := getItem_pre A c xs w hx
  have g1 := next_ok A c xs w0.heap.size q 0 W _ hxW hb hc hm hp hq hf (by omega) (by simpa using hE)
  simp only [List.drop_zero, Int.natCast_zero, Int.zero_add] at g1
  obtain ⟨_, hN0, hNm, hk0, hkl, hk9⟩ := put_got xs hb hE
  obtain ⟨k, hk⟩ : ∃ k : Nat, getK xs = k := ⟨(getK xs).toNat, by omega⟩
  have hR : itR xs = xs.drop k := by unfold itR; rw [hk]; rfl
  rw [hk] at g1
  obtain ⟨_, hM0, hMm, hj0, hjl, hj9⟩ := put_got (itR xs) (by rw [hR]; exact byte_drop hb _) hE2
  obtain ⟨j, hj⟩ : ∃ j : Nat, getK (itR xs) = j := ⟨(getK (itR xs)).toNat, by omega⟩
  obtain ⟨m, hmm⟩ : ∃ m : Nat, getN (itR xs) = m := ⟨(getN (itR xs)).toNat, by omega⟩
  have hlR : (itR xs).length = xs.length - k := by rw [hR, List.length_drop]
  refine ⟨w0, W, q, k, j, m, ⟨hw0, HR.out, g1, ?_, hres, hBW, h1, h2, h3, hxW, rfl⟩, hmm, hj, hk, hR, by omega⟩
  rintro W1 ⟨hB1, hq1, hf1⟩
  have := next_ok A c xs w0.heap.size q k W1 _ (hxW.below (hB1.mono (by omega))) hb hc hm ((hB1.cell (p := ⟨w0.heap.size, 0, none⟩) h2).trans hp) hq1 hf1 (by omega) (by rw [← hR]; exact hE2)
  rw [← hR, hj, hmm] at this
  exact this
theorem isDim_of {m : Nat} (h : isDimB m = true) : 0 < m ∧ m ≤ 64 := by unfold isDimB at h; simp at h; omega
theorem getItem_bad (A : Option Addr) (c : Nat) (xs : List Int) (n : Nat) (hn : n = xs.length) (w : World) (hx : Rd .u8 w w.heap.size A xs) (hb : ∀ x ∈ xs, 0 ≤ x ∧ x ≤ 255) (hc : xs.length ≤ c) (hm : c ≤ 9223372036854775807 ∧ xs.length ≤ 140737488355328) (h : itE xs ≠ 0) :
    Calls Try.prog 31 #[.slice A n c] w fun e w' => e = itNo (itE xs) ∧ Below w.heap.size w w' := by
  subst hn
  by_cases hE : getE xs = 0
  · by_cases hE2 : getE (itR xs) = 0
    · obtain ⟨w0, W, q, k, j, m, hpre, e1, e2, e3, e4, e5⟩ := getItem_mk A c xs w hx hb hc hm hE hE2
      have hlR : (itR xs).length = xs.length - k := by rw [e4, List.length_drop]
      cases hd : isDimB (m : Int) with
      | false =>
        have : itE xs = 5 := by unfold itE; rw [if_neg (by omega), if_neg (by omega), e1, if_pos hd]
        rw [this]
        exact getItem_w3 hpre hd
      | true =>
        obtain ⟨hm0, hm64⟩ := isDim_of hd
        by_cases hlt : ((itR xs).length : Int) - getK (itR xs) < getN (itR xs)
        · have : itE xs = 4 := by unfold itE; rw [if_neg (by omega), if_neg (by omega), e1, if_neg (by rw [hd]; decide), if_pos (by rw [e1] at hlt; exact hlt)]
          rw [this]
          exact getItem_w4 hpre hd (by omega) e5 (by omega) hm64
        · exfalso
          apply h
          unfold itE; rw [if_neg (by omega), if_neg (by omega), e1, if_neg (by rw [hd]; decide), if_neg (by rw [e1] at hlt; exact hlt)]
    · have : itE xs = getE (itR xs) := by unfold itE; rw [if_neg (by omega), if_pos hE2]
      rw [this]
      exact getItem_no2 A c xs _ rfl w hx hb hc hm hE hE2
  · have : itE xs = getE xs := by unfold itE; rw [if_pos hE]
    rw [this]
    exact getItem_no1 A c xs _ rfl w hx hb hc hm hE
/-- What follows where GetItem answers no error. -/
theorem itE_zero {xs : List Int} (h : itE xs = 0) : getE xs = 0 ∧ getE (itR xs) = 0 ∧ isDimB (getN (itR xs)) = true ∧ ¬ ((itR xs).length : Int) - getK (itR xs) < getN (itR xs) := by
  unfold itE at h
  by_cases h1 : getE xs = 0
  · rw [if_neg (by omega)] at h
    by_cases h2 : getE (itR xs) = 0
    · rw [if_neg (by omega)] at h
      cases h3 : isDimB (getN (itR xs)) with
      | false => rw [if_pos h3] at h; omega
      | true =>
        rw [if_neg (by rw [h3]; decide)] at h
        refine ⟨h1, h2, rfl, fun h4 => ?_⟩
        rw [if_pos h4] at h; omega
    · rw [if_pos h2] at h; omega
  · rw [if_pos h1] at h; omega
theorem getItem_good (A : Option Addr) (c : Nat) (xs : List Int) (n : Nat) (hn : n = xs.length) (w : World) (hx : Rd .u8 w w.heap.size A xs) (hb : ∀ x ∈ xs, 0 ≤ x ∧ x ≤ 255) (hc : xs.length ≤ c) (hm : c ≤ 9223372036854775807 ∧ xs.length ≤ 140737488355328) (h : itE xs = 0) :
    Calls Try.prog 31 #[.slice A n c] w (GetItemYes w xs) := by
  subst hn
  obtain ⟨hE, hE2, hd, hlt⟩ := itE_zero h
  obtain ⟨w0, W, q, k, j, m, hpre, e1, e2, e3, e4, e5⟩ := getItem_mk A c xs w hx hb hc hm hE hE2
  have hlR : (itR xs).length = xs.length - k := by rw [e4, List.length_drop]
  rw [e1] at hd
  obtain ⟨hm0, hm64⟩ := isDim_of hd
  refine (getItem_w5 hpre hd hm hc (by omega) hm0 hm64 hb).mono ?_
  rintro e w' ⟨g, he, hown, hB⟩
  have hV : itV xs = (xs.drop (k + j)).take m := by
    unfold itV; rw [e2, e1, e4, List.drop_drop]; rfl
  have hVl : (itV xs).length = m := by rw [hV, List.length_take, List.length_drop]; omega
  have hK : itK xs = (k : Int) + j + m := by unfold itK; rw [e3, e2, e1]
  refine ⟨g, ?_, ?_, hB⟩
  · rw [hVl, hK]; exact he
  · rw [hVl, hV]; exact hown
end Go.Proofs.Ytlkkmeeijjaeiaa
