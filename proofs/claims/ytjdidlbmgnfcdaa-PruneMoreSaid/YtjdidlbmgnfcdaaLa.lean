/- The walks of the program's isPlace, within, Setup, Find (layer 9), and of slices.Index and slices.Contains. -/
import Derived.Test.YtjdidlbmgnfcdaaKg
namespace Go.Proofs.Ytjdidlbmgnfcdaa
open Go.RowKit
set_option linter.unusedVariables false
set_option maxRecDepth 100000 in
theorem isPlace_any (p n : Int) (w : World) :
    Calls Try.prog 47 #[.int .i64 p, .int .i64 n] w fun e w' => e = .returned (.bool (decide (0 ≤ p ∧ p < n))) ∧ w' = w := by
  go_enter Try.func47, Try.ntmps47
  go_wp2
  all_goals
    go_ret
    refine ⟨retb ?_, rfl⟩
    first
      | (rw [decide_eq_decide]; omega)
      | (simp; omega)
set_option maxRecDepth 100000 in
theorem within_any (p n : Int) (w : World) :
    Calls Try.prog 46 #[.int .i64 p, .int .i64 n] w fun e w' => e = .returned (.bool (decide (1 ≤ p ∧ p ≤ n))) ∧ w' = w := by
  go_enter Try.func46, Try.ntmps46
  go_wp2
  all_goals
    go_ret
    refine ⟨retb ?_, rfl⟩
    first
      | (rw [decide_eq_decide]; omega)
      | (simp; omega)
set_option maxRecDepth 100000 in
set_option maxHeartbeats 4000000 in
theorem setup_any (d g b n m : Int) (w : World) :
    Calls Try.prog 27 #[.agg #[.int .i64 d, .int .i64 g, .int .i64 b, .int .i64 n, .int .i64 m]] w fun e w' => e = .returned (.bool (setupB d g b n m)) ∧ Below w.heap.size w w' := by
  have W0 := Whole.new w 26 #[.int .i64 d, .int .i64 g, .int .i64 b, .int .i64 n, .int .i64 m]
  have HB := Lib.hid (below_one (Below.refl w.heap.size w) (.cells #[.int .i64 d, .int .i64 g, .int .i64 b, .int .i64 n, .int .i64 m] 26))
  have p0 := W0.cell 0
  have p1 := W0.cell 1
  have p2 := W0.cell 2
  have p3 := W0.cell 3
  have p4 := W0.cell 4
  clear W0
  go_enter Try.func27, Try.ntmps27
  go_wp2_with (go_at_call 46; refine (within_any _ _ _).mono ?_; rintro e w1 ⟨rfl, rfl⟩)
  all_goals
    go_ret
    refine ⟨retb ?_, HB.out⟩
    unfold setupB
    first
      | (symm; exact decide_eq_false (by omega))
      | (rw [Bool.eq_iff_iff]; simp only [decide_eq_true_eq]; omega)
set_option maxRecDepth 100000 in
set_option maxHeartbeats 4000000 in
theorem find_any (A : Option Addr) (c : Nat) (L : List Gn) (s id : Int) (w : World) (D : Nat) (hD : D ≤ w.heap.size) (hx : RdG w D A L) (hl : L.length ≤ 20000) :
    Calls Try.prog 12 #[.agg #[.slice A L.length c, .int .i64 s], .int .u64 id] w fun e w' => e = .returned (.int .i64 (findI (pns L) id)) ∧ Below w.heap.size w w' := by
  have W0 := Whole.new w 24 #[.slice A L.length c, .int .i64 s]
  have B0 : Below w.heap.size w (w.alloc (.cells #[.slice A L.length c, .int .i64 s] 24)) := below_one (Below.refl _ _) _
  have HX := Lib.hid hx
  have HL := Lib.hid (pns_len L)
  have p0 := W0.cell 0
  have HB0 := Lib.hid B0
  clear W0 hx B0
  go_enter Try.func12, Try.ntmps12
  go_wp2
  clear p0
  obtain ⟨w1, ew1⟩ : ∃ w1, w.alloc (.cells #[.slice A L.length c, .int .i64 s] 24) = w1 := ⟨_, rfl⟩
  rw [ew1] at HB0 ⊢
  clear ew1
  go_loopw [5, 6, 10] (fun _ _ i wr => ∃ k : Nat, k ≤ L.length ∧ i = .int .i64 k ∧ Hid (Below w.heap.size w wr) ∧ Hid (∀ j, j < k → (nAt (pns L) j).1 ≠ id)) (fun _ _ i _ => L.length - (intOf i).toNat)
  case atStart => exact ⟨0, by omega, rfl, HB0, Lib.hid (fun j hj => absurd hj (Nat.not_lt_zero _))⟩
  case round =>
    clear HB0
    obtain ⟨k, hk, rfl, HB, HF⟩ := hrel
    by_cases hlt : k < L.length
    · have e1 : decide ((k : Int) < (L.length : Int)) = true := decide_eq_true (by omega)
      obtain ⟨b, off, id', a1, c1, v, a2, c2, o, rfl, hBb, h1, h2, h3, hr1, hr2, hv⟩ := HX.out.at_ hlt
      have bW : Below D w wr := HB.out.mono hD
      have h1' : wr.cell? ⟨b, off + k * 3, none⟩ = some (.int .u64 id') := (bW.cell (p := ⟨b, off + k * 3, none⟩) hBb).trans h1
      have h2' : wr.cell? ⟨b, off + k * 3 + 1, none⟩ = some (.slice a1 v.length c1) := (bW.cell (p := ⟨b, off + k * 3 + 1, none⟩) hBb).trans h2
      have h3' : wr.cell? ⟨b, off + k * 3 + 2, none⟩ = some (.slice a2 o.length c2) := (bW.cell (p := ⟨b, off + k * 3 + 2, none⟩) hBb).trans h3
      have x1 : (0 : Int) ≤ (k : Int) := by omega
      have x2 : (k : Int) < (L.length : Int) := by omega
      have en : (nAt (pns L) k).1 = id' := by rw [nAt_get (pns_at hv.out)]
      have HB2 := Lib.hid (HB.out.trans ((below_one (Below.refl _ _) (.cells #[.int .u64 id', .slice a1 v.length c1, .slice a2 o.length c2] 37)).mono HB.out.size))
      clear bW h1 h2 h3 hr1 hr2 hv
      by_cases he : id' = id
      · subst he
        have HR := Lib.hid (findI_at (by rw [HL.out]; exact hlt) en HF.out)
        have e2 : (id' == id') = true := by simp
        clear en
        go_wp2
        go_ret
        exact ⟨ret1 HR.out.symm, HB2.out⟩
      · have HN : Hid (∀ j, j < k + 1 → (nAt (pns L) j).1 ≠ id) := fun j hj => by
          rcases Nat.lt_or_ge j k with h | h
          · exact HF.out j h
          · obtain rfl : j = k := by omega
            rw [en]; exact he
        have e2 : (id' == id) = false := by simpa using he
        clear en he
        go_wp2
        exact ⟨⟨k + 1, by omega, by go_num, HB2, HN⟩, by simp [intOf]; omega⟩
    · obtain rfl : k = L.length := by omega
      have e1 : decide ((L.length : Int) < (L.length : Int)) = false := decide_eq_false (by omega)
      have HR := Lib.hid (findI_none (G := pns L) (id := id) (fun j hj => HF.out j (by rw [HL.out] at hj; exact hj)))
      go_wp2
      go_ret
      exact ⟨ret1 HR.out.symm, HB.out⟩
set_option maxRecDepth 100000 in
set_option maxHeartbeats 4000000 in
/-- slices.Index at int: 0 or more just where the number stands in the list. -/
theorem index_any (A : Option Addr) (c : Nat) (xs : List Int) (n : Nat) (hn : n = xs.length) (a : Int) (w : World) (D : Nat) (hx : Rd .i64 w D A xs) (hl : xs.length ≤ 1000000) :
    Calls Try.prog 64 #[.slice A n c, .int .i64 a] w fun e w' => (∃ r : Int, e = .returned (.int .i64 r) ∧ decide (0 ≤ r) = decide (a ∈ xs)) ∧ ∃ nq, w' = w.drewN nq := by
  subst hn
  go_enter Try.func64, Try.ntmps64
  go_wp2
  go_loopw [5, 8] (fun _ i wr => ∃ k nq : Nat, k ≤ xs.length ∧ i = .int .i64 k ∧ wr = w.drewN nq ∧ Hid (∀ (m : Nat) (t : Int), m < k → xs[m]? = some t → t ≠ a)) (fun _ i _ => xs.length - (intOf i).toNat)
  case atStart => exact ⟨0, 0, by omega, rfl, rfl, Lib.hid (fun m t hm => absurd hm (Nat.not_lt_zero _))⟩
  case round =>
    obtain ⟨k, nq, hk, rfl, rfl, HK⟩ := hrel
    by_cases hlt : k < xs.length
    · have e1 : decide ((k : Int) < (xs.length : Int)) = true := decide_eq_true (by omega)
      obtain ⟨b, off, t, rfl, hBb, hc, hv⟩ := hx.at_ hlt
      have ht : xs[k]? = some t := by rw [← hv.out, List.getElem?_eq_getElem hlt]; rfl
      have HT := Lib.hid ht
      have x1 : (0 : Int) ≤ (k : Int) := by omega
      have x2 : (k : Int) < (xs.length : Int) := by omega
      clear hv ht
      by_cases he : a = t
      · subst he
        have e2 : (a == a) = true := by simp
        go_wp2
        go_ret
        refine ⟨⟨k, rfl, ?_⟩, _, rfl⟩
        rw [decide_eq_true (by omega : (0 : Int) ≤ (k : Int)), decide_eq_true (List.mem_of_getElem? HT.out)]
      · have e2 : (a == t) = false := by simpa using he
        have HN : Hid (∀ (m : Nat) (u : Int), m < k + 1 → xs[m]? = some u → u ≠ a) := fun m u hm hu => by
          rcases Nat.lt_or_ge m k with h | h
          · exact HK.out m u h hu
          · obtain rfl : m = k := by omega
            rw [HT.out] at hu
            injection hu with hu
            subst hu
            exact fun q => he q.symm
        go_wp2
        go_roundw
        case rel => exact ⟨k + 1, _, by omega, by go_num, rfl, HN⟩
        case measure => simp [intOf]; omega
    · obtain rfl : k = xs.length := by omega
      have e1 : decide ((xs.length : Int) < (xs.length : Int)) = false := decide_eq_false (by omega)
      go_wp2
      go_ret
      refine ⟨⟨-1, rfl, ?_⟩, _, rfl⟩
      rw [decide_eq_false (by omega : ¬ (0 : Int) ≤ -1)]
      symm
      refine decide_eq_false (fun hm => ?_)
      obtain ⟨m, hm2, rfl⟩ := List.getElem_of_mem hm
      exact HK.out m _ hm2 (List.getElem?_eq_getElem hm2) rfl
set_option maxRecDepth 100000 in
theorem contains_any (A : Option Addr) (c : Nat) (xs : List Int) (n : Nat) (hn : n = xs.length) (a : Int) (w : World) (D : Nat) (hx : Rd .i64 w D A xs) (hl : xs.length ≤ 1000000) :
    Calls Try.prog 48 #[.slice A n c, .int .i64 a] w fun e w' => e = .returned (.bool (decide (a ∈ xs))) ∧ ∃ nq, w' = w.drewN nq := by
  have H := Lib.hid (index_any A c xs n hn a w D hx hl)
  clear hn
  go_enter Try.func48, Try.ntmps48
  go_wp2_with (go_at_call 64; refine H.out.mono ?_; rintro e w1 ⟨⟨r, rfl, hr⟩, nq, rfl⟩; have HR := Lib.hid hr; clear hr)
  all_goals
    go_ret
    refine ⟨retb ?_, _, rfl⟩
    have := HR.out
    first
      | exact this
      | (rw [← this]; simp; omega)
end Go.Proofs.Ytjdidlbmgnfcdaa
