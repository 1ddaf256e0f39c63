/- Mathematics of what is picked, and the walk of DrawsFirst. -/
import Derived.Test.YtmlfcnjfaonaiaaDh
import Derived.Deep.QuietTactic
import Derived.BigQuiet
import Derived.Deep.RegionHeld3
namespace Go.Proofs.Ytmlfcnjfaonaiaa
open Go.RowKit Go.Shelf
set_option linter.unusedVariables false
/-- Past a number. -/
def past (y i : Nat) : Nat := if y ≤ i then i + 1 else i
theorem but_one (y : Nat) : ∀ k, (List.range k).filter (fun i => decide (i ≠ y)) = if y < k then (List.range (k - 1)).map (past y) else List.range k
  | 0 => by simp
  | k + 1 => by
    rw [List.range_succ, List.filter_append, but_one y k]
    by_cases h1 : y < k
    · have e : k = (k - 1) + 1 := by omega
      have h2 : k ≠ y := by omega
      rw [if_pos h1, if_pos (by omega), Nat.add_sub_cancel]
      conv => rhs; rw [e, List.range_succ, List.map_append]
      simp [h2, past]
      split <;> omega
    · rw [if_neg h1]
      by_cases h2 : y = k
      · subst h2
        rw [if_pos (by omega), Nat.add_sub_cancel]
        simp
        symm
        apply List.ext_getElem
        · simp
        · intro i h3 h4
          simp at h3
          simp [past]; omega
      · rw [if_neg (by omega)]
        have h3 : k ≠ y := fun e => h2 e.symm
        simp [h3]
theorem pick_most (s q : Nat) : pkL s (q + 1) q = (List.range q).map (past ((shufL s (q + 1))[q]?.getD 0)) := by
  have hl := shufL_len s (q + 1)
  have hq : q < (shufL s (q + 1)).length := by omega
  have e : (shufL s (q + 1)).take q ++ [(shufL s (q + 1))[q]?.getD 0] = shufL s (q + 1) := by
    rw [List.getElem?_eq_getElem hq, Option.getD_some, ← List.take_succ_eq_append_getElem hq, List.take_of_length_le (by omega)]
  have hy := shufL_lt (s := s) (n := q + 1) (i := q) (by omega)
  have hn := shufL_nodup s (q + 1)
  rw [← e] at hn
  have hm : ∀ i, i < q + 1 → (i ∈ (shufL s (q + 1)).take q ∨ i = (shufL s (q + 1))[q]?.getD 0) := fun i hi => by
    have := (shufL_mem s (q + 1) i).2 hi
    rw [← e, List.mem_append, List.mem_singleton] at this
    exact this
  unfold pkL pickL
  revert hy hn hm
  generalize (shufL s (q + 1))[q]?.getD 0 = y
  intro hy hn hm
  have hd : ∀ i, i ∈ (shufL s (q + 1)).take q → i ≠ y := fun i hi e => (List.nodup_append.1 hn).2.2 _ hi _ (List.mem_singleton.2 rfl) e
  have := but_one y (q + 1)
  rw [if_pos hy, Nat.add_sub_cancel] at this
  rw [← this]
  apply List.filter_congr
  intro i hi
  rw [decide_eq_decide]
  exact ⟨fun h => hd i h, fun h => (hm i (List.mem_range.1 hi)).resolve_right h⟩
theorem pick_first (s q : Nat) : pkL s (q + 1) 1 = [(shufL s (q + 1))[0]?.getD 0] := by
  have h1 := pkL_len (s := s) (n := q + 1) (k := 1) (by omega)
  obtain ⟨a, ha⟩ := List.length_eq_one_iff.1 h1
  have hm : a ∈ pkL s (q + 1) 1 := by rw [ha]; simp
  rw [pkL_mem] at hm
  have hl : 0 < (shufL s (q + 1)).length := by rw [shufL_len]; omega
  rw [ha]
  rw [List.take_one] at hm
  rw [List.getElem?_eq_getElem hl]
  rw [List.head?_eq_getElem?, List.getElem?_eq_getElem hl] at hm
  simp at hm
  rw [hm]; rfl
theorem rd_cell {k : IntKind} {w : World} {B g i : Nat} {xs : List Int} (h : Rd k w B (some ⟨g, 0, none⟩) xs) (hi : i < xs.length) : w.cell? ⟨g, i, none⟩ = some (.int k (xs[i]?.getD 0)) := by
  obtain ⟨b, off, hA, hB, hc⟩ := h (by omega)
  cases hA
  have := hc i hi
  rwa [Nat.zero_add] at this
theorem pick_row (s n k : Nat) (hn : n ≤ 2048) (hk : k ≤ n) (w : World) : Calls Try.prog 16 #[.int .u64 s, .int .i64 n, .int .i64 k] w fun e w' =>
    ∃ g c, e = .returned (.tuple #[.slice (some ⟨g, 0, none⟩) k c, .int .u64 (shufS s n : Nat), .int .i64 0]) ∧ Rd .i64 w' w'.heap.size (some ⟨g, 0, none⟩) (ints (pkL s n k)) ∧ Below w.heap.size w w' :=
  (pick_yes s n k hn hk w).mono fun e w' ⟨v, he, hv, ho, hb⟩ => by
    have hl : (ints (pkL s n k)).length = k := by rw [ints_len, pkL_len hk]
    rcases ho.2 with ⟨rfl, h0⟩ | ⟨g, cap, cur, rfl, h1, h2, h3, h4⟩
    · exact absurd rfl hv
    · exact ⟨g, cap, he, rd_own ho, hb⟩
set_option maxRecDepth 100000 in
set_option maxHeartbeats 4000000 in
theorem drawsFirst_yes (s n : Nat) (hs : s < 18446744073709551616) (hn : n < 65536) (w : World) : Calls Try.prog 9 #[.int .u64 s, .int .u16 n] w fun e w' => e = .returned (.bool true) ∧ Below w.heap.size w w' := by
  obtain ⟨q, hq⟩ : ∃ q, n % 2048 = q := ⟨_, rfl⟩
  have hq1 : q ≤ 2047 := by omega
  have hki : (n : Int) % 2048 + 1 = ((q + 1 : Nat) : Int) := by omega
  have hkq : ((q + 1 : Nat) : Int) - 1 = ((q : Nat) : Int) := by omega
  have HS := callsIn_wide.1 (shuffle_yes s (q + 1) (by omega) w)
  have H1 := fun w => pick_row s (q + 1) 1 (by omega) (by omega) w
  have H2 := fun w => pick_row s (q + 1) q (by omega) (by omega) w
  rw [pick_first] at H1
  rw [pick_most] at H2
  have L1 := shufL_len s (q + 1)
  obtain ⟨k, hk⟩ : ∃ k, q + 1 = k := ⟨_, rfl⟩
  have hqk : k = q + 1 := by omega
  rw [hk] at hki hkq HS L1
  simp only [hk] at H1 H2
  obtain ⟨L, eL⟩ : ∃ L, shufL s k = L := ⟨_, rfl⟩
  obtain ⟨t, et⟩ : ∃ L, shufS s k = L := ⟨_, rfl⟩
  rw [eL, et] at HS
  rw [eL] at L1
  simp only [eL, et] at H1 H2
  clear hk hq eL et
  have HS' := Lib.hid HS
  have H1' : Hid (∀ w, Calls Try.prog 16 #[.int .u64 s, .int .i64 k, .int .i64 1] w fun e w' => ∃ g c, e = .returned (.tuple #[.slice (some ⟨g, 0, none⟩) 1 c, .int .u64 (t : Nat), .int .i64 0]) ∧ Rd .i64 w' w'.heap.size (some ⟨g, 0, none⟩) (ints [L[0]?.getD 0]) ∧ Below w.heap.size w w') := H1
  have H2' := Lib.hid H2
  have L1' := Lib.hid L1
  have hqk' := Lib.hid hqk
  have HA := Lib.hid (fun w => alive_any w)
  clear HS H1 H2 L1 hqk
  go_enter Try.func9, Try.ntmps9
  go_wp2_with (first
    | (go_at_call 15; (with_reducible refine HS'.out.mono ?_); rintro e W1 ⟨g, rfl, hg, hw, hb⟩; have HW := Lib.hid hw; clear hw)
    | (go_at_call 16; (with_reducible refine (H1'.out _).mono ?_); rintro e W2 ⟨g1, c1, rfl, hr1, hb1⟩; have HR1 := Lib.hid hr1; clear hr1)
    | (go_at_call 16; (with_reducible refine (H2'.out _).mono ?_); rintro e W3 ⟨g2, c2, rfl, hr2, hb2⟩; have HR2 := Lib.hid hr2; clear hr2))
  have WG := Lib.hid ((HW.out.below hb1 HW.out.lt).below hb2 (Nat.lt_of_lt_of_le HW.out.lt hb1.size))
  have bB := Lib.hid ((hb.trans (hb1.mono hb.size)).trans (hb2.mono (Nat.le_trans hb.size hb1.size)))
  have R1 := Lib.hid ((HR1.out.below hb2).more hb2.size)
  have hL0 : 0 < L.length := by have := L1'.out; have := hqk'.out; omega
  obtain ⟨a, ha⟩ : ∃ a, L[0]?.getD 0 = a := ⟨_, rfl⟩
  have KC : Hid (∀ W, Below W3.heap.size W3 W → W.cell? ⟨g, 0, none⟩ = some (.int .i64 (a : Nat)) ∧ W.cell? ⟨g1, 0, none⟩ = some (.int .i64 (a : Nat))) := fun W hW => by
    have z1 := ((WG.out.below hW WG.out.lt).cell 0).trans (rowI_at hL0)
    have z2 := rd_cell (R1.out.below hW) (i := 0) (by simp [ints])
    rw [ha] at z1 z2
    exact ⟨z1, z2⟩
  have PA : Hid (∀ W, Below W3.heap.size W3 W → Calls Try.prog 14 #[] W fun e W' => e = .returned (.bool true) ∧ Below W3.heap.size W3 W' ∧ W'.cell? ⟨g, 0, none⟩ = some (.int .i64 (a : Nat)) ∧ W'.cell? ⟨g1, 0, none⟩ = some (.int .i64 (a : Nat))) := fun W hW =>
    (alive_any W).mono fun e W' ⟨h1, h2⟩ => by
      have h3 := hW.trans (h2.mono hW.size)
      exact ⟨h1, h3, KC.out W' h3⟩
  have kc0 : W3.drew.cell? ⟨g, 0, none⟩ = some (.int .i64 (a : Nat)) := (KC.out W3 (Below.refl _ _)).1
  have kc1 : W3.drew.cell? ⟨g1, 0, none⟩ = some (.int .i64 (a : Nat)) := (KC.out W3 (Below.refl _ _)).2
  have hm0 : Below W3.heap.size W3 W3.drew := (Below.refl _ _).drew
  have e1 : ((a : Int) != (a : Int)) = false := by simp
  have e2 : ((t : Int) != (t : Int)) = false := by simp
  have e3 : ((k : Int) != (k : Int)) = false := by simp
  have e4 : ((q : Int) != (q : Int)) = false := by simp
  have hwq : IntKind.i64.wrap (q : Int) = (q : Int) := by rw [IntKind.wrap_i64]; omega
  have hk0 : (0 : Int) < (k : Int) := by have := hqk'.out; omega
  have hk1 : 0 < k := by omega
  have HA0 := Lib.hid ha
  clear KC ha hL0 hb hb1 hb2 HW HR1 R1 HS' H1' H2' HA hki
  go_region_held3 (fun w' => w'.cell? ⟨g, 0, none⟩ = some (.int .i64 (a : Nat)) ∧ w'.cell? ⟨g1, 0, none⟩ = some (.int .i64 (a : Nat)) ∧ Below W3.heap.size W3 w')
    (first | exact ⟨by with_reducible assumption, by with_reducible assumption, by with_reducible assumption⟩)
    (first
      | (go_at_call 14; (with_reducible refine (PA.out _ (by with_reducible assumption)).mono ?_); rintro e W4 ⟨rfl, hb4, ea4, eb4⟩))
  clear kc0 kc1 ea4 eb4 hm0 e1 e2 e3 e4 hwq PA hk0 hk1
  have hqk2 : (q : Int) < (k : Int) := by have := hqk'.out; omega
  have hqL : q < L.length := by have := L1'.out; have := hqk'.out; omega
  obtain ⟨y, hy⟩ : ∃ y, L[q]?.getD 0 = y := ⟨_, rfl⟩
  have cy := ((WG.out.below hb4 WG.out.lt).cell q).trans (rowI_at hqL)
  have HR := HR2.out.below hb4
  rw [hy] at cy HR
  have HC := Lib.hid (fun i (hi : i < q) => rd_cell HR (i := i) (by rw [ints_len]; simpa using hi))
  have HB4 := Lib.hid hb4
  clear HR hy hqL HR2 hb4
  go_wp2_with fail
  go_loopw [15] (fun i wr => ∃ j : Nat, j ≤ q ∧ i = .int .i64 j ∧ wr = W4) (fun i _ => q - (intOf i).toNat)
  case atStart => exact ⟨0, by omega, rfl, rfl⟩
  case round =>
    obtain ⟨j, hj, rfl, rfl⟩ := hrel
    by_cases hlt : j < q
    · have c0 := HC.out j hlt
      rw [ints_at, List.getElem?_map, List.getElem?_range hlt] at c0
      by_cases hyj : y ≤ j
      · have c1 : wr.cell? ⟨g2, j, none⟩ = some (.int .i64 ((j : Int) + 1)) := by
          rw [c0]; simp [past, hyj]
        have e1 : decide ((y : Int) ≤ (j : Int)) = true := decide_eq_true (by omega)
        have e2 : ((j : Int) + 1 != (j : Int) + 1) = false := by simp
        clear c0
        go_wp2
        go_roundw
        case rel => exact ⟨j + 1, by omega, by go_num, trivial⟩
        case measure => simp [intOf]; omega
      · have c1 : wr.cell? ⟨g2, j, none⟩ = some (.int .i64 (j : Int)) := by
          rw [c0]; simp [past, hyj]
        have e1 : decide ((y : Int) ≤ (j : Int)) = false := decide_eq_false (by omega)
        have e2 : ((j : Int) != (j : Int)) = false := by simp
        clear c0
        go_wp2
        go_roundw
        case rel => exact ⟨j + 1, by omega, by go_num, trivial⟩
        case measure => simp [intOf]; omega
    · obtain rfl : j = q := by omega
      go_wp2
      go_ret
      exact ⟨rfl, bB.out.trans (HB4.out.mono bB.out.size)⟩
end Go.Proofs.Ytmlfcnjfaonaiaa
