/- The document's New, Next, All and Len; the calls of a set that is idle. -/
import Derived.Test.YtgcclijdkcomiaaDoorRa
namespace Go.Proofs.YtgcclijdkcomiaaDoor
open Go.RowKit
set_option linter.unusedVariables false
theorem Tryd.info4b : (Tryd.prog.info? 4).map (fun i => (i.zero, i.size, i.bytes)) = some (some (.bool false), 1, 1) := by kernel_rfl
theorem made_bools (q : Nat) (hq : q ≤ 2048) (w : World) :
    (Instr.makeSlice 64 (.int .i64 (q : Int)) (.int .i64 (q : Int))).run Tryd.prog w = .ok (.slice (some ⟨w.heap.size, 0, none⟩) q q) (w.alloc (.cells (boolsOf q f0) 4)) := by
  obtain ⟨i0, hi, hz0, hz1, hz2⟩ := info_parts Tryd.info4b
  have := run_make (P := Tryd.prog) w 64 4 i0 (.bool false) Tryd.underlying64 hi hz0 .i64 .i64 (q : Int) (q : Int) (by omega) (Int.le_refl _) (by rw [hz2]; omega) (by omega)
  rw [this, hz1, Nat.mul_one, Int.toNat_natCast]
  have e : madeCells (Value.bool false).cells q = boolsOf q f0 := by
    apply Array.toList_inj.1
    rw [show (Value.bool false).cells = #[Value.bool false] by rfl, toList_madeCells_one]
    simp [boolsOf, f0, List.map_const']
  rw [e]
theorem rNew_no (n : Int) (h : n < 0 ∨ 2048 < n) (w : World) : Calls Tryd.prog 9 #[.int .i64 n] w fun e w' => e = .returned (.tuple #[.pointer none, .int .i64 1]) ∧ w = w' := by
  rcases h with h | h
  · go_enter Tryd.func9, Tryd.ntmps9
    go_wp2
    go_ret2
    exact ⟨rfl, rfl⟩
  · have h' : decide (n < 0) = false := by simp; omega
    go_enter Tryd.func9, Tryd.ntmps9
    go_wp2
    go_ret2
    exact ⟨rfl, rfl⟩
def RNewYes (n : Nat) (w : World) (e : Ending) (w' : World) : Prop :=
  ∃ b g, e = .returned (.tuple #[.pointer (some ⟨b, 0, none⟩), .int .i64 0]) ∧ RefAt w' b g n f0 ∧ w.heap.size ≤ b ∧ w.heap.size ≤ g ∧ Turn [] w w'
set_option maxRecDepth 100000 in
theorem rNew_yes (n : Nat) (h : n ≤ 2048) (w : World) : Calls Tryd.prog 9 #[.int .i64 n] w (RNewYes n w) := by
  have h1 : decide ((n : Int) < 0) = false := by simp
  have h2 : decide (2048 < (n : Int)) = false := by simp; omega
  have hn := Lib.hid h
  have hmk := made_bools n h
  clear h
  go_enter Tryd.func9, Tryd.ntmps9
  go_wp2
  go_ret2
  refine ⟨w.heap.size + 1, w.heap.size, ?_, ⟨?_, (Whole.new w 4 (boolsOf n f0)).alloc _, by omega, hn.out, fun m _ => rfl⟩, by omega, by omega, ((Turn.refl _ _).alloc _).alloc _⟩
  · simp
  · have := Whole.new (w.alloc (.cells (boolsOf n f0) 4)) 66 #[.slice (some ⟨w.heap.size, 0, none⟩) n n]
    rw [World.size_alloc] at this; exact this
theorem rNext_none (n : Int) (hn : n ≤ 9223372036854775807) (w : World) : Calls Tryd.prog 17 #[.pointer none, .int .i64 n] w fun e w' => e = .returned (.int .i64 (-1)) ∧ w = w' := by
  have h0 : n < 0 ∨ n = 0 ∨ 0 < n := by omega
  rcases h0 with h0 | rfl | h0
  all_goals
    go_enter Tryd.func17, Tryd.ntmps17
    go_wp2
    go_loop [5] (fun i => ∃ k : Int, i = .int .i64 k) (fun _ => 0)
    case atStart => exact ⟨_, rfl⟩
    case round =>
      obtain ⟨k, rfl⟩ := hrel
      go_wp2
      go_ret
      exact ⟨rfl, rfl⟩
theorem next_at (bound : Nat) (f : Nat → Bool) (n : Int) (k : Nat) (hk : k < bound) (hf : f k = true) (h1 : n.toNat ≤ k) (h2 : ∀ j, n.toNat ≤ j → j < k → f j = false) : nextF bound f n = (k : Int) := by
  unfold nextF
  rw [filter_first (fun j => f j && decide (n.toNat ≤ j)) (fun j => (f j && decide (n.toNat ≤ j)) && j != k) bound k hk (by simp [hf, h1]) (fun j hj => by
    by_cases h : n.toNat ≤ j
    · rw [h2 j h hj]; rfl
    · simp [h]) (fun j => rfl)]
  rfl
theorem next_end (bound : Nat) (f : Nat → Bool) (n : Int) (k : Nat) (hk : bound ≤ k) (h2 : ∀ j, n.toNat ≤ j → j < k → f j = false) : nextF bound f n = -1 := by
  unfold nextF
  rw [List.filter_eq_nil_iff.2 (fun a ha => by
    have := List.mem_range.1 ha
    by_cases h : n.toNat ≤ a
    · rw [h2 a h (by omega)]; simp
    · simp [h])]
  rfl
set_option maxRecDepth 100000 in
theorem rNext_any (b g bound : Nat) (f : Nat → Bool) (n : Int) (hn : n ≤ 9223372036854775807) (w : World) (h : RefAt w b g bound f) :
    Calls Tryd.prog 17 #[.pointer (some ⟨b, 0, none⟩), .int .i64 n] w fun e w' => e = .returned (.int .i64 (nextF bound f n)) ∧ w = w' := by
  have c0 := h.blk.cell 0
  have hle := h.le
  have HH := Lib.hid h
  clear h
  obtain ⟨N, hN⟩ : ∃ N : Nat, n.toNat = N := ⟨_, rfl⟩
  have HN := Lib.hid hN
  have hNN : Hid (max 0 n = (N : Int)) := by show _ = _; omega
  clear hN
  have hmx : N ≤ 9223372036854775807 := by have := HN.out; omega
  have h0 : n < 0 ∨ n = 0 ∨ 0 < n := by omega
  rcases h0 with h0 | rfl | h0
  all_goals
    go_enter Tryd.func17, Tryd.ntmps17
    go_wp2
    go_loop [5] (fun i => ∃ k : Nat, N ≤ k ∧ i = .int .i64 k ∧ Hid (∀ j, N ≤ j → j < k → f j = false)) (fun i => bound - (intOf i).toNat)
    case atStart =>
      refine ⟨N, Nat.le_refl _, ?_, fun j h1 h2 => by omega⟩
      first
        | (obtain rfl : N = 0 := by have := HN.out; omega
           rfl)
        | (obtain rfl : n = (N : Int) := by have := HN.out; omega
           rfl)
    case round =>
      obtain ⟨k, hk, rfl, HF⟩ := hrel
      by_cases hlt : k < bound
      · have c1 := bools_cell HH.out.row hlt
        have hkk : (k : Int) < (bound : Int) := by omega
        cases hf : f k
        · rw [hf] at c1
          have HF2 : Hid (∀ j, N ≤ j → j < k + 1 → f j = false) := fun j h1 h2 => by
            rcases Nat.lt_or_ge j k with h | h
            · exact HF.out j h1 h
            · obtain rfl : j = k := by omega
              exact hf
          clear hf
          go_wp2
          go_round
          case rel => exact ⟨k + 1, by omega, by go_num, HF2⟩
          case measure => simp [intOf]; omega
        · rw [hf] at c1
          have E := Lib.hid (fun (z : Int) (hz : z.toNat = N) => next_at bound f z k hlt hf (by rw [hz]; exact hk) (by rw [hz]; exact HF.out))
          clear hf
          go_wp2
          go_ret
          exact ⟨by rw [E.out _ HN.out]; rfl, rfl⟩
      · have E := Lib.hid (fun (z : Int) (hz : z.toNat = N) => next_end bound f z k (by omega) (by rw [hz]; exact HF.out))
        have hkk : decide ((k : Int) < (bound : Int)) = false := decide_eq_false (by omega)
        go_wp2
        go_ret
        exact ⟨by rw [E.out _ HN.out]; rfl, rfl⟩
def RAllYes (l : List Nat) (w : World) (e : Ending) (w' : World) : Prop := ∃ A c, e = .returned (.slice A l.length c) ∧ Rd .i64 w' w'.heap.size A (l.map Int.ofNat) ∧ Turn [] w w'
theorem rAll_none (w : World) : Calls Tryd.prog 20 #[.pointer none] w (RAllYes [] w) := by
  go_enter Tryd.func20, Tryd.ntmps20
  go_wp2
  go_loop [3, 4] (fun v i => v = .slice none 0 0 ∧ i = .int .i64 0) (fun _ _ => 0)
  case atStart => exact ⟨rfl, rfl⟩
  case round =>
    obtain ⟨rfl, rfl⟩ := hrel
    go_wp2
    go_ret
    exact ⟨none, 0, rfl, fun h => by simp at h, Turn.refl _ _⟩
theorem list_snoc (f : Nat → Bool) (k : Nat) : (List.range (k + 1)).filter f = (List.range k).filter f ++ (if f k then [k] else []) := by
  rw [List.range_succ, List.filter_append]
  cases h : f k <;> simp [h]
set_option maxRecDepth 100000 in
set_option maxHeartbeats 1000000 in
theorem rAll_any (b g bound : Nat) (f : Nat → Bool) (w : World) (h : RefAt w b g bound f) :
    Calls Tryd.prog 20 #[.pointer (some ⟨b, 0, none⟩)] w (RAllYes (listF bound f) w) := by
  obtain ⟨i0, hi, hz0, hz1, hz2⟩ := info_parts Tryd.info3i
  have hle := h.le
  have HH := Lib.hid h
  clear h
  go_enter Tryd.func20, Tryd.ntmps20
  go_wp2
  go_loopw [3, 4] (fun v i wr => ∃ k : Nat, k ≤ bound ∧ i = .int .i64 k ∧ Hid (Turn [] w wr) ∧ wr.ownsRow w.heap.size 3 1 v ((List.range k).filter f).length ((((List.range k).filter f).map Int.ofNat).map (Value.int .i64))) (fun _ i _ => bound - (intOf i).toNat)
  case atStart => exact ⟨0, Nat.zero_le _, rfl, Turn.refl _ _, World.ownsRow_nil _ _ _ _⟩
  case round =>
    obtain ⟨k, hk, rfl, T, hown⟩ := hrel
    have R := HH.out.turn T.out (by simp) (by simp)
    have c0 := R.blk.cell 0
    have hs := T.out.size
    obtain ⟨Av, mv, cv, rfl⟩ := own_form hown
    by_cases hlt : k < bound
    · have c1 := bools_cell R.row hlt
      have hkk : (k : Int) < (bound : Int) := by omega
      have HL := Lib.hid (list_snoc f k)
      have hlen : ((List.range k).filter f).length ≤ 2048 := by
        have := List.length_filter_le f (List.range k)
        rw [List.length_range] at this; omega
      cases hf : f k
      · rw [hf] at c1 HL
        have e1 : (List.range (k + 1)).filter f = (List.range k).filter f := by rw [HL.out]; simp
        have E := Lib.hid e1
        clear hf R HL e1
        go_wp2
        go_roundw
        case rel => exact ⟨k + 1, by omega, by go_num, T, by rw [E.out]; exact hown⟩
        case measure => simp [intOf]; omega
      · rw [hf] at c1 HL
        have e1 : (List.range (k + 1)).filter f = (List.range k).filter f ++ [k] := by rw [HL.out]; simp
        have E := Lib.hid e1
        clear hf R HL e1
        revert hown hlen E
        generalize (List.range k).filter f = l
        intro hown hlen E
        go_wp2_with (at_builtin; refine wpList_append_own _ rfl _ _ 37 rfl w.heap.size 3 i0 (.int .i64 0) 1 8 Tryd.underlying37 hi hz0 hz1 hz2 rfl (by decide) _ _ _ rfl (hown.alloc _) ⟨wr.heap.size, 0, none⟩ 1 1 [.int .i64 k] rfl rfl (cell_one_new _ _ _) (by simp [Value.oneCell']) (by show l.length + 1 ≤ 9223372036854775807; omega) (by omega) (by simp; omega) ?_; intro v' w1 hown' hgrow _)
        have T1 : Hid (Turn [] w w1) := (T.out.alloc _).trans (Turn.of_grown hgrow) (fun q hq => by
          simp only [Option.mem_toList] at hq
          exact .inr (hown.lt q hq).1)
        have hown2 : Hid (w1.ownsRow w.heap.size 3 1 v' ((List.range (k + 1)).filter f).length ((((List.range (k + 1)).filter f).map Int.ofNat).map (Value.int .i64))) := by
          rw [Hid, E.out, List.length_append, List.map_append, List.map_append]; exact hown'
        clear hown hown' hgrow T
        go_wp2
        go_roundw
        case rel => exact ⟨k + 1, by omega, by go_num, T1, hown2.out⟩
        case measure => simp [intOf]; omega
    · obtain rfl : k = bound := by omega
      have hkk : decide ((k : Int) < (k : Int)) = false := by simp
      obtain ⟨A', c', hv, hn, hc, rd, nl⟩ := own_slice hown
      rw [List.length_map] at hv
      injection hv with q1 q2 q3
      subst q1 q2 q3
      have RD := Lib.hid rd
      clear R hown hn hc rd nl
      go_wp2
      go_ret
      exact ⟨_, _, rfl, RD.out, T.out⟩
theorem rLen_any (b g bound : Nat) (f : Nat → Bool) (w : World) (h : RefAt w b g bound f) :
    Calls Tryd.prog 22 #[.pointer (some ⟨b, 0, none⟩)] w fun e w' => e = .returned (.int .i64 ((listF bound f).length : Nat)) ∧ Turn [] w w' := by
  have H := Lib.hid (rAll_any b g bound f w h)
  clear h
  go_enter Tryd.func22, Tryd.ntmps22
  go_wp2_with fail
  refine H.out.mono ?_
  intro e w1 h1
  obtain ⟨A, c, rfl, rd, t⟩ := h1
  have T := Lib.hid t
  clear rd t
  go_wp2
  go_ret
  exact ⟨rfl, T.out⟩
theorem rLen_none (w : World) : Calls Tryd.prog 22 #[.pointer none] w fun e w' => e = .returned (.int .i64 0) ∧ Turn [] w w' := by
  have H := Lib.hid (rAll_none w)
  go_enter Tryd.func22, Tryd.ntmps22
  go_wp2_with fail
  refine H.out.mono ?_
  intro e w1 h1
  obtain ⟨A, c, rfl, rd, t⟩ := h1
  have T := Lib.hid t
  clear rd t
  go_wp2
  go_ret
  exact ⟨rfl, T.out⟩
end Go.Proofs.YtgcclijdkcomiaaDoor
