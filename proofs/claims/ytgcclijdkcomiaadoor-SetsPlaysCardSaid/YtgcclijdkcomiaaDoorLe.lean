/- The walk of SetsOrder. -/
import Derived.Test.YtgcclijdkcomiaaDoorLd
import Derived.Deep.QuietTactic
import Derived.BigQuiet
import Derived.Deep.AppendLies
import Derived.Deep.RegionLaw
import Derived.ArgAppend
namespace Go.Proofs.YtgcclijdkcomiaaDoor
open Go.RowKit
set_option linter.unusedVariables false
/-- What of the numbers stands in the set behind additions. -/
theorem addAll_mem (bound : Nat) (xs : List Int) : ∀ (f : Nat → Bool) (m : Nat), addAll bound f xs m = (f m || xs.any (fun n => inB bound n && decide ((m : Int) = n))) := by
  induction xs with
  | nil => intro f m; simp [addAll]
  | cons n r ih =>
    intro f m
    show addAll bound (plus bound f n) r m = _
    rw [ih, List.any_cons]
    unfold plus
    rw [Bool.or_assoc]
/-- Turned about, each twice. -/
def twice (xs : List Int) : List Int := xs.reverse.flatMap (fun x => [x, x])
theorem twice_any (xs : List Int) (p : Int → Bool) : (twice xs).any p = xs.any p := by
  unfold twice
  rw [Bool.eq_iff_iff]
  simp
theorem twice_len (xs : List Int) : (twice xs).length = 2 * xs.length := by
  unfold twice
  rw [List.length_flatMap]
  simp [List.map_const', List.sum_replicate_nat]
  omega
theorem twice_drop (xs : List Int) (k : Nat) (hk : k < xs.length) : twice (xs.drop k) = twice (xs.drop (k + 1)) ++ [xs[k]?.getD 0, xs[k]?.getD 0] := by
  unfold twice
  rw [List.drop_eq_getElem_cons hk, List.getElem?_eq_getElem hk, List.reverse_cons, List.flatMap_append]
  rfl
theorem list_twice (bound : Nat) (xs : List Int) : listF bound (addAll bound f0 (twice xs)) = listF bound (addAll bound f0 xs) := by
  unfold listF
  apply List.filter_congr
  intro m _
  rw [addAll_mem, addAll_mem, twice_any]
theorem nums_ints (l : List Nat) : nums l = (l.map Int.ofNat).map (Value.int .i64) := by
  unfold nums
  rw [List.map_map]; rfl
theorem own_rd {w : World} {base g n cap : Nat} {l : List Nat} (h : w.ownsRow base 3 1 (.slice (some ⟨g, 0, none⟩) n cap) n (nums l)) : Rd .i64 w w.heap.size (some ⟨g, 0, none⟩) (l.map Int.ofNat) :=
  rd_own (by rw [nums_ints] at h; exact h)
set_option maxRecDepth 100000 in
set_option maxHeartbeats 1000000 in
theorem setsOrder_far (A : Option Addr) (a c : Nat) (h : 500 < a) (w : World) (hT : Tab w) :
    Calls Tryd.prog 6 #[.slice A a c] w fun e w' => e = .returned (.bool true) ∧ Below w.heap.size w w' := by
  have HA := Lib.hid (alive_any w hT)
  have HT := Lib.hid hT
  have h1' : decide (500 < (a : Int)) = true := decide_eq_true (by omega)
  clear h hT
  go_enter Tryd.func6, Tryd.ntmps6
  go_wp2_with fail
  refine HA.out.mono ?_
  rintro e w1 ⟨rfl, hB⟩
  have H2 := Lib.hid (alive_any w1 (HT.out.below hB HT.out.pos))
  go_wp2_with fail
  refine H2.out.mono ?_
  rintro e w2 ⟨rfl, hB2⟩
  go_wp2
  go_ret
  exact ⟨rfl, hB.trans (hB2.mono hB.size)⟩
set_option maxRecDepth 100000 in
set_option maxHeartbeats 2000000 in
theorem setsOrder_yes (A : Option Addr) (c : Nat) (xs : List Int) (w : World) (hx : Rd .i64 w w.heap.size A xs) (ha : xs.length ≤ 500) (hT : Tab w) :
    Calls Tryd.prog 6 #[.slice A xs.length c] w fun e w' => e = .returned (.bool true) ∧ Below w.heap.size w w' := by
  have h0 := Lib.hid hT.pos
  have HA := Lib.hid (alive_any w hT)
  have HX := Lib.hid hx
  have HT := Lib.hid hT
  clear hT hx
  have h1' : decide (500 < (xs.length : Int)) = false := decide_eq_false (by omega)
  obtain ⟨i0, hi, hz0, hz1, hz2⟩ := info_parts Tryd.info3i
  go_enter Tryd.func6, Tryd.ntmps6
  go_wp2_with fail
  refine HA.out.mono ?_
  rintro e w1 ⟨rfl, hB⟩
  have hB := Lib.hid hB
  go_wp2
  go_loopw [3, 4] (fun v i wr => ∃ (k : Nat) (m : Int), k ≤ xs.length ∧ m = (k : Int) - 1 ∧ i = .int .i64 m ∧ Hid (Below w.heap.size w wr) ∧ wr.ownsRow w.heap.size 3 1 v (2 * (xs.length - k)) ((twice (xs.drop k)).map (Value.int .i64))) (fun _ i _ => (intOf i + 1).toNat)
  case atStart => exact ⟨xs.length, _, Nat.le_refl _, rfl, rfl, hB, by rw [List.drop_length, Nat.sub_self]; exact World.ownsRow_nil _ _ _ _⟩
  case round =>
    clear hB
    obtain ⟨k, m, hk, hm, rfl, hB, hown⟩ := hrel
    obtain ⟨A3, n3, c3, rfl⟩ := own_form hown
    rcases Nat.eq_zero_or_pos k with hk0 | hk0
    · obtain rfl : m = -1 := by omega
      subst hk0
      rw [List.drop_zero] at hown
      obtain ⟨A4, c4, hv4, hn4, hc4, rd4, nil4⟩ := own_slice hown
      rw [twice_len] at hv4
      injection hv4 with q1 q2 q3
      subst q1 q2 q3
      have HO1 := Lib.hid (of_any A c xs wr (((HX.out).below hB.out).more hB.out.size) (by omega) (HT.out.below hB.out HT.out.pos))
      have HR := Lib.hid rd4
      clear hm hown hn4 hc4 rd4 nil4 HX
      go_wp2_with fail
      refine HO1.out.mono ?_
      intro e w2 h2
      obtain ⟨b1, g1, rfl, L1⟩ := h2
      have H1 := Lib.hid (allL L1 _ rfl)
      have HR := Lib.hid ((HR.out.below L1.bel).more L1.bel.size)
      have hB2 := Lib.hid (hB.out.trans (L1.bel.mono hB.out.size))
      clear L1 HO1 hB
      go_wp2_with fail
      refine H1.out.mono ?_
      rintro e w3 ⟨G1, rfl, row1, L1, t1⟩
      have HR1 := Lib.hid (own_rd row1)
      have HR := Lib.hid ((HR.out.below (Turn.below t1 (by simp) (Nat.le_refl _))).more t1.size)
      have hB3 := Lib.hid (hB2.out.trans (t1.below (by simp) hB2.out.size))
      have HO2 := of_any A3 c3 (twice xs) w3 HR.out (by rw [twice_len]; omega) L1.tab
      rw [twice_len] at HO2
      have HO2 := Lib.hid HO2
      clear row1 L1 t1 H1 HR hB2
      go_wp2_with fail
      refine HO2.out.mono ?_
      intro e w4 h4
      obtain ⟨b2, g2, rfl, L2⟩ := h4
      have H2 := Lib.hid (allL L2 _ (list_twice 2048 xs))
      have HR1 := Lib.hid ((HR1.out.below L2.bel).more L2.bel.size)
      have hB4 := Lib.hid (hB3.out.trans (L2.bel.mono hB3.out.size))
      clear L2 HO2 hB3
      go_wp2_with fail
      refine H2.out.mono ?_
      rintro e w5 ⟨G2, rfl, row2, L2, t2⟩
      have HR1 := Lib.hid ((HR1.out.below (Turn.below t2 (by simp) (Nat.le_refl _))).more t2.size)
      have hB5 := Lib.hid (hB4.out.trans (t2.below (by simp) hB4.out.size))
      have hlen : (listF 2048 (addAll 2048 f0 xs)).length ≤ 2048 := by unfold listF; exact Nat.le_trans (List.length_filter_le _ _) (by simp)
      have HS := sameInts_any (some ⟨G1, 0, none⟩) (some ⟨G2, 0, none⟩) (listF 2048 (addAll 2048 f0 xs)).length (listF 2048 (addAll 2048 f0 xs)).length _ w5 w5.heap.size HR1.out (own_rd row2) (by rw [List.length_map]; omega)
      rw [List.length_map] at HS
      have HS := Lib.hid HS
      clear row2 L2 t2 H2 HR1 hB4 hlen
      go_wp2_with fail
      refine HS.out.mono ?_
      rintro e w6 ⟨rfl, nq, rfl⟩
      go_wp2
      go_ret
      exact ⟨rfl, below_drewN hB5.out nq⟩
    · obtain ⟨j, rfl⟩ : ∃ j, k = j + 1 := ⟨k - 1, by omega⟩
      obtain rfl : m = (j : Int) := by omega
      have hj : j < xs.length := by omega
      obtain ⟨gb, off, v, rfl, hgb, hc, hv⟩ := (HX.out.below hB.out).at_ hj
      have HS := Lib.hid (twice_drop xs j hj)
      have hjj : (j : Int) < (xs.length : Int) := by omega
      have hB2 := Lib.hid hB.out
      have hs := hB.out.size
      have hn3 : n3 = 2 * (xs.length - (j + 1)) := by
        rcases hown.2 with ⟨hv, h0⟩ | ⟨g, cap, cur, hv, _⟩
        · injection hv with _ q2 _
          have h2 := hown.1
          rw [h0] at h2
          simp at h2
          omega
        · injection hv
      have hq : n3 + 2 = 2 * (xs.length - j) := by omega
      rw [← hn3] at hown
      have HQ := Lib.hid hq
      have hn3' : n3 ≤ 1000 := by omega
      clear hm HX hk hn3 hq
      go_wp2
      go_region_law
        ((refine step_append_lies _ (by rfl) (.tmp 20) (.tmp 29) 37 (by rfl) w.heap.size 3 i0 (.int .i64 0) 1 8 Tryd.underlying37 hi hz0 hz1 hz2 rfl (by omega) (.slice A3 n3 c3) n3 ((twice (xs.drop (j + 1))).map (Value.int .i64)) (by rfl) ((hown.alloc _).drew) ⟨wr.heap.size, 0, none⟩ 2 2 [.int .i64 v, .int .i64 v] (by rfl) (by rfl) (World.news_of_block (cs := #[.int .i64 v, .int .i64 v]) (t := 3) (fr := (0, 0)) (heap_alloc_new wr _)) (by simp [Value.oneCell']) (by omega) (by show n3 + 2 ≤ 9223372036854775807; omega) (by omega) (by simp <;> omega) (wr.heap.size + 1) (by simp) ?_; intro gg gcap w2 hown2 hgrow hat hlt2))
      all_goals
        have hBe : Hid (Below w.heap.size w w2) := ((hB2.out.alloc hs _).drew).grown hgrow (by simp; omega) (fun k hk => (hown.lt k hk).1)
        have hown3 : Hid (w2.ownsRow w.heap.size 3 1 (.slice (some ⟨gg, 0, none⟩) (n3 + 2) gcap) (2 * (xs.length - j)) ((twice (xs.drop j)).map (Value.int .i64))) := by
          have h := hown2
          rw [HQ.out] at h ⊢
          rw [Hid, HS.out, hv.out, List.map_append]
          exact h
        clear hgrow hat hlt2 hown hown2 hc hB hB2
        go_wp2
        go_roundw
        case rel => exact ⟨j, _, by omega, rfl, rfl, hBe, hown3.out⟩
        case measure => simp [intOf]
end Go.Proofs.YtgcclijdkcomiaaDoor
