/- The walk of the statement SumsSpoils. -/
import Derived.Test.YtfjigfmjhfoecaaH
import Derived.Test.YtfjigfmjhfoecaaQ
import Derived.Deep.RegionLaw
import Derived.BigRegion
import Derived.BigGuardPart
namespace Go.Proofs.Ytfjigfmjhfoecaa
open Go.RowKit
set_option linter.unusedVariables false
theorem nats_ints (l : List Nat) : nats (ints l) = l := by
  unfold nats ints
  rw [List.map_map]
  apply List.ext_getElem?
  intro j
  rw [List.getElem?_map]
  cases l[j]? <;> simp
/-- The four bytes in their box. -/
abbrev byBox (q : Nat → Nat) : Array Value := #[.int .u8 (q 0 : Int), .int .u8 (q 1 : Int), .int .u8 (q 2 : Int), .int .u8 (q 3 : Int)]
theorem byBox_get (q : Nat → Nat) {i : Nat} (hi : i < 4) : (byBox q)[i]? = some (.int .u8 (q i : Int)) := by
  have h : i = 0 ∨ i = 1 ∨ i = 2 ∨ i = 3 := by omega
  rcases h with rfl | rfl | rfl | rfl <;> rfl
set_option maxRecDepth 100000 in
set_option maxHeartbeats 400000 in
theorem sumsSpoils_far (A : Option Addr) (c n : Nat) (at' : Int) (q : Nat → Nat) (w : World) (hm : n ≤ 140737488355328) (hbey : bey [(n : Int)] = true) :
    Calls Try.prog 6 #[.slice A n c, .int .u32 at', .agg (byBox q)] w fun e w' => e = .returned (.bool true) ∧ Below w.heap.size w w' := by
  have HA := Lib.hid alive_any
  go_enter Try.func6, Try.ntmps6
  go_wp2_with fail
  have hB0 : Below w.heap.size w (w.alloc (.cells (byBox q) 34)) := (Below.refl _ _).alloc (Nat.le_refl _) _
  generalize w.alloc (.cells (byBox q) 34) = w0 at hB0 ⊢
  refine (HA.out w0).mono ?_
  rintro e w1 ⟨rfl, hB1⟩
  have H17 := Lib.hid (beyond_one n hm w1)
  rw [hbey] at H17
  clear hbey
  go_wp2_with fail
  refine H17.out.mono ?_
  rintro e w2 ⟨rfl, rfl⟩
  have hB2 := below_one hB1 (.cells #[.int .i64 (n : Int)] 3)
  have hB2' := hB0.trans (hB2.mono hB0.size)
  generalize w1.alloc (.cells #[.int .i64 (n : Int)] 3) = w2 at hB2' ⊢
  clear hB1 H17 hB2
  go_wp2_with fail
  refine (HA.out _).mono ?_
  rintro e w3 ⟨rfl, hB3⟩
  go_wp2
  go_ret
  exact ⟨rfl, hB2'.trans (hB3.mono hB2'.size)⟩
set_option maxRecDepth 100000 in
set_option maxHeartbeats 400000 in
theorem sumsSpoils_none (A : Option Addr) (c : Nat) (at' : Int) (q : Nat → Nat) (w : World) :
    Calls Try.prog 6 #[.slice A 0 c, .int .u32 at', .agg (byBox q)] w fun e w' => e = .returned (.bool true) ∧ Below w.heap.size w w' := by
  have HA := Lib.hid alive_any
  go_enter Try.func6, Try.ntmps6
  go_wp2_with fail
  have hB0 : Below w.heap.size w (w.alloc (.cells (byBox q) 34)) := (Below.refl _ _).alloc (Nat.le_refl _) _
  generalize w.alloc (.cells (byBox q) 34) = w0 at hB0 ⊢
  refine (HA.out w0).mono ?_
  rintro e w1 ⟨rfl, hB1⟩
  have H17 := Lib.hid (beyond_one 0 (by omega) w1)
  go_wp2_with fail
  refine H17.out.mono ?_
  rintro e w2 ⟨rfl, rfl⟩
  have hB2 := below_one hB1 (.cells #[.int .i64 ((0 : Nat) : Int)] 3)
  have hB2' := hB0.trans (hB2.mono hB0.size)
  have hbey : bey [((0 : Nat) : Int)] = false := rfl
  rw [hbey]
  generalize w1.alloc (.cells #[.int .i64 ((0 : Nat) : Int)] 3) = w2 at hB2' ⊢
  clear hB1 H17 hB2 hbey
  go_wp2_with fail
  refine (HA.out _).mono ?_
  rintro e w3 ⟨rfl, hB3⟩
  go_wp2
  go_ret
  exact ⟨rfl, hB2'.trans (hB3.mono hB2'.size)⟩
set_option maxRecDepth 100000 in
set_option maxHeartbeats 1000000 in
theorem sumsSpoils_near (A : Option Addr) (c : Nat) (l : List Nat) (at' : Nat) (q : Nat → Nat) (w : World) (hx : Rd .u8 w w.heap.size A (ints l)) (hb : ∀ c ∈ l, c < 256) (hq : ∀ j, q j < 256) (hc : l.length ≤ c) (hm : c ≤ 140737488351232) (hnil : A = none → c = 0) (hbey : bey [(l.length : Int)] = false) (hpos : 0 < l.length) (hat : at' < 4294967296) :
    Calls Try.prog 6 #[.slice A l.length c, .int .u32 at', .agg (byBox q)] w fun e w' => e = .returned (.bool true) ∧ Below w.heap.size w w' := by
  have hlen := bey_one hbey
  have HA := Lib.hid alive_any
  have HM := Lib.hid (fun (A : Option Addr) (c : Nat) (l : List Nat) (hb : ∀ c ∈ l, c < 256) (n : Nat) (hn : n = l.length) (hl : l.length ≤ 1048576) (hc : l.length ≤ c) (w : World) (hx : Rd .u8 w w.heap.size A (ints l)) => sum_any A c (ints l) n (by rw [ints_len]; exact hn) w hx (ints_bytes hb) (by rw [ints_len]; exact hl) (by rw [ints_len]; exact hc))
  simp only [nats_ints] at HM
  obtain ⟨i0, hi, hz0, hz1, hz2⟩ := info_parts Try.info5
  go_enter Try.func6, Try.ntmps6
  go_wp2_with fail
  have hB0 : Below w.heap.size w (w.alloc (.cells (byBox q) 34)) := (Below.refl _ _).alloc (Nat.le_refl _) _
  have hW0 : Whole (w.alloc (.cells (byBox q) 34)) w.heap.size 34 (byBox q) := Whole.new _ _ _
  generalize w.alloc (.cells (byBox q) 34) = w0 at hB0 hW0 ⊢
  refine (HA.out w0).mono ?_
  rintro e w1 ⟨rfl, hB1⟩
  have H17 := Lib.hid (beyond_one l.length (by omega) w1)
  rw [hbey] at H17
  clear hbey
  go_wp2_with fail
  refine H17.out.mono ?_
  rintro e w2 ⟨rfl, rfl⟩
  have hB2 := below_one hB1 (.cells #[.int .i64 (l.length : Int)] 3)
  have hW2 := hW0.below hB2 hW0.lt
  have hB2' := hB0.trans (hB2.mono hB0.size)
  generalize w1.alloc (.cells #[.int .i64 (l.length : Int)] 3) = w2 at hW2 hB2' ⊢
  clear hB1 H17 HA hB2 hW0 hB0
  have hx2 := hx.below hB2'
  have NL := Lib.hid hnil
  clear hnil
  obtain ⟨k, hk⟩ : ∃ k, at' % l.length = k := ⟨_, rfl⟩
  have hkl : k < l.length := by rw [← hk]; exact Nat.mod_lt _ hpos
  have hki : (at' : Int) % (l.length : Int) = (k : Int) := by rw [← hk]; omega
  have hln : ¬ (l.length : Int) = 0 := by omega
  clear hk
  go_wp2_with (at_builtin; refine wpList_app _ rfl (.tmp 35) (.tmp 36) 22 rfl w2.heap.size 5 i0 (.int .u8 0) 1 Try.underlying22 hi hz0 hz1 hz2 rfl .u8 (.slice none 0 0) 0 [] rfl (own_nil_row _ _ _) A l.length c (ints l) _ rfl (by rw [ints_len]) hx2 NL.out (by unfold maxLen; omega) (by omega) (Nat.le_refl _) ?_; intro v3 w3 hown3 hg3)
  have hB3 : Below w.heap.size w w3 := hB2'.grown hg3 hB2'.size (by simp [Value.ownBlock])
  have hW3 := (hg3.block w.heap.size hW2.lt (by simp [Value.ownBlock])).trans hW2
  have hW3 : Whole w3 w.heap.size 34 (byBox q) := hW3
  rw [List.nil_append, Nat.zero_add] at hown3
  obtain ⟨g, cap, rfl, hg0, hcap, hcapm⟩ : ∃ g cap, v3 = .slice (some ⟨g, 0, none⟩) l.length cap ∧ w2.heap.size ≤ g ∧ l.length ≤ cap ∧ cap ≤ maxLen := by
    rcases hown3.2 with ⟨_, h0⟩ | ⟨g, cap, cur, h1, h2, _, h4, h5, _⟩
    · omega
    · exact ⟨g, cap, h1, h2, h4, h5⟩
  unfold maxLen at hcapm
  have hgne : w.heap.size ≠ g := by have := hW2.lt; omega
  have hwg : w.heap.size ≤ g := by have := hW2.lt; omega
  have e0 : xors l (dif l.length k 0 q) = l := by rw [dif_zero, xors_zero]
  rw [← e0] at hown3
  clear e0 hg3 hB2' hW2 hx2
  go_loopw [9, 10] (fun s i wr => ∃ j : Nat, j ≤ 4 ∧ k + j ≤ l.length ∧ i = .int .i64 j ∧ s = .bool (allz q j) ∧ wr.ownsRow w2.heap.size 5 1 (.slice (some ⟨g, 0, none⟩) l.length cap) l.length ((ints (xors l (dif l.length k j q))).map (Value.int .u8)) ∧ Whole wr w.heap.size 34 (byBox q) ∧ Below w.heap.size w wr) (fun _ i _ => 4 - (intOf i).toNat)
  case atStart => exact ⟨0, by omega, by omega, rfl, rfl, by rw [dif_zero, xors_zero] at hown3 ⊢; exact hown3, hW3, hB3⟩
  case round =>
    clear hown3 hW3 hB3
    obtain ⟨j, hj4, hkj, rfl, rfl, hown, hW, hB⟩ := hrel
    by_cases hlt : j < 4 ∧ k + j < l.length
    · obtain ⟨hlt, hltn⟩ := hlt
      obtain ⟨a, ha⟩ : ∃ a, l[k + j]? = some a := ⟨_, List.getElem?_eq_getElem hltn⟩
      have hal : a < 256 := hb a (List.mem_of_getElem? ha)
      have hcc : wr.cell? ⟨g, k + j, none⟩ = some (.int .u8 (a : Int)) := by
        rw [hown.cellAt (k + j) (by omega), List.getElem?_map, ints_get (xors_at q hltn ha)]; rfl
      have hcf := hown.frozenAt (k + j)
      have hcq : wr.cell? ⟨w.heap.size, j, none⟩ = some (.int .u8 (q j : Int)) := by rw [hW.cell, byBox_get q hlt]
      have hxo : bits .xor .u8 (a : Int) (q j : Int) = ((a ^^^ q j : Nat) : Int) := u8_xor_nat a (q j) hal (hq j)
      have hown' := (hown.stored (k + j) (.int .u8 ((a ^^^ q j : Nat) : Int))).1
      have hset : ((ints (xors l (dif l.length k j q))).map (Value.int .u8)).set (k + j) (.int .u8 ((a ^^^ q j : Nat) : Int)) = (ints (xors l (dif l.length k (j + 1) q))).map (Value.int .u8) := by
        rw [← List.map_set, ints_set, xors_set q hltn ha]
      rw [hset] at hown'
      have hW' := hW.far (a := ⟨g, k + j, none⟩) hgne (.int .u8 ((a ^^^ q j : Nat) : Int))
      have hB' := hB.setCell (p := ⟨g, k + j, none⟩) hwg (.int .u8 ((a ^^^ q j : Nat) : Int))
      have hAZ : Hid (allz q (j + 1) = (allz q j && (q j == 0))) := rfl
      have hql := hq j
      clear hset hown hW hB ha
      generalize a ^^^ q j = b at hown' hW' hB' hxo
      generalize q j = z at hcq hxo hAZ hql
      obtain ⟨s, hs⟩ : ∃ s, k + j = s := ⟨_, rfl⟩
      rw [hs] at hown' hW' hB' hcc hcf
      have hsw : IntKind.i64.wrap ((k : Int) + (j : Int)) = (s : Int) := by rw [← hs, IntWalk.i64_in _ (by omega)]; omega
      have hs1 : (0 : Int) ≤ (s : Int) := by omega
      have hs2 : (s : Int) < (l.length : Int) := by omega
      have hj1 : (0 : Int) ≤ (j : Int) := by omega
      have hj2 : (j : Int) < 4 := by omega
      have hkj2 : (k : Int) + (j : Int) < (l.length : Int) := by omega
      clear hs
      have HZ0 : Hid (allz q j = false → allz q (j + 1) = false) := fun h => by rw [hAZ.out, h]; rfl
      have HZ1 : Hid (allz q j = true → ((z : Int) == 0) = allz q (j + 1)) := fun h => by
        rw [hAZ.out, h, Bool.true_and, Bool.eq_iff_iff, beq_iff_eq, beq_iff_eq]; omega
      clear hAZ
      cases hz : allz q j
      · have HE := Lib.hid (HZ0.out hz)
        clear HZ0 HZ1 hz
        go_wp2
        go_region
        go_wp2
        go_roundw
        case rel => exact ⟨j + 1, by omega, by omega, by go_num, by rw [HE.out], hown'.drew, hW', hB'.drew⟩
        case measure => simp [intOf]; omega
      · have HE := Lib.hid (HZ1.out hz)
        clear HZ0 HZ1 hz
        go_wp2
        go_region
        go_wp2
        go_roundw
        case rel => exact ⟨j + 1, by omega, by omega, by go_num, by rw [HE.out], hown'.drew, hW', hB'.drew⟩
        case measure => simp [intOf]; omega
    · have HSP := Lib.hid (spoils (l := l) (k := k) (m := j) (q := q) hb hq hj4 hkj)
      have hsz := hB.size
      have h1 := Lib.hid (HM.out A c l hb l.length rfl hlen hc wr ((hx.below hB).more hsz))
      have hxb := xors_bytes hb (dif_bytes (n := l.length) (k := k) (i := j) hq)
      have hxl : (xors l (dif l.length k j q)).length = l.length := xors_len (by rw [dif_len])
      have hrc := rd_own hown
      have HAZ := Lib.hid (allz_iff q j)
      have HM2 := Lib.hid (fun (w' : World) (hB : Below wr.heap.size wr w') => HM.out (some ⟨g, 0, none⟩) cap (xors l (dif l.length k j q)) hxb l.length hxl.symm (by omega) (by omega) w' ((hrc.below hB).more hB.size))
      clear hxb hxl hrc hown hW HM hb hq hx
      generalize more 0 l = V at h1 HSP
      generalize more 0 (xors l (dif l.length k j q)) = U at HM2 HSP
      generalize allz q j = same at HAZ ⊢
      have HEQ : Hid (same = true ↔ V = U) := HAZ.out.trans HSP.out.symm
      clear HAZ HSP
      have hv : ((V : Int) == (U : Int)) = same := by
        rw [Bool.eq_iff_iff, HEQ.out, beq_iff_eq]; omega
      clear HEQ
      by_cases hj : j < 4
      · have hge : ¬ (k : Int) + (j : Int) < (l.length : Int) := by omega
        go_wp2_with fail
        refine h1.out.mono ?_
        rintro e w4 ⟨rfl, hB4⟩
        have h2 := Lib.hid (HM2.out w4 hB4)
        have hB4' := hB.trans (hB4.mono hsz)
        clear h1 HM2 hB hB4
        go_wp2_with fail
        refine h2.out.mono ?_
        rintro e w5 ⟨rfl, hB5⟩
        have hB5' := hB4'.trans (hB5.mono hB4'.size)
        clear hB4' hB5 h2
        go_wp2
        go_ret
        exact ⟨rfl, hB5'⟩
      · go_wp2_with fail
        refine h1.out.mono ?_
        rintro e w4 ⟨rfl, hB4⟩
        have h2 := Lib.hid (HM2.out w4 hB4)
        have hB4' := hB.trans (hB4.mono hsz)
        clear h1 HM2 hB hB4
        go_wp2_with fail
        refine h2.out.mono ?_
        rintro e w5 ⟨rfl, hB5⟩
        have hB5' := hB4'.trans (hB5.mono hB4'.size)
        clear hB4' hB5 h2
        go_wp2
        go_ret
        exact ⟨rfl, hB5'⟩
end Go.Proofs.Ytfjigfmjhfoecaa
