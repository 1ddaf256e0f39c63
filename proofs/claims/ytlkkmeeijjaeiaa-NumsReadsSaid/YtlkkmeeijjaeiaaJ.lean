/- The walk of the statement NumsBack. -/
import Derived.Test.YtlkkmeeijjaeiaaI
import Derived.Test.YtlkkmeeijjaeiaaF
import Derived.Laws.AppendOwnNone
namespace Go.Proofs.Ytlkkmeeijjaeiaa
open Go.RowKit
set_option linter.unusedVariables false
theorem rd_cells {k : IntKind} {w : World} {B : Nat} {ad : Addr} {ys : List Int} (h : Rd k w B (some ad) ys) : ∀ j u, (ys.map (Value.int k))[j]? = some u → w.cell? (ad.add j) = some u := by
  intro j u hu
  have hj : j < ys.length := by
    rcases Nat.lt_or_ge j ys.length with h1 | h1
    · exact h1
    · rw [List.getElem?_eq_none (by simpa using h1)] at hu; cases hu
  obtain ⟨b, off, hA, _, hc⟩ := h (by omega)
  obtain rfl : ad = ⟨b, off, none⟩ := by simpa using hA
  have ea : (⟨b, off, none⟩ : Addr).add j = ⟨b, off + j, none⟩ := by unfold Addr.add; split <;> simp_all
  rw [ea, hc j hj]
  simp [List.getElem?_eq_getElem hj] at hu ⊢
  exact hu
theorem ints_one (k : IntKind) (ys : List Int) : ∀ u ∈ ys.map (Value.int k), u.oneCell' = true := by
  intro u hu
  simp only [List.mem_map] at hu
  obtain ⟨x, _, rfl⟩ := hu
  rfl
theorem rd_none {k : IntKind} {w : World} {B : Nat} {ys : List Int} (h : Rd k w B none ys) : ys = [] := by
  cases ys with
  | nil => rfl
  | cons a r => obtain ⟨b, off, hA, _⟩ := h (by simp); cases hA
/-- Up to the test: alive, and how much there is. -/
theorem bey_one (w : World) (n : Nat) (hn : n ≤ 140737488355328) : Calls Try.prog 21 #[.slice (some ⟨w.heap.size, 0, none⟩) 1 1] (w.alloc (.cells #[.int .i64 (n : Int)] 3)) fun e w' => e = .returned (.bool (bey [(n : Int)])) ∧ w.alloc (.cells #[.int .i64 (n : Int)] 3) = w' :=
  beyond_any (some ⟨w.heap.size, 0, none⟩) 1 [(n : Int)] 1 rfl _ (w.heap.size + 1) (rd_one w .i64 3 _) (by simp; omega) (by simp)
theorem bey_false {n : Nat} (h : bey [(n : Int)] = false) : n ≤ 1048576 := by unfold bey at h; simp at h; omega

set_option maxRecDepth 100000 in
set_option maxHeartbeats 1000000 in
theorem numsBack_far (n m : Int) (A : Option Addr) (c : Nat) (ys : List Int) (w : World) (hc : ys.length ≤ c) (hm : c ≤ 140737488351232) (hbey : bey [(ys.length : Int)] = true) :
    Calls Try.prog 7 #[.int .u64 n, .int .u64 m, .slice A ys.length c] w fun e w' => e = .returned (.bool true) ∧ Below w.heap.size w w' := by
  have AL := Lib.hid alive_any
  have BY := Lib.hid (fun W => bey_one W ys.length (by omega))
  rw [hbey] at BY
  clear hbey
  go_enter Try.func7, Try.ntmps7
  go_wp2_with fail
  refine (AL.out w).mono ?_
  rintro e w1 ⟨rfl, hB1⟩
  go_wp2_with fail
  refine (BY.out w1).mono ?_
  rintro e w' ⟨rfl, rfl⟩
  have hB2 : Below w.heap.size w (w1.alloc (.cells #[.int .i64 (ys.length : Int)] 3)) := hB1.alloc hB1.size _
  generalize w1.alloc (.cells #[.int .i64 (ys.length : Int)] 3) = w2 at *
  clear hB1 BY
  go_wp2_with fail
  refine (AL.out w2).mono ?_
  rintro e w3 ⟨rfl, hB3⟩
  have hB : Below w.heap.size w w3 := hB2.trans (hB3.mono hB2.size)
  go_wp2
  go_ret
  exact ⟨rfl, hB⟩
set_option maxRecDepth 100000 in
set_option maxHeartbeats 1000000 in
theorem numsBack_no (n m : Int) (hn : 4611686018427387903 < n) (A : Option Addr) (c : Nat) (ys : List Int) (w : World) (hc : ys.length ≤ c) (hm : c ≤ 140737488351232) (hbey : bey [(ys.length : Int)] = false) :
    Calls Try.prog 7 #[.int .u64 n, .int .u64 m, .slice A ys.length c] w fun e w' => e = .returned (.bool true) ∧ Below w.heap.size w w' := by
  have AL := Lib.hid alive_any
  have BY := Lib.hid (fun W => bey_one W ys.length (by omega))
  rw [hbey] at BY
  have PN := Lib.hid (fun W => put_no n hn W)
  have hn' : 4611686018427387904 ≤ n := by omega
  clear hbey hn
  go_enter Try.func7, Try.ntmps7
  go_wp2_with fail
  refine (AL.out w).mono ?_
  rintro e w1 ⟨rfl, hB1⟩
  go_wp2_with fail
  refine (BY.out w1).mono ?_
  rintro e w' ⟨rfl, rfl⟩
  have hB2 : Below w.heap.size w (w1.alloc (.cells #[.int .i64 (ys.length : Int)] 3)) := hB1.alloc hB1.size _
  generalize w1.alloc (.cells #[.int .i64 (ys.length : Int)] 3) = w2 at *
  clear hB1 BY
  go_wp2_with fail
  refine (PN.out w2).mono ?_
  rintro e w' ⟨rfl, rfl⟩
  go_wp2
  go_ret
  exact ⟨rfl, hB2⟩
theorem own_keep {w w' : World} {base e size n : Nat} {v : Value} {xs : List Value} (h : w.ownsRow base e size v n xs) (hb : Below w.heap.size w w') : w'.ownsRow base e size v n xs := by
  refine h.kept (row := none) ⟨hb.os, hb.tape, hb.output, hb.size, fun k hk _ => hb.block k hk⟩ ?_
  cases hv : v.ownBlock with
  | none => exact .inl rfl
  | some g => exact .inr (by simp)
theorem own_cap {w : World} {base e size n cap g : Nat} {xs : List Value} (h : w.ownsRow base e size (.slice (some ⟨g, 0, none⟩) n cap) n xs) : n ≤ cap ∧ cap ≤ maxLen := by
  rcases h.2 with ⟨h1, _⟩ | ⟨g', cap', cur, h1, _, _, h2, h3, _⟩
  · cases h1
  · injection h1 with h1 h4 h5; subst h5; exact ⟨h2, h3⟩

set_option maxRecDepth 100000 in
set_option maxHeartbeats 1000000 in
theorem numsBack_yes (N : Nat) (m : Int) (hN : N ≤ 4611686018427387903) (hm0 : 0 ≤ m) (A : Option Addr) (c : Nat) (ys : List Int) (w : World) (hc : ys.length ≤ c) (hm : c ≤ 140737488351232) (hbey : bey [(ys.length : Int)] = false)
    (hx : Rd .u8 w w.heap.size A ys) (hb : ∀ x ∈ ys, 0 ≤ x ∧ x ≤ 255) (hnil : A = none → c = 0) :
    Calls Try.prog 7 #[.int .u64 N, .int .u64 m, .slice A ys.length c] w fun e w' => e = .returned (.bool true) ∧ Below w.heap.size w w' := by
  have AL := Lib.hid alive_any
  have BY := Lib.hid (fun W => bey_one W ys.length (by omega))
  rw [hbey] at BY
  have hyl := bey_false hbey
  have PN := Lib.hid (fun W => put_yes N hN W)
  have HN := Lib.hid hN
  have h9 := putL_len9 N hN
  have hpos := putL_ne N
  obtain ⟨i0, hi, hz0, hz1, hz2⟩ := info_parts Try.info5p
  clear hbey hN
  go_enter Try.func7, Try.ntmps7
  go_wp2_with fail
  refine (AL.out w).mono ?_
  rintro e w1 ⟨rfl, hB1⟩
  go_wp2_with fail
  refine (BY.out w1).mono ?_
  rintro e w' ⟨rfl, rfl⟩
  have hB2 : Below w.heap.size w (w1.alloc (.cells #[.int .i64 (ys.length : Int)] 3)) := hB1.alloc hB1.size _
  generalize w1.alloc (.cells #[.int .i64 (ys.length : Int)] 3) = w2 at *
  clear hB1 BY
  go_wp2_with fail
  refine (PN.out w2).mono ?_
  rintro e w3 ⟨g, cap, rfl, hown, hB3⟩
  obtain ⟨l, hl⟩ : ∃ l, (putL N).length = l + 1 := ⟨(putL N).length - 1, by omega⟩
  rw [hl] at hown h9 ⊢
  have HL := Lib.hid hl
  obtain ⟨hcap, hcapm⟩ := own_cap hown
  unfold maxLen at hcapm
  clear PN AL hl hpos
  have hsz2 := hB2.size
  have hB3' : Below w.heap.size w w3 := hB2.trans (hB3.mono hB2.size)
  -- the second number
  have PM : Hid (Calls Try.prog 12 #[.int .u64 m] w3 fun e w' => ∃ v f, e = .returned (.tuple #[v, .int .i64 f]) ∧ Below w3.heap.size w3 w' ∧ ∃ A l' c, v = .slice A l' c ∧ ((f = 1 ∧ l' = 0) ∨ (f = 0 ∧ (l' ≤ l + 1 ∨ (N : Int) < m)))) := by
    by_cases hM : 4611686018427387903 < m
    · exact (put_no m hM w3).mono fun e w' ⟨he, hw⟩ => ⟨_, _, he, hw ▸ Below.refl _ _, _, _, _, rfl, .inl ⟨rfl, rfl⟩⟩
    · obtain ⟨M, rfl⟩ := Int.eq_ofNat_of_zero_le hm0
      refine (put_yes M (by omega) w3).mono ?_
      rintro e w' ⟨g', cap', he, hown', hB'⟩
      refine ⟨_, _, he, hB', _, _, _, rfl, .inr ⟨rfl, ?_⟩⟩
      by_cases hl : (putL M).length ≤ l + 1
      · exact .inl hl
      · have := putL_mono N M (by rw [HL.out]; omega)
        exact .inr (by omega)
  go_wp2_with fail
  refine PM.out.mono ?_
  rintro e w4 ⟨v, f, rfl, hB4, A2, l2, c2, rfl, hcase⟩
  have HC := Lib.hid hcase
  clear PM hcase
  have hown4 := own_keep hown hB4
  have hsz3 := hB3.size
  have hsz4 := hB4.size
  have hB4' : Below w.heap.size w w4 := hB3'.trans (hB4.mono hB3'.size)
  have GF := Lib.hid (get_any (some ⟨g, 0, none⟩) cap ((putL N).take l) l (by rw [List.length_take, HL.out]; omega) w4 _ ((rd_own hown4).take _) (Nat.le_refl _) (byte_take (putL_byte N) _) (by rw [List.length_take, HL.out]; omega) (by rw [List.length_take, HL.out]; omega))
  rw [get_fewer N _ HN.out (by rw [HL.out]; omega)] at GF
  clear hown hB2 hB3 hB3' hB4
  go_wp2_with fail
  refine GF.out.mono ?_
  rintro e w5 ⟨rfl, hB5⟩
  clear GF
  have hown5 := own_keep hown4 hB5
  have hsz5 := hB5.size
  have hB5' : Below w.heap.size w w5 := hB4'.trans (hB5.mono hB4'.size)
  have hx5 : Rd .u8 w5 w.heap.size A ys := hx.below hB5'
  obtain ⟨gk, gn, ge⟩ := get_put N ys HN.out
  have HG := Lib.hid gk
  have HGN := Lib.hid gn
  have HGK := Lib.hid ge
  clear hown4 hB4' hB5 gk gn ge hx
  -- whatever stands behind: the number is got
  have GA : Hid (∀ (v' : Value) (w6 : World), w6.ownsRow w2.heap.size 5 1 v' (l + 1 + ys.length) ((putL N).map (Value.int .u8) ++ ys.map (Value.int .u8)) → Below w.heap.size w w6 → ∃ g' cap', v' = .slice (some ⟨g', 0, none⟩) (l + 1 + ys.length) cap' ∧
      Calls Try.prog 23 #[.slice (some ⟨g', 0, none⟩) (l + 1 + ys.length) cap'] w6 fun e w' => e = .returned (.tuple #[.int .u64 (N : Int), .int .i64 ((l : Int) + 1), .int .i64 0]) ∧ Below w.heap.size w w') := by
    intro v' w6 ho hb6
    obtain ⟨g', cap', rfl⟩ := slice_of_own ho (by omega)
    rw [← List.map_append] at ho
    obtain ⟨c1, c2⟩ := own_cap ho
    unfold maxLen at c2
    refine ⟨g', cap', rfl, ?_⟩
    have hlen : (putL N ++ ys).length = l + 1 + ys.length := by rw [List.length_append, HL.out]
    have := get_any (some ⟨g', 0, none⟩) cap' (putL N ++ ys) (l + 1 + ys.length) hlen.symm w6 _ (rd_own ho) (Nat.le_refl _) (by
      intro x hx
      rw [List.mem_append] at hx
      rcases hx with hx | hx
      · exact putL_byte N x hx
      · exact hb x hx) (by omega) (by omega)
    rw [HG.out, HGN.out, HGK.out, HL.out] at this
    exact this.mono fun e w' ⟨he, hw⟩ => ⟨by rw [he]; push_cast; rfl, hb6.trans (hw.mono hb6.size)⟩
  clear HG HGN HGK
  have fin : ∀ (f : Int) (l2 : Nat), ((f = 1 ∧ l2 = 0) ∨ (f = 0 ∧ (l2 ≤ l + 1 ∨ (N : Int) < m))) → ((f != 0) = true ∨ ((f != 0) = false ∧ (decide ((l2 : Int) ≤ (l : Int) + 1) = true ∨ (decide ((l2 : Int) ≤ (l : Int) + 1) = false ∧ (N : Int) < m)))) := by
    rintro f l2 (⟨rfl, _⟩ | ⟨rfl, h⟩)
    · exact .inl rfl
    · refine .inr ⟨rfl, ?_⟩
      by_cases hc : l2 ≤ l + 1
      · exact .inl (by simp; omega)
      · exact .inr ⟨by simp; omega, by omega⟩
  have FIN := Lib.hid (fin f l2 HC.out)
  clear fin HC
  rcases A with _ | ad
  · obtain rfl := rd_none hx5
    obtain ⟨g', cap', e', GC⟩ := GA.out _ w5 (by simpa using hown5) hB5'
    injection e' with e1 e2 e3
    injection e1 with e1
    injection e1 with e1
    have GC' := Lib.hid GC
    subst e1 e3
    obtain rfl := hnil rfl
    clear GA GC e2 hnil hc hm
    rcases FIN.out with h | ⟨h, h2 | ⟨h2, h3⟩⟩
    all_goals
      clear FIN
      go_wp2_with (at_builtin; refine wpList_append_own_none rfl (.tmp 57) (.tmp 58) 23 rfl w2.heap.size 5 i0 1 Try.underlying23 hi _ _ _ rfl hown5 rfl ?_)
      go_wp2_with fail
      refine GC'.out.mono ?_
      rintro e w7 ⟨rfl, hB7⟩
      go_wp2
      go_ret
      exact ⟨rfl, hB7⟩
  · clear hnil
    rcases FIN.out with h | ⟨h, h2 | ⟨h2, h3⟩⟩
    all_goals
      clear FIN
      go_wp2_with (at_builtin; refine wpList_append_own _ rfl (.tmp 57) (.tmp 58) 23 rfl w2.heap.size 5 i0 (.int .u8 0) 1 1 Try.underlying23 hi hz0 hz1 hz2 rfl (by decide) _ _ _ rfl hown5 ad ys.length c (ys.map (Value.int .u8)) rfl (by simp) (rd_cells hx5) (ints_one _ _) (by unfold maxLen; omega) (by omega) (by omega) ?_; intro v' w6 hown6 hg6 _)
      obtain ⟨g', cap', e', GC⟩ := GA.out v' w6 hown6 (hB5'.grown hg6 hB5'.size (fun j hj => by have := (hown5.lt j hj).1; omega))
      have GC' := Lib.hid GC
      rw [e']
      clear e' GC
      go_wp2_with fail
      refine GC'.out.mono ?_
      rintro e w7 ⟨rfl, hB7⟩
      go_wp2
      go_ret
      exact ⟨rfl, hB7⟩
end Go.Proofs.Ytlkkmeeijjaeiaa
