/- The walk of the statement NumsItems: the document's PutItem; the Book keeps an item. -/
import Derived.Test.YtlkkmeeijjaeiaaAa
namespace Go.Proofs.Ytlkkmeeijjaeiaa
open Go.RowKit
set_option linter.unusedVariables false
set_option maxHeartbeats 400000 in
theorem refPutItem_no (id : Int) (V : Option Addr) (n c : Nat) (w : World) (h : 4611686018427387903 < id ∨ isDimB n = false) (hid : 0 ≤ id) (hn : n ≤ 140737488355328) :
    Calls Try.prog 28 #[.agg #[.int .u64 id, .slice V n c]] w fun e w' => e = .returned (.tuple #[.slice none 0 0, .int .i64 1]) ∧ Below w.heap.size w w' := by
  have hcase : 4611686018427387903 < id ∨ (¬ 4611686018427387903 < id ∧ n < 1) ∨ (¬ 4611686018427387903 < id ∧ ¬ n < 1 ∧ 64 < n) := by
    by_cases h1 : 4611686018427387903 < id
    · exact .inl h1
    · have h2 : isDimB n = false := by rcases h with h | h; · omega
                                       · exact h
      unfold isDimB at h2
      simp at h2
      by_cases h3 : n < 1
      · exact .inr (.inl ⟨h1, h3⟩)
      · exact .inr (.inr ⟨h1, h3, by omega⟩)
  clear h
  rcases hcase with h1 | ⟨h1, h2⟩ | ⟨h1, h2, h3⟩
  all_goals
    go_enter Try.func28, Try.ntmps28
    go_wp2_with fail
    go_ret2
    exact ⟨rfl, (Below.refl _ _).alloc (Nat.le_refl _) _⟩
set_option maxRecDepth 100000 in
set_option maxHeartbeats 2000000 in
theorem refPutItem_yes (id : Nat) (V : Option Addr) (vs : List Int) (n c : Nat) (hn : n = vs.length) (w : World) (hid : id ≤ 4611686018427387903) (h1 : 1 ≤ vs.length) (h64 : vs.length ≤ 64) (hx : Rd .i8 w w.heap.size V vs) (hb : ∀ x ∈ vs, -128 ≤ x ∧ x ≤ 127) :
    Calls Try.prog 28 #[.agg #[.int .u64 id, .slice V n c]] w (PutItemYes w id vs) := by
  subst hn
  obtain ⟨i0, hi, hz0, hz1, hz2⟩ := info_parts Try.info5p
  obtain ⟨w0, hw0⟩ : ∃ w0, w.alloc (.cells #[.int .u64 id, .slice V vs.length c] 54) = w0 := ⟨_, rfl⟩
  have hB0 : Below w.heap.size w w0 := by rw [← hw0]; exact (Below.refl _ _).alloc (Nat.le_refl _) _
  have hs0 : w.heap.size + 1 = w0.heap.size := by rw [← hw0]; simp
  have hc0 : w0.cell? ⟨w.heap.size, 0, none⟩ = some (.int .u64 id) := by rw [← hw0]; simp [go_sem]
  have hc1 : w0.cell? ⟨w.heap.size, 1, none⟩ = some (.slice V vs.length c) := by rw [← hw0]; simp [go_sem]
  have HA := Lib.hid (refPut_yes id hid w0)
  have HC := Lib.hid (fun W => refPut_yes vs.length (by omega) W)
  have HS := Lib.hid hs0
  clear hs0
  have hid0 : ¬ 4611686018427387903 < ((id : Int)) := by omega
  have hidn : 0 ≤ ((id : Int)) := by omega
  have h9 := putL_len9 id hid
  have h92 := putL_len9 vs.length (by omega)
  have hp1 := putL_ne id
  have hp2 := putL_ne vs.length
  clear hid
  generalize (id : Int) = I at *
  go_enter Try.func28, Try.ntmps28
  go_wp2_with fail
  refine HA.out.mono ?_
  rintro e w1 ⟨g1, cap1, rfl, hown1, hB1⟩
  clear hw0 HA hid0 hidn
  have hd1 : w1.cell? ⟨w.heap.size, 1, none⟩ = some (.slice V vs.length c) := (hB1.cell (p := ⟨w.heap.size, 1, none⟩) (by have := HS.out; show w.heap.size < w0.heap.size; omega)).trans hc1
  have hsz1 := hB1.size
  clear hc0 hc1
  go_wp2_with fail
  refine (HC.out w1).mono ?_
  rintro e w2 ⟨g2, cap2, rfl, hown2, hB2⟩
  have hown1' := own_keep hown1 hB2
  have hsz2 := hB2.size
  have hd2 : w2.cell? ⟨w.heap.size, 1, none⟩ = some (.slice V vs.length c) := (hB2.cell (p := ⟨w.heap.size, 1, none⟩) (by have := HS.out; show w.heap.size < w1.heap.size; omega)).trans hd1
  have hB2w : Below w0.heap.size w0 w2 := hB1.trans (hB2.mono hsz1)
  have hrd2 := rd_own hown2
  clear HC hd1 hown1 hown2 hB1 hB2
  go_wp2_with (at_builtin; refine wpList_append_own _ rfl (.tmp 38) (.tmp 39) 23 rfl w0.heap.size 5 i0 (.int .u8 0) 1 1 Try.underlying23 hi hz0 hz1 hz2 rfl (by decide) _ _ _ rfl hown1' ⟨g2, 0, none⟩ (putL vs.length).length cap2 ((putL vs.length).map (Value.int .u8)) rfl (by simp) (rd_cells hrd2) (ints_one _ _) (by unfold maxLen; omega) (by omega) (by omega) ?_; intro v3 w3 hown3 hg3 _; obtain ⟨g3, cap3, rfl⟩ := slice_of_own hown3 (by omega))
  have hB3 : Below w0.heap.size w0 w3 := hB2w.grown hg3 (by omega) (fun j hj => (hown1'.lt j hj).1)
  have hd3 : w3.cell? ⟨w.heap.size, 1, none⟩ = some (.slice V vs.length c) := ((Below.refl (w.heap.size + 1) w2).grown hg3 (by have := HS.out; omega) (fun j hj => by have := (hown1'.lt j hj).1; have := HS.out; omega) |>.cell (p := ⟨w.heap.size, 1, none⟩) (by show w.heap.size < w.heap.size + 1; omega)).trans hd2
  have hB3w : Below w.heap.size w w3 := hB0.trans (hB3.mono (by have := HS.out; omega))
  have hx3 : Rd .i8 w3 w.heap.size V vs := hx.below hB3w
  obtain ⟨m, HM⟩ : ∃ m, Hid ((putL id).length + (putL vs.length).length = m) := ⟨_, rfl⟩
  have hm18 : m ≤ 18 := by have := HM.out; omega
  have hm1 : 0 < m := by have := HM.out; omega
  rw [HM.out] at hown3 ⊢
  have hsz3 := hB3.size
  clear hown1' hrd2 hd2 hB2w hg3 hB0
  go_wp2_with fail
  go_loopw [4, 8] (fun v i wr => ∃ k : Nat, k ≤ vs.length ∧ i = .int .i64 k ∧ (∃ g cap, v = .slice (some ⟨g, 0, none⟩) (m + k) cap) ∧
      wr.ownsRow w0.heap.size 5 1 v (m + k) ((putL id ++ putL vs.length ++ (vs.take k).map (· % 256)).map (Value.int .u8)) ∧ Below w0.heap.size w3 wr) (fun _ i _ => vs.length - (intOf i).toNat)
  case atStart => exact ⟨0, by omega, rfl, ⟨_, _, rfl⟩, by simpa using hown3, Below.refl _ _⟩
  case round =>
    clear hown3
    obtain ⟨k, hk, rfl, ⟨g, cap, rfl⟩, hown, hB⟩ := hrel
    have hsz := hB.size
    have hdr : wr.cell? ⟨w.heap.size, 1, none⟩ = some (.slice V vs.length c) := (hB.cell (p := ⟨w.heap.size, 1, none⟩) (by have := HS.out; show w.heap.size < w0.heap.size; omega)).trans hd3
    by_cases hlt : k < vs.length
    · obtain ⟨b, off, v, rfl, hBb, hck, hv⟩ := (hx3.below (hB.mono (by have := HS.out; omega))).at_ hlt
      have hvb : -128 ≤ v ∧ v ≤ 127 := by
        rw [← hv.out, List.getElem?_eq_getElem hlt]; exact hb _ (List.getElem_mem _)
      have HV := Lib.hid (item_take id vs k v hlt hv.out)
      go_wp2_with (at_builtin; refine wpList_append_own _ rfl (.tmp 48) (.tmp 55) 23 rfl w0.heap.size 5 i0 (.int .u8 0) 1 1 Try.underlying23 hi hz0 hz1 hz2 rfl (by decide) _ _ _ rfl (hown.alloc _) ⟨wr.heap.size, 0, none⟩ 1 1 [.int .u8 (v % 256)] rfl rfl (cell_one_new _ _ _) (by simp [Value.oneCell']) (by unfold maxLen; omega) (by omega) (by simp; omega) ?_; intro v' w4 hown' hgrow _; obtain ⟨g', cap', rfl⟩ := slice_of_own hown' (by omega))
      have hB4 : Below w0.heap.size w3 w4 := (hB.alloc (by omega) _).grown hgrow (by simp; omega) (fun j hj => (hown.lt j hj).1)
      go_wp2
      go_roundw
      case rel => exact ⟨k + 1, by omega, by go_num, ⟨g', cap', by rw [Nat.add_assoc]⟩, by rw [HV.out, ← Nat.add_assoc]; exact hown', hB4⟩
      case measure => simp [intOf]; omega
    · obtain rfl : k = vs.length := by omega
      rw [List.take_length] at hown
      have HL : Hid (m + vs.length = (putItemL id vs).length) := by
        have := HM.out
        show m + vs.length = _
        simp only [putItemL, List.length_append, List.length_map]
        omega
      go_wp2
      go_ret2
      rw [HL.out] at hown ⊢
      exact ⟨g, cap, rfl, owns_base hown (by have := HS.out; omega), hB3w.trans (hB.mono (by have := HS.out; omega))⟩
/-- The Book keeps an item's list. -/
theorem item_any (id : Int) (bk base n : Nat) (A B : Option Addr) (len cap bc : Nat) (ss : Value) (es : List Ent) (w : World) (hn : n ≤ 1000) (hb : base ≤ w.heap.size) (hbb : base ≤ bk) (hk : BookAt w bk n ss (.slice B es.length bc))
    (ho : w.ownsRow base 88 3 (.slice B es.length bc) es.length (rowCells es)) (hes : es.length ≤ 1000) :
    Calls Try.prog 30 #[.pointer (some ⟨bk, 0, none⟩), .agg #[.int .u64 id, .slice A len cap]] w (Kept8 w bk base (n + 1) ss (es ++ [⟨A, len, cap, n + 1⟩])) := by
  obtain ⟨w0, hw0⟩ : ∃ w0, w.alloc (.cells #[.int .u64 id, .slice A len cap] 54) = w0 := ⟨_, rfl⟩
  have b0 : Below w.heap.size w w0 := by rw [← hw0]; exact (Below.refl _ _).alloc (Nat.le_refl _) _
  have c1 : w0.cell? ⟨w.heap.size, 1, none⟩ = some (.slice A len cap) := by rw [← hw0]; simp [go_sem]
  have z0 := b0.size
  have K := keepInt8_any bk base n A B len cap bc ss es w0 hn (by omega) hbb (hk.bel b0) (own_bel ho b0) hes
  have K2 : Hid (Calls Try.prog 77 #[.pointer (some ⟨bk, 0, none⟩), .slice A len cap] w0 (Kept8 w0 bk base (n + 1) ss (es ++ [⟨A, len, cap, n + 1⟩]))) := by
    have H := Lib.hid K
    clear hk ho K c1 hw0
    refine (?_ : Calls Try.prog 77 _ _ _)
    go_enter Try.func77, Try.ntmps77
    go_wp2_with fail
    refine H.out.mono ?_
    rintro e w' ⟨g, c, rfl, h1, h2, h3⟩
    go_wp2
    go_end0
    exact ⟨g, c, rfl, h1, h2, h3⟩
  have f0 : Frm2 base 88 43 w w0 := ⟨b0.mono hb, fun k hk _ _ => b0.block k hk⟩
  have F0 := Lib.hid f0
  clear K hk ho f0 b0
  go_enter Try.func30, Try.ntmps30
  go_wp2_with fail
  refine K2.out.mono ?_
  rintro e w' ⟨g, c, rfl, h1, h2, h3⟩
  clear hw0
  go_wp2
  go_end0
  exact ⟨g, c, rfl, h1, h2, F0.out.trans h3⟩
end Go.Proofs.Ytlkkmeeijjaeiaa
