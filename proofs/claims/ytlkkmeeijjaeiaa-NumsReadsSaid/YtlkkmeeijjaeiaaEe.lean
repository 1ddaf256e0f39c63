/- The walk of the statement NumsReads: the document's GetItem, the item filled. -/
import Derived.Test.YtlkkmeeijjaeiaaDd
namespace Go.Proofs.Ytlkkmeeijjaeiaa
open Go.RowKit
set_option linter.unusedVariables false
set_option maxRecDepth 100000 in
set_option maxHeartbeats 2000000 in
theorem refGetItem_w5 {A : Option Addr} {len c : Nat} {w w0 : World} {k j m : Nat} {id : Int} (h : RPre A len c w w0 k j m id) (h1 : 1 ≤ m) (h64 : m ≤ 64) (hlt : k + j + m ≤ len) (xs : List Int) (hlen : len = xs.length) (hx : Rd .u8 w w.heap.size A xs) (hb : ∀ x ∈ xs, 0 ≤ x ∧ x ≤ 255) :
    Calls Try.prog 32 #[.slice A len c] w (RefYes w id ((k : Int) + j + m) ((xs.drop (k + j)).take m)) := by
  obtain ⟨i0, hi, hz0, hz1, hz2⟩ := info_parts Try.info74d
  obtain ⟨hB0, hres, hs⟩ := h.bel
  obtain ⟨hw0, g1, g2, hk, hck, hkj, hlc, hc, hl⟩ := h
  have G1 := Lib.hid g1
  have G2 := Lib.hid g2
  have hlt' : ¬ (len : Int) - ((k : Int) + j) < m := by omega
  obtain ⟨ys, HY⟩ : ∃ ys, Hid ((xs.drop (k + j)).take m = ys) := ⟨_, rfl⟩
  have hyl : ys.length = m := by rw [← HY.out, List.length_take, List.length_drop]; omega
  rw [HY.out]
  have I0 : Hid (InG w id (w.heap.size + 1) 0 (((ys.take 0).map sgn).map (Value.int .i8)) (.slice none 0 0) (w0.alloc (.cells #[.int .u64 id, .slice none 0 0] 54))) := by
    have b1 : Below w0.heap.size w0 (w0.alloc (.cells #[.int .u64 id, .slice none 0 0] 54)) := (Below.refl _ _).alloc (Nat.le_refl _) _
    refine ⟨?_, ?_, ?_, by simpa using World.ownsRow_nil _ _ _ _, hB0.trans (b1.mono (by omega)), hres.below b1 (by omega), by simp; omega, by omega⟩
    · rw [← hs]; simp [go_sem]
    · rw [← hs]; simp [go_sem]
    · rw [← hs]; simp [go_sem]
  have HX := Lib.hid hx
  have HB := Lib.hid hb
  have HLN := Lib.hid hlen
  have HYL := Lib.hid hyl
  clear g1 g2 hres hx hb hlen hyl
  go_enter Try.func32, Try.ntmps32
  go_wp2_with fail
  refine G1.out.mono ?_
  rintro e w' ⟨rfl, rfl⟩
  clear hw0
  go_wp2_with fail
  refine G2.out.mono ?_
  rintro e w' ⟨rfl, rfl⟩
  clear G1 G2
  generalize A.map (·.add k) = A2
  go_wp2
  generalize w0.alloc (.cells #[.int .u64 id, .slice none 0 0] 54) = w1 at *
  clear hlt' hck
  go_loopw [12] (fun i wr => ∃ t B bc, t ≤ m ∧ i = .int .i64 (t : Nat) ∧ Hid (InG w id (w.heap.size + 1) t (((ys.take t).map sgn).map (Value.int .i8)) (.slice B t bc) wr)) (fun i _ => m - (intOf i).toNat)
  case atStart => exact ⟨0, none, 0, by omega, rfl, I0⟩
  case round =>
    clear I0
    obtain ⟨t, B, bc, ht, rfl, I⟩ := hrel
    by_cases htm : t < m
    · obtain ⟨b, off, v, rfl, hBb, hck, hv⟩ := ((HX.out.below I.out.bel).at_ (i := k + j + t) (by have := HLN.out; omega))
      have hvb : 0 ≤ v ∧ v ≤ 255 := by
        rw [← hv.out, List.getElem?_eq_getElem (by have := HLN.out; omega)]; exact HB.out _ (List.getElem_mem _)
      have HV : Hid (((ys.take (t + 1)).map sgn).map (Value.int .i8) = ((ys.take t).map sgn).map (Value.int .i8) ++ [.int .i8 (sgn v)]) := sgn_take ys t v (by have := HYL.out; omega) (by rw [← hv.out, ← HY.out, List.getElem?_take, if_pos htm, List.getElem?_drop])
      have HW := Lib.hid (wrap_sgn v hvb)
      have c1 := I.out.c1
      have fr := I.out.fr
      have pl := I.out.lt
      clear hv
      have hown := I.out.own
      have hrow : (Value.slice B t bc).ownBlock ≠ some (w.heap.size + 1) := fun e => by have := (hown.lt _ e).1; omega
      have K1 : Hid (∀ X, (wr.alloc X).drew.cell? ⟨w.heap.size + 1, 1, none⟩ = some (.slice B t bc) ∧ (wr.alloc X).drew.frozen? ⟨w.heap.size + 1, 1, none⟩ = false) := fun X =>
        ⟨(World.cell?_alloc_lt wr X ⟨w.heap.size + 1, 1, none⟩ pl).trans c1, (World.frozen?_of_block (w := wr) (w' := wr.alloc X) (Below.heap_alloc wr X (w.heap.size + 1) pl)).trans fr⟩
      obtain ⟨s, HS⟩ : ∃ s : Nat, Hid (k + j + t = s) := ⟨_, rfl⟩
      rw [HS.out] at hck
      have kw : IntKind.i64.wrap ((k : Int) + j + t) = (s : Int) := by rw [IntKind.wrap_i64]; have := HS.out; omega
      have kj0 : (0 : Int) ≤ (s : Int) := by omega
      have kj1 : (s : Int) < len := by have := HS.out; omega
      go_wp2
      go_region_law
        ((refine step_append_lies _ (by rfl) _ _ _ (by rfl) (w.heap.size + 1 + 1) 74 i0 _ 1 1 Try.underlying52 hi hz0 hz1 hz2 rfl (by omega) (.slice B t bc) t (((ys.take t).map sgn).map (Value.int .i8)) (by rfl) ((hown.alloc _).drew)
            ⟨wr.heap.size, 0, none⟩ 1 1 [.int .i8 (IntKind.i8.wrap v)] (by rfl) (by rfl) (World.news_of_block (cs := #[.int .i8 (IntKind.i8.wrap v)]) (t := 74) (fr := (0, 0)) (heap_alloc_new wr _)) (by simp [Value.oneCell'])
            (by omega) (by unfold maxLen; omega) (by omega) (by simp; omega) (wr.heap.size + 1) (by simp) ?_; intro gg gcap w2 hown2 hgrow hat hlt2; have e1 := (hgrow.cell_far (a := ⟨w.heap.size + 1, 1, none⟩) (by simp; omega) (Ne.symm hrow)).trans (K1.out _).1; have e2 := (hgrow.frozen_far (a := ⟨w.heap.size + 1, 1, none⟩) (by simp; omega) (Ne.symm hrow)).trans (K1.out _).2))
      all_goals
        rw [HW.out, ← HV.out] at hown2
        have I2 := Lib.hid (I.out.step hgrow hown2)
        go_wp2
        go_roundw
        case rel => exact ⟨t + 1, some ⟨gg, 0, none⟩, gcap, by omega, by go_num, I2⟩
        case measure => simp [intOf]; omega
    · obtain rfl : t = m := by omega
      have c0 := I.out.c0
      have c1 := I.out.c1
      obtain ⟨b0, b1, f0, f1⟩ := I.out.res
      clear htm
      have hne : 0 < t := by omega
      obtain ⟨g, cap, hv⟩ := slice_of_own I.out.own hne
      injection hv with q1 q2 q3
      subst q1 q3
      have hb := I.out.bel
      have o1 := ownsRow_setCell_below I.out.own (a := ⟨w.heap.size, 0, none⟩) (by show w.heap.size < w.heap.size + 1 + 1; omega) (.int .u64 id)
      have o2 := ownsRow_setCell_below o1 (a := ⟨w.heap.size, 1, none⟩) (by show w.heap.size < w.heap.size + 1 + 1; omega) (.slice (some ⟨g, 0, none⟩) t bc)
      have HO : Hid (RefYes w id ((k : Int) + j + t) ys (.returned (.tuple #[.agg #[.int .u64 id, .slice (some ⟨g, 0, none⟩) t bc], .int .i64 ((k : Int) + j + t), .int .i64 0])) ((wr.setCell ⟨w.heap.size, 0, none⟩ (.int .u64 id)).setCell ⟨w.heap.size, 1, none⟩ (.slice (some ⟨g, 0, none⟩) t bc))) := by
        have hyl := HYL.out
        rw [List.take_of_length_le (by omega)] at o2
        subst hyl
        exact ⟨g, bc, rfl, owns_base o2 (by omega), (hb.setCell (p := ⟨w.heap.size, 0, none⟩) (Nat.le_refl _) _).setCell (p := ⟨w.heap.size, 1, none⟩) (Nat.le_refl _) _⟩
      clear o1 o2 hb
      go_wp2
      exact bodyPost_ret (v := .tuple #[.agg #[.int .u64 id, .slice (some ⟨g, 0, none⟩) t bc], .int .i64 ((k : Int) + j + t), .int .i64 0]) (by simp [results, Try.results32, go_sem, b0, b1]) rfl HO.out
end Go.Proofs.Ytlkkmeeijjaeiaa
