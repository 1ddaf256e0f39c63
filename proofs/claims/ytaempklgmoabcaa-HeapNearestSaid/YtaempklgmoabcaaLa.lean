/- The walk of the statement HeapNearest. -/
import Derived.Test.YtaempklgmoabcaaHk
namespace Go.Proofs.Ytaempklgmoabcaa
open Go.Shelf Go.RowKit Go.Lib
open Go.Sort hiding Below
set_option linter.unusedVariables false
set_option maxRecDepth 100000 in
theorem heapNearest_far (A : Option Addr) (c n : Nat) (m p : Int) (w : World) (h : 300 < n) :
    Calls Try.prog 3 #[.slice A n c, .int .u8 m, .int .u16 p] w (Yes w) := by
  have HA := Lib.hid alive_any
  have z : (300 : Int) < (n : Int) := by omega
  go_enter Try.func3, Try.ntmps3
  go_wp2_with fail
  refine (HA.out w).mono ?_
  rintro e w1 ⟨rfl, t1⟩
  go_wp2_with fail
  refine (HA.out w1).mono ?_
  rintro e w2 ⟨rfl, t2⟩
  go_wp2
  go_ret
  exact ⟨rfl, below_turn (t1.trans t2 (fun a ha => by simp at ha))⟩
set_option maxRecDepth 100000 in
theorem heapNearest_like (A : Option Addr) (c : Nat) (xs : HL) (m p : Int) (w : World) (hx : RdH w w.heap.size A xs) (hl : xs.length ≤ 300) (hu : ¬ (ids xs).Nodup) :
    Calls Try.prog 3 #[.slice A xs.length c, .int .u8 m, .int .u16 p] w (Yes w) := by
  have HA := Lib.hid alive_any
  have z : decide ((xs.length : Int) > 300) = false := decide_eq_false (by omega)
  have z' : ¬ (300 : Int) < (xs.length : Int) := by omega
  have HU := Lib.hid (decide_eq_false hu)
  have HX := Lib.hid hx
  have HL := Lib.hid hl
  clear hx hu hl
  go_enter Try.func3, Try.ntmps3
  go_wp2_with fail
  refine (HA.out w).mono ?_
  rintro e w1 ⟨rfl, t1⟩
  have H1 := unlike_any A c xs xs.length rfl w1 w.heap.size (HX.out.below (below_turn t1)) (by have := HL.out; omega)
  rw [HU.out] at H1
  have H1 := Lib.hid H1
  go_wp2_with fail
  refine H1.out.mono ?_
  rintro e w2 ⟨rfl, q, rfl⟩
  have t2 := t1.drewN q
  clear H1 t1
  generalize w1.drewN q = w2 at t2 ⊢
  go_wp2_with fail
  refine (HA.out w2).mono ?_
  rintro e w3 ⟨rfl, t3⟩
  go_wp2
  go_ret
  exact ⟨rfl, below_turn (t2.trans t3 (fun a ha => by simp at ha))⟩
theorem turned_perm (xs : HL) {k : Nat} (hk : k ≤ xs.length) : (xs.reverse.take (xs.length - k) ++ xs.take k).Perm xs := by
  rw [List.take_reverse, show xs.length - (xs.length - k) = k by omega]
  refine ((List.reverse_perm _).append_right _).trans ?_
  refine List.perm_append_comm.trans ?_
  rw [List.take_append_drop]
/-- Hits of a heap of the call's own, once more. -/
theorem hitsMine {w w1 : World} {b most : Nat} {F : List Nat} {ys : HL} (h : Mine w w1 b F most ys) : Calls Try.prog 13 #[.pointer (some ⟨b, 0, none⟩)] w1 (HitsYes ys w1) := hHits_any b F most ys w1 h.1
set_option maxRecDepth 100000 in
set_option maxHeartbeats 4000000 in
theorem heapNearest_yes (A : Option Addr) (c : Nat) (xs : HL) (m p : Nat) (w : World) (hx : RdH w w.heap.size A xs) (ok : ∀ x ∈ xs, HitOk x) (hl : xs.length ≤ 300) (hc : xs.length ≤ c) (hnil : A = none → c = 0) (hm : m ≤ 255) (hp : p ≤ 65535) (hu : (ids xs).Nodup) :
    Calls Try.prog 3 #[.slice A xs.length c, .int .u8 m, .int .u16 p] w (Yes w) := by
  have HA := Lib.hid alive_any
  have z : decide ((xs.length : Int) > 300) = false := decide_eq_false (by omega)
  have z' : ¬ (300 : Int) < (xs.length : Int) := by omega
  have HU := Lib.hid (decide_eq_true hu)
  have HX := Lib.hid hx
  have HL := Lib.hid hl
  have OK := Lib.hid ok
  have HC := Lib.hid hc
  have HN := Lib.hid hnil
  obtain ⟨i0, hi, hz0, hz1, hz2⟩ := info_parts Try.info28k
  obtain ⟨k, hk⟩ : ∃ k, k = p % (xs.length + 1) := ⟨_, rfl⟩
  have hkl : k ≤ xs.length := by have := Nat.mod_lt p (show 0 < xs.length + 1 by omega); omega
  have ek : (p : Int).tmod ((xs.length : Int) + 1) = (k : Int) := by rw [hk]; rw [Int.tmod_eq_emod_of_nonneg (by omega)]; rfl
  clear hx hu ok hc hnil hk
  go_enter Try.func3, Try.ntmps3
  go_wp2_with fail
  refine (HA.out w).mono ?_
  rintro e w1 ⟨rfl, t1⟩
  have H1 := unlike_any A c xs xs.length rfl w1 w.heap.size (HX.out.below (below_turn t1)) (by have := HL.out; omega)
  rw [HU.out] at H1
  have H1 := Lib.hid H1
  go_wp2_with fail
  refine H1.out.mono ?_
  rintro e w2 ⟨rfl, q, rfl⟩
  have t2 := t1.drewN q
  clear H1 t1
  generalize w1.drewN q = w2 at t2 ⊢
  have hz : (xs.length : Int) ≤ 300 := z'
  go_wp2
  go_loopg [9, 10] (xs.length - k) (fun g1 v s wr => ∃ t : Nat, s = .int .i64 ((xs.length : Int) - 1 - (t : Int)) ∧ t ≤ xs.length - k ∧ xs.length - k - t ≤ g1 ∧ wr.ownsRow w2.heap.size 28 2 v t (flatH (xs.reverse.take t)) ∧ Below w2.heap.size w2 wr)
  case atStart => exact ⟨0, by simp, by omega, by omega, ⟨rfl, .inl ⟨rfl, rfl⟩⟩, Below.refl _ _⟩
  case round =>
    obtain ⟨t, rfl, ht, hg1, hown, hB⟩ := hrel
    have hsz := hB.size
    have hBw := (below_turn t2).trans (hB.mono t2.size)
    by_cases hlt : t < xs.length - k
    · obtain ⟨u, hu⟩ : ∃ u, xs.length - 1 - t = u := ⟨_, rfl⟩
      have huz : (xs.length : Int) - 1 - (t : Int) = (u : Int) := by omega
      have hul : u < xs.length := by omega
      have hku : (k : Int) ≤ (u : Int) := by omega
      obtain ⟨b, off, x1, x2, rfl, _, hc1, hc2, hv⟩ := (HX.out.below hBw).at_ hul
      have HS := Lib.hid (rev_take (by rw [hu]; exact hv.out) (by omega : t < xs.length))
      have HT := Lib.hid hu
      rw [huz]
      clear hu huz hv
      go_wp2_with (at_builtin; refine wpList_append_lies _ rfl (.tmp 43) (.tmp 48) 22 rfl w2.heap.size 28 i0 (.agg #[.int .u64 0, .int .i64 0]) 2 16 Try.underlying22 hi hz0 hz1 hz2 rfl (by omega) _ t (flatH (xs.reverse.take t)) rfl (hown.alloc _) ⟨wr.heap.size, 0, none⟩ 1 1 [.int .u64 x1, .int .i64 x2] rfl rfl (World.news_of_block (cs := #[.int .u64 x1, .int .i64 x2]) (t := 28) (fr := (0, 0)) (heap_alloc_new wr _)) (by simp [Value.oneCell']) (by omega) (by unfold maxLen; omega) (by omega) (by simp; omega) (wr.heap.size + 1) (by simp) ?_; intro g1 cap1 w4 hown1 hgrow1 hat1 hlt1)
      have hB4 : Below w2.heap.size w2 w4 := (hB.alloc hsz _).grown hgrow1 (by simp; omega) (fun j hj => (hown.lt j hj).1)
      have hown2 : w4.ownsRow w2.heap.size 28 2 (.slice (some ⟨g1, 0, none⟩) (t + 1) cap1) (t + 1) (flatH (xs.reverse.take (t + 1))) := by rw [HS.out, flatH_app]; exact hown1
      clear hown hown1 hgrow1 hat1
      go_roundg (xs.length - k - (t + 1))
      case measure => have := HT.out; omega
      case rel => exact ⟨t + 1, by have := HT.out; congr 1; omega, by omega, by omega, hown2, hB4⟩
    · obtain rfl : t = xs.length - k := by omega
      have hlz : ¬ (k : Int) ≤ (xs.length : Int) - 1 - ((xs.length - k : Nat) : Int) := by omega
      have hrt := ((HX.out.below hBw).more hBw.size).take k
      have hkc : (k : Int) ≤ (c : Int) := by have := HC.out; omega
      have hlk : (xs.take k).length = k := by rw [List.length_take]; omega
      go_wp2_with (first | (at_builtin; refine wpList_appH _ rfl (.tmp 50) (.tmp 53) 22 rfl w2.heap.size 28 i0 (.agg #[.int .u64 0, .int .i64 0]) 16 Try.underlying22 hi hz0 hz1 hz2 rfl _ (xs.length - k) (xs.reverse.take (xs.length - k)) rfl hown A k c (xs.take k) wr.heap.size rfl hlk.symm hrt HN.out (by unfold maxLen; omega) (by omega) hsz ?_; intro v' w4 hown4 hgrow4) | fail)
      have hB4 := hB.grown hgrow4 hsz (fun j hj => (hown.lt j hj).1)
      have HT : Hid ((xs.reverse.take (xs.length - k) ++ xs.take k).Perm xs) := turned_perm xs hkl
      rw [show xs.length - k + k = xs.length by omega] at hown4
      generalize xs.reverse.take (xs.length - k) ++ xs.take k = tr at hown4 HT
      obtain ⟨At, ct, rfl, htl, hrt4⟩ := own_sliceH hown4
      have HTL := Lib.hid htl
      have t4 : Turn [] w w4 := Turn.of_below ((below_turn t2).trans (hB4.mono t2.size))
      have H5 := Lib.hid (sort_any A c xs xs.length rfl w4 ((HX.out.below (below_turn t4)).more t4.size) (by omega))
      clear hown hown4 hgrow4 hB4 hB hBw hrt hsz hi hz0 hz1 hz2 hlk hlz hlt ht hg1 htl t2
      go_wp2_with fail
      refine H5.out.mono ?_
      intro e w5 h5
      obtain ⟨g, rfl, hW5, hg5, hB5⟩ := h5
      have hW5' : Whole w5 g 28 (flatH (srt xs)).toArray := hW5
      have t5 := t4.trans (Turn.of_below hB5) (fun a ha => by simp at ha)
      have hrt5 := (hrt4.below hB5).more hB5.size
      obtain ⟨L, hL⟩ : ∃ L, L = min (m + 1) xs.length := ⟨_, rfl⟩
      have hLz : min ((m : Int) + 1) (xs.length : Int) = (L : Int) := by omega
      have hLx : (L : Int) ≤ (xs.length : Int) := by omega
      have em : ((m + 1 : Nat) : Int) = (m : Int) + 1 := rfl
      have f1 := fill_any (m + 1) A c xs xs.length rfl w5 ((HX.out.below (below_turn t5)).more t5.size) OK.out (by omega) (by omega) (by omega)
      rw [em] at f1
      have F1 := Lib.hid f1
      have EM := Lib.hid em
      clear f1 em
      have HW5 := Lib.hid hW5'
      have HRT := Lib.hid hrt5
      have HSL := Lib.hid (show ((srt xs).take (m + 1)).length = L by rw [List.length_take, srt_len]; omega)
      have HLL := Lib.hid hL
      clear H5 hW5 hg5 hB5 hrt4 t4 hrt5 hW5' hL
      go_wp2_with fail
      refine F1.out.mono ?_
      rintro e w6 ⟨b1, F1', rfl, M1⟩
      rw [pushAll_nearest (by omega) (of_decide_eq_true HU.out)] at M1
      have H7 := Lib.hid (hitsMine M1)
      have hW6 := HW5.out.turn M1.2.2 (by simp)
      have hrt6 := (HRT.out.below (below_turn M1.2.2)).more M1.2.2.size
      have t6 := t5.trans M1.2.2 (fun a ha => by simp at ha)
      clear F1 M1
      go_wp2_with fail
      refine H7.out.mono ?_
      rintro e w7 ⟨g7, rfl, hW7, hg7, t7⟩
      have hW7' := hW6.turn t7 (by simp)
      have hrt7 := (hrt6.below (below_turn t7)).more t7.size
      have t7' := t6.trans t7 (fun a ha => by simp at ha)
      have hs7 : RdH w7 w7.heap.size (some ⟨g, 0, none⟩) ((srt xs).take (m + 1)) := (rdH_whole hW7').take (m + 1)
      have h8 := sameTrue (some ⟨g7, 0, none⟩) (some ⟨g, 0, none⟩) L xs.length ((srt xs).take (m + 1)) L HSL.out.symm w7 _ (rdH_whole hW7) hs7 (by rw [HSL.out]; omega)
      have H8 := Lib.hid h8
      have HSE := Lib.hid HSL.out
      rw [HSL.out]
      clear h8 hW6 hrt6 t6 hW7 hg7 t7 hs7 H7
      go_wp2_with fail
      refine H8.out.mono ?_
      rintro e w8 ⟨rfl, q8, rfl⟩
      have t8 := t7'.drewN q8
      have hW8 : Whole (w7.drewN q8) g 28 (flatH (srt xs)).toArray := hW7'.turn ((Turn.refl [] w7).drewN q8) (by simp)
      have hrt8 : RdH (w7.drewN q8) (w7.drewN q8).heap.size At tr := (hrt7.below (below_turn ((Turn.refl [] w7).drewN q8))).more ((Turn.refl [] w7).drewN q8).size
      clear H8 t7' hW7' hrt7
      generalize w7.drewN q8 = w8 at t8 hW8 hrt8 ⊢
      have f2 := fill_any (m + 1) At ct tr xs.length HTL.out w8 hrt8 (fun x hx => OK.out x (HT.out.subset hx)) (by omega) (by omega) (by omega)
      rw [EM.out] at f2
      have F2 := Lib.hid f2
      have HW8 := Lib.hid hW8
      clear f2 hrt8 hW8
      go_wp2_with fail
      refine F2.out.mono ?_
      rintro e w9 ⟨b2, F2', rfl, M2⟩
      rw [pushAll_nearest (by omega) ((ids_nodup_perm HT.out).2 (of_decide_eq_true HU.out)), srt_of_perm HT.out] at M2
      have H9 := Lib.hid (hitsMine M2)
      have hW9 := HW8.out.turn M2.2.2 (by simp)
      have t9 := t8.trans M2.2.2 (fun a ha => by simp at ha)
      clear F2 M2 t8
      go_wp2_with fail
      refine H9.out.mono ?_
      rintro e w10 ⟨g10, rfl, hW10, hg10, t10⟩
      have hW10' := hW9.turn t10 (by simp)
      have t10' := t9.trans t10 (fun a ha => by simp at ha)
      have hs10 : RdH w10 w10.heap.size (some ⟨g, 0, none⟩) ((srt xs).take (m + 1)) := (rdH_whole hW10').take (m + 1)
      have H10 := Lib.hid (sameTrue (some ⟨g10, 0, none⟩) (some ⟨g, 0, none⟩) L xs.length ((srt xs).take (m + 1)) L HSL.out.symm w10 _ (rdH_whole hW10) hs10 (by rw [HSL.out]; omega))
      rw [HSL.out]
      clear hW9 t9 hW10 hg10 t10 hs10 H9 hW10'
      go_wp2_with fail
      refine H10.out.mono ?_
      rintro e w11 ⟨rfl, q11, rfl⟩
      have t11 := t10'.drewN q11
      clear H10 t10'
      generalize w10.drewN q11 = w11 at t11 ⊢
      go_wp2
      go_ret
      exact ⟨rfl, below_turn t11⟩
end Go.Proofs.Ytaempklgmoabcaa
