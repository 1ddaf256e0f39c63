/- The walk of the statement HeapTwice. -/
import Derived.Test.YtaempklgmoabcaaHk
namespace Go.Proofs.Ytaempklgmoabcaa
open Go.Shelf Go.RowKit Go.Lib
open Go.Sort hiding Below
set_option linter.unusedVariables false
set_option maxRecDepth 100000 in
theorem heapTwice_far (A : Option Addr) (c n : Nat) (m d : Int) (w : World) (h : 200 < n) :
    Calls Try.prog 6 #[.slice A n c, .int .u8 m, .int .i64 d] w (Yes w) := by
  have HA := Lib.hid alive_any
  have z : (200 : Int) < (n : Int) := by omega
  go_enter Try.func6, Try.ntmps6
  go_wp2_with fail
  refine (HA.out w).mono ?_
  rintro e w1 ⟨rfl, t1⟩
  go_wp2_with fail
  refine (HA.out w1).mono ?_
  rintro e w2 ⟨rfl, t2⟩
  go_wp2
  go_ret
  exact ⟨rfl, below_turn (t1.trans t2 (fun a ha => by simp at ha))⟩
theorem took_dup {most : Nat} {ys : HL} {x d : Int} (h : x ∈ ids ys) : tookH most ys (x, d) = false := by
  unfold tookH
  rw [decide_eq_true h]
  rfl
/-- The one that went is taken again. -/
theorem took_back {most : Nat} {ys : HL} (hu : Up ys) (hn : (ids ys).Nodup) (hl : ys.length ≤ most) (h0 : 0 < ys.length) : tookH most ys.dropLast (lastH ys) = true ∧ pushH most ys.dropLast (lastH ys) = ys := by
  have e := split_last h0
  have hx : (lastH ys).1 ∉ ids ys.dropLast := by
    rw [← e, ids_app, List.nodup_append] at hn
    exact fun hm => hn.2.2 _ hm _ (by simp [ids]) rfl
  have hd : ys.dropLast.length ≠ most := by rw [List.length_dropLast]; omega
  have ht : tookH most ys.dropLast (lastH ys) = true := by
    unfold tookH
    rw [decide_eq_false hx, decide_eq_true hd]
    rfl
  refine ⟨ht, pushS ht ?_ hu⟩
  rw [if_neg hd, e]
set_option maxRecDepth 100000 in
set_option maxHeartbeats 4000000 in
theorem heapTwice_yes (A : Option Addr) (c : Nat) (xs : HL) (m : Nat) (d : Int) (w : World) (hx : RdH w w.heap.size A xs) (ok : ∀ x ∈ xs, HitOk x) (hl : xs.length ≤ 200) (hm : m ≤ 255) (wd : (Lit.int .i64 d).wf = true) :
    Calls Try.prog 6 #[.slice A xs.length c, .int .u8 m, .int .i64 d] w (Yes w) := by
  have HA := Lib.hid alive_any
  have z : decide ((xs.length : Int) > 200) = false := decide_eq_false (by omega)
  have z' : ¬ (200 : Int) < (xs.length : Int) := by omega
  have HX := Lib.hid hx
  have HL := Lib.hid hl
  have OK := Lib.hid ok
  have WD := Lib.hid wd
  clear hx ok wd
  go_enter Try.func6, Try.ntmps6
  go_wp2_with fail
  refine (HA.out w).mono ?_
  rintro e w1 ⟨rfl, t1⟩
  have em : ((m + 1 : Nat) : Int) = (m : Int) + 1 := rfl
  have f1 := fill_any (m + 1) A c xs xs.length rfl w1 ((HX.out.below (below_turn t1)).more t1.size) OK.out (by omega) (by omega) (by omega)
  rw [em] at f1
  have F1 := Lib.hid f1
  clear f1 em
  go_wp2_with fail
  refine F1.out.mono ?_
  rintro e w2 ⟨b, F, rfl, M2⟩
  obtain ⟨ys, hys⟩ : ∃ ys, ys = pushAll (m + 1) [] xs := ⟨_, rfl⟩
  rw [← hys] at M2
  clear hys
  have H3 := Lib.hid (hHits_any b F (m + 1) ys w2 M2.1)
  have HM2 := Lib.hid M2
  have HGF0 := Lib.hid M2.1.lt
  clear F1 M2
  go_wp2_with fail
  refine H3.out.mono ?_
  rintro e w3 ⟨g, rfl, hW3, hg3, t3⟩
  have M3 := HM2.out.same t3
  have HGF : Hid (∀ f ∈ F, f < g) := fun f hf => Nat.lt_of_lt_of_le (HGF0.out f hf) hg3
  have HF := Lib.hid M3.1.facts
  have hyl : ys.length ≤ m + 1 := HF.out.2.2.1
  obtain ⟨q, hq⟩ : ∃ q, q = ys.length := ⟨_, rfl⟩
  have hq3 : q ≤ 256 := by omega
  have HQ := Lib.hid hq
  have HI : Hid (Mine w1 w3 b F (m + 1) ys) := M3
  have HGG : Hid (g ∉ F) := fun h => Nat.lt_irrefl _ (HGF.out g h)
  have HW : Hid (Whole w3 g 28 (flatH ys).toArray) := hW3
  have HT1 := Lib.hid t1
  rw [← hq]
  clear H3 HM2 HGF0 hW3 hg3 M3 hq hyl HGF t3 t1
  go_wp2
  go_loopg [9] q (fun g1 s wr => ∃ (i : Nat) (G : List Nat), s = .int .i64 i ∧ i ≤ q ∧ q - i ≤ g1 ∧ Hid (Mine w1 wr b G (m + 1) ys) ∧ Hid (Whole wr g 28 (flatH ys).toArray) ∧ Hid (g ∉ G))
  case atStart => exact ⟨0, F, rfl, by omega, by omega, HI, HW, HGG⟩
  case round =>
    clear HI HW HGG
    obtain ⟨i, G, rfl, hi, hg1, HM, HW, HG⟩ := hrel
    by_cases hlt : i < q
    · obtain ⟨b0, off0, x, y, hA0, _, kc1, kc2, hv⟩ := (rdH_whole HW.out).at_ (i := i) (by have := HQ.out; omega)
      simp only [Option.some.injEq, Addr.mk.injEq, and_true] at hA0
      obtain ⟨rfl, rfl⟩ := hA0
      rw [Nat.zero_add] at kc1 kc2
      have hz : (i : Int) < (q : Int) := by omega
      have hz0 : (0 : Int) ≤ (i : Int) := by omega
      have hmem := List.mem_of_getElem? hv.out
      have HTK : Hid (tookH (m + 1) ys (x, d) = false) := took_dup (List.mem_map.2 ⟨_, hmem, rfl⟩)
      have H8 := Lib.hid (hPushM_any b G (m + 1) ys x d wr HM.out.1 ⟨(HF.out.2.1 _ hmem).1, WD.out⟩)
      clear hmem hv
      go_wp2_with fail
      refine H8.out.mono ?_
      rintro e w8 ⟨rfl, G', hI, t8, hF⟩
      have HM2 : Hid (Mine w1 w8 b G' (m + 1) ys) := by
        have := HM.out.pushed hI t8 hF
        rwa [pushN HTK.out] at this
      have HW2 : Hid (Whole w8 g 28 (flatH ys).toArray) := HW.out.turn t8 HG.out
      have HG2 : Hid (g ∉ G') := fun h => by
        rcases hF g h with h1 | h1
        · exact HG.out h1
        · exact Nat.lt_irrefl _ (Nat.lt_of_lt_of_le HW.out.lt h1)
      rw [HTK.out]
      clear hI t8 hF H8 kc1 kc2
      go_wp2
      go_roundg (q - (i + 1))
      case measure => omega
      case rel => exact ⟨i + 1, G', by go_num, by omega, by omega, HM2, HW2, HG2⟩
    · have hz : ¬ (i : Int) < (q : Int) := by omega
      have H9 := Lib.hid (hHits_any b G (m + 1) ys wr HM.out.1)
      clear hlt
      go_wp2_with fail
      refine H9.out.mono ?_
      rintro e w9 ⟨g9, rfl, hW9, hg9, t9⟩
      rw [← HQ.out]
      have M9 := HM.out.same t9
      have hWg := HW.out.turn t9 (by simp)
      have H10 := Lib.hid (sameTrue (some ⟨g9, 0, none⟩) (some ⟨g, 0, none⟩) q q ys q HQ.out w9 _ (rdH_whole hW9) (rdH_whole hWg) (by have := HQ.out; omega))
      have HB9 := Lib.hid (⟨M9, hWg⟩ : _ ∧ _)
      clear M9 hWg hW9 hg9 t9 H9
      go_wp2_with fail
      refine H10.out.mono ?_
      rintro e w10 ⟨rfl, q10, rfl⟩
      have t10 : Turn [] w9 (w9.drewN q10) := (Turn.refl [] w9).drewN q10
      have HM10 : Hid (Mine w1 (w9.drewN q10) b G (m + 1) ys) := HB9.out.1.same t10
      have HW10 : Hid (Whole (w9.drewN q10) g 28 (flatH ys).toArray) := HB9.out.2.turn t10 (by simp)
      clear H10 HB9 t10 HM HW
      generalize w9.drewN q10 = w11 at HM10 HW10 ⊢
      rcases Nat.eq_zero_or_pos q with hq0 | hq0
      · subst hq0
        have hys0 : ys = [] := List.eq_nil_of_length_eq_zero HQ.out.symm
        have H11 := Lib.hid (hPopM_no b G (m + 1) w11 (by have := HM10.out.1; rwa [hys0] at this))
        clear hys0
        go_wp2_with fail
        refine H11.out.mono ?_
        rintro e w12 ⟨rfl, t12⟩
        go_wp2
        go_ret
        exact ⟨rfl, below_turn ((HT1.out.trans (HM10.out.2.2.trans t12 (fun a ha => by simp at ha)) (fun a ha => by simp at ha)).alloc _)⟩
      · obtain ⟨x1, x2, hlast⟩ : ∃ x1 x2, lastH ys = (x1, x2) := ⟨_, _, rfl⟩
        have h11 := hPopM_yes b G (m + 1) ys w11 HM10.out.1 (by have := HQ.out; omega)
        rw [hlast] at h11
        have H11 : Hid (Calls Try.prog 16 #[.pointer (some ⟨b, 0, none⟩)] w11 fun e w' => e = .returned (.tuple #[.agg #[.int .u64 x1, .int .i64 x2], .bool true]) ∧ HeapIs w' b G (m + 1) ys.dropLast ∧ Turn G w11 w') := h11
        have HLA := Lib.hid hlast
        clear h11 hlast
        go_wp2_with fail
        refine H11.out.mono ?_
        rintro e w12 ⟨rfl, hI, t12⟩
        have M12 : Mine w1 w12 b G (m + 1) ys.dropLast := ⟨hI, HM10.out.2.1, HM10.out.2.2.trans t12 (fun a ha => .inr (HM10.out.2.1 a ha))⟩
        have hW12 := HW10.out.turn t12 HG.out
        have M13 := M12.same ((Turn.refl [] w12).alloc (.cells #[.int .u64 x1, .int .i64 x2] 28))
        have hW13 := hW12.turn ((Turn.refl [] w12).alloc (.cells #[.int .u64 x1, .int .i64 x2] 28)) (by simp)
        have hmem : (x1, x2) ∈ ys := by rw [← HLA.out]; exact lastH_mem (by have := HQ.out; omega)
        have hbk := took_back (most := m + 1) HF.out.2.2.2.2.2.1 HF.out.1 HF.out.2.2.1 (by have := HQ.out; omega)
        rw [HLA.out] at hbk
        have HBK := Lib.hid hbk
        have H14 := Lib.hid (hPushM_any b G (m + 1) ys.dropLast x1 x2 _ M13.1 (HF.out.2.1 _ hmem))
        have HB := Lib.hid (⟨M13, hW13⟩ : _ ∧ _)
        clear hI t12 M12 hW12 M13 hW13 hmem hbk H11 HM10 HW10
        go_wp2_with fail
        generalize w12.alloc (.cells #[.int .u64 x1, .int .i64 x2] 28) = w13 at H14 HB ⊢
        refine H14.out.mono ?_
        rintro e w14 ⟨rfl, G', hI, t14, hF⟩
        have M14 : Mine w1 w14 b G' (m + 1) ys := by
          have := HB.out.1.pushed hI t14 hF
          rwa [HBK.out.2] at this
        have hW14 := HB.out.2.turn t14 HG.out
        have H15 := Lib.hid (hHits_any b G' (m + 1) ys w14 M14.1)
        have HB14 := Lib.hid (⟨M14, hW14⟩ : _ ∧ _)
        rw [HBK.out.1]
        clear hI t14 hF M14 hW14 H14 HB
        go_wp2_with fail
        refine H15.out.mono ?_
        rintro e w15 ⟨g15, rfl, hW15, hg15, t15⟩
        rw [← HQ.out]
        have hWg := HB14.out.2.turn t15 (by simp)
        have M15 := HB14.out.1.same t15
        have H16 := Lib.hid (sameTrue (some ⟨g15, 0, none⟩) (some ⟨g, 0, none⟩) q q ys q HQ.out w15 _ (rdH_whole hW15) (rdH_whole hWg) (by have := HQ.out; omega))
        have HT15 := Lib.hid (HT1.out.trans M15.2.2 (fun a ha => by simp at ha))
        clear hWg M15 hW15 hg15 t15 H15 HB14
        go_wp2_with fail
        refine H16.out.mono ?_
        rintro e w16 ⟨rfl, q16, rfl⟩
        go_wp2
        go_ret
        exact ⟨rfl, below_turn (HT15.out.drewN q16)⟩
end Go.Proofs.Ytaempklgmoabcaa
