/- The walk of the statement HeapHalves. -/
import Derived.Test.YtaempklgmoabcaaHk
namespace Go.Proofs.Ytaempklgmoabcaa
open Go.Shelf Go.RowKit Go.Lib
open Go.Sort hiding Below
set_option linter.unusedVariables false
set_option maxRecDepth 100000 in
theorem heapHalves_far (A B : Option Addr) (c d n l : Nat) (m : Int) (w : World) (h : 200 < n ∨ 200 < l) :
    Calls Try.prog 5 #[.slice A n c, .slice B l d, .int .u8 m] w (Yes w) := by
  have HA := Lib.hid alive_any
  by_cases h1 : 200 < n
  · have z : (200 : Int) < (n : Int) := by omega
    clear h
    go_enter Try.func5, Try.ntmps5
    go_wp2_with fail
    refine (HA.out w).mono ?_
    rintro e w1 ⟨rfl, t1⟩
    go_wp2_with fail
    refine (HA.out w1).mono ?_
    rintro e w2 ⟨rfl, t2⟩
    go_wp2
    go_ret
    exact ⟨rfl, below_turn (t1.trans t2 (fun a ha => by simp at ha))⟩
  · have z : ¬ (200 : Int) < (n : Int) := by omega
    have z' : (200 : Int) < (l : Int) := by omega
    clear h
    go_enter Try.func5, Try.ntmps5
    go_wp2_with fail
    refine (HA.out w).mono ?_
    rintro e w1 ⟨rfl, t1⟩
    go_wp2_with fail
    refine (HA.out w1).mono ?_
    rintro e w2 ⟨rfl, t2⟩
    go_wp2
    go_ret
    exact ⟨rfl, below_turn (t1.trans t2 (fun a ha => by simp at ha))⟩
set_option maxRecDepth 100000 in
set_option maxHeartbeats 2000000 in
theorem heapHalves_like (A B : Option Addr) (c d : Nat) (xs ys : HL) (m : Int) (w : World) (hx : RdH w w.heap.size A xs) (hy : RdH w w.heap.size B ys) (hl : xs.length ≤ 200) (hl' : ys.length ≤ 200) (hc : xs.length ≤ c) (hd : ys.length ≤ d) (hnx : A = none → c = 0) (hny : B = none → d = 0)
    (hu : ¬ (ids (xs ++ ys)).Nodup) : Calls Try.prog 5 #[.slice A xs.length c, .slice B ys.length d, .int .u8 m] w (Yes w) := by
  have HA := Lib.hid alive_any
  have z : ¬ (200 : Int) < (xs.length : Int) := by omega
  have z' : ¬ (200 : Int) < (ys.length : Int) := by omega
  have HU := Lib.hid (decide_eq_false hu)
  have HX := Lib.hid hx
  have HY := Lib.hid hy
  have HL := Lib.hid (⟨hl, hl', hc, hd⟩ : _ ∧ _ ∧ _ ∧ _)
  obtain ⟨i0, hi, hz0, hz1, hz2⟩ := info_parts Try.info28k
  clear hu hx hy hl hl' hc hd
  go_enter Try.func5, Try.ntmps5
  go_wp2_with fail
  refine (HA.out w).mono ?_
  rintro e w1 ⟨rfl, t1⟩
  go_wp2_with (first
    | (at_builtin; refine wpList_appH _ rfl (.tmp 25) (.tmp 26) 22 rfl w1.heap.size 28 i0 (.agg #[.int .u64 0, .int .i64 0]) 16 Try.underlying22 hi hz0 hz1 hz2 rfl _ 0 [] rfl (own_nilH _ _ _) A xs.length c xs w.heap.size rfl rfl (HX.out.below (below_turn t1)) hnx (by have := HL.out; unfold maxLen; omega) (by have := HL.out; omega) (Nat.le_refl _) ?_; intro v2 w2 hown2 hgrow2)
    | (at_builtin; refine wpList_appH _ rfl (.tmp 28) (.tmp 29) 22 rfl w1.heap.size 28 i0 (.agg #[.int .u64 0, .int .i64 0]) 16 Try.underlying22 hi hz0 hz1 hz2 rfl v2 (0 + xs.length) ([] ++ xs) rfl hown2 B ys.length d ys w.heap.size rfl rfl ((HY.out.below (below_turn t1)).below ((((Below.refl _ _).grown hgrow2 (Nat.le_refl _) (fun j hj => by cases hj)).mono t1.size))) hny (by have := HL.out; unfold maxLen; omega) (by have := HL.out; omega) (by exact hgrow2.size) ?_; intro v3 w3 hown3 hgrow3)
    | fail)
  have hBa : Below w1.heap.size w1 w2 := (Below.refl _ _).grown hgrow2 (Nat.le_refl _) (fun j hj => by cases hj)
  have hBb : Below w1.heap.size w1 w3 := hBa.grown hgrow3 hBa.size (fun j hj => (hown2.lt j hj).1)
  have t3 : Turn [] w w3 := Turn.of_below ((below_turn t1).trans (hBb.mono t1.size))
  obtain ⟨C, e, rfl, hn3, hr3⟩ := own_sliceH hown3
  rw [List.nil_append] at hn3 hr3
  obtain ⟨n3, hn3'⟩ : ∃ n3, n3 = 0 + xs.length + ys.length := ⟨_, rfl⟩
  rw [← hn3'] at hn3 ⊢
  have hn3s : n3 ≤ 400 := by have := HL.out; omega
  have H4 := unlike_any C e (xs ++ ys) n3 hn3 w3 _ hr3 (by omega)
  rw [HU.out] at H4
  have H4 := Lib.hid H4
  clear hown2 hgrow2 hown3 hgrow3 hBa hBb hr3 hi hz0 hz1 hz2 t1 hn3 hn3'
  refine H4.out.mono ?_
  rintro e' w4 ⟨rfl, q, rfl⟩
  have t4 := t3.drewN q
  go_wp2
  go_ret
  exact ⟨rfl, below_turn t4⟩
set_option maxRecDepth 100000 in
set_option maxHeartbeats 4000000 in
theorem heapHalves_yes (A B : Option Addr) (c d : Nat) (xs ys : HL) (m : Nat) (w : World) (hx : RdH w w.heap.size A xs) (hy : RdH w w.heap.size B ys) (okx : ∀ x ∈ xs, HitOk x) (oky : ∀ x ∈ ys, HitOk x) (hl : xs.length ≤ 200) (hl' : ys.length ≤ 200) (hc : xs.length ≤ c) (hd : ys.length ≤ d) (hnx : A = none → c = 0) (hny : B = none → d = 0)
    (hm : m ≤ 255) (hu : (ids (xs ++ ys)).Nodup) : Calls Try.prog 5 #[.slice A xs.length c, .slice B ys.length d, .int .u8 m] w (Yes w) := by
  have HA := Lib.hid alive_any
  have z : ¬ (200 : Int) < (xs.length : Int) := by omega
  have z' : ¬ (200 : Int) < (ys.length : Int) := by omega
  have HU := Lib.hid (decide_eq_true hu)
  have HX := Lib.hid hx
  have OKX := Lib.hid okx
  have OKY := Lib.hid oky
  have HY := Lib.hid hy
  have HL := Lib.hid (⟨hl, hl', hc, hd⟩ : _ ∧ _ ∧ _ ∧ _)
  obtain ⟨i0, hi, hz0, hz1, hz2⟩ := info_parts Try.info28k
  clear hu okx oky hx hy hl hl' hc hd
  go_enter Try.func5, Try.ntmps5
  go_wp2_with fail
  refine (HA.out w).mono ?_
  rintro e w1 ⟨rfl, t1⟩
  go_wp2_with (first
    | (at_builtin; refine wpList_appH _ rfl (.tmp 25) (.tmp 26) 22 rfl w1.heap.size 28 i0 (.agg #[.int .u64 0, .int .i64 0]) 16 Try.underlying22 hi hz0 hz1 hz2 rfl _ 0 [] rfl (own_nilH _ _ _) A xs.length c xs w.heap.size rfl rfl (HX.out.below (below_turn t1)) hnx (by have := HL.out; unfold maxLen; omega) (by have := HL.out; omega) (Nat.le_refl _) ?_; intro v2 w2 hown2 hgrow2)
    | (at_builtin; refine wpList_appH _ rfl (.tmp 28) (.tmp 29) 22 rfl w1.heap.size 28 i0 (.agg #[.int .u64 0, .int .i64 0]) 16 Try.underlying22 hi hz0 hz1 hz2 rfl v2 (0 + xs.length) ([] ++ xs) rfl hown2 B ys.length d ys w.heap.size rfl rfl ((HY.out.below (below_turn t1)).below ((((Below.refl _ _).grown hgrow2 (Nat.le_refl _) (fun j hj => by cases hj)).mono t1.size))) hny (by have := HL.out; unfold maxLen; omega) (by have := HL.out; omega) (by exact hgrow2.size) ?_; intro v3 w3 hown3 hgrow3)
    | fail)
  have hBa : Below w1.heap.size w1 w2 := (Below.refl _ _).grown hgrow2 (Nat.le_refl _) (fun j hj => by cases hj)
  have hBb : Below w1.heap.size w1 w3 := hBa.grown hgrow3 hBa.size (fun j hj => (hown2.lt j hj).1)
  have t3 : Turn [] w w3 := Turn.of_below ((below_turn t1).trans (hBb.mono t1.size))
  obtain ⟨C, e, rfl, hn3, hr3⟩ := own_sliceH hown3
  rw [List.nil_append] at hn3 hr3
  obtain ⟨n3, hn3'⟩ : ∃ n3, n3 = 0 + xs.length + ys.length := ⟨_, rfl⟩
  rw [← hn3'] at hn3 ⊢
  have hn3s : n3 ≤ 400 := by have := HL.out; omega
  have H4 := unlike_any C e (xs ++ ys) n3 hn3 w3 _ hr3 (by omega)
  rw [HU.out] at H4
  have H4 := Lib.hid H4
  have HR3 := Lib.hid hr3
  have HN3 := Lib.hid hn3
  clear hown2 hgrow2 hown3 hgrow3 hBa hBb hr3 hi hz0 hz1 hz2 t1 hn3 hn3'
  refine H4.out.mono ?_
  rintro e' w4 ⟨rfl, q, rfl⟩
  have t4 := t3.drewN q
  have hr4 : RdH (w3.drewN q) w3.heap.size C (xs ++ ys) := HR3.out.below (below_turn ((Turn.refl [] w3).drewN q))
  have hs4 : w3.heap.size ≤ (w3.drewN q).heap.size := ((Turn.refl [] w3).drewN q).size
  have HR4 := Lib.hid (hr4.more hs4)
  clear H4 t3 hr4 hs4 HR3
  generalize w3.drewN q = w4 at t4 HR4 ⊢
  have em : ((m + 1 : Nat) : Int) = (m : Int) + 1 := rfl
  have f1 := fill_any (m + 1) A c xs xs.length rfl w4 ((HX.out.below (below_turn t4)).more t4.size) OKX.out (by have := HL.out; omega) (by omega) (by omega)
  rw [em] at f1
  have F1 := Lib.hid f1
  have EM := Lib.hid em
  clear f1 em
  go_wp2_with fail
  refine F1.out.mono ?_
  rintro e' w5 ⟨b1, G1, rfl, M1⟩
  have hnx' : (ids xs).Nodup := by
    have := of_decide_eq_true HU.out
    rw [ids_app, List.nodup_append] at this
    exact this.1
  have hny' : (ids ys).Nodup := by
    have := of_decide_eq_true HU.out
    rw [ids_app, List.nodup_append] at this
    exact this.2.1
  rw [pushAll_nearest (by omega) hnx'] at M1
  have t5 := t4.trans M1.2.2 (fun a ha => by simp at ha)
  have f2 := fill_any (m + 1) B d ys ys.length rfl w5 ((HY.out.below (below_turn t5)).more t5.size) OKY.out (by have := HL.out; omega) (by omega) (by omega)
  rw [EM.out] at f2
  have F2 := Lib.hid f2
  have HM1 := Lib.hid M1
  clear F1 f2 M1
  go_wp2_with fail
  refine F2.out.mono ?_
  rintro e' w6 ⟨b2, G2, rfl, M2⟩
  rw [pushAll_nearest (by omega) hny'] at M2
  obtain ⟨Z, hZ⟩ : ∃ Z, Z = (srt ys).take (m + 1) := ⟨_, rfl⟩
  rw [← hZ] at M2
  have H7 := Lib.hid (hHits_any _ _ _ _ _ M2.1)
  have M6 := HM1.out.same M2.2.2
  have hG1 : ∀ f ∈ G1, f < w6.heap.size := M6.1.lt
  have HZ := Lib.hid hZ
  have HU2 := Lib.hid hnx'
  clear F2 M2 HM1 hZ hnx' hny' t5
  go_wp2_with fail
  refine H7.out.mono ?_
  rintro e' w7 ⟨g, rfl, hW7, hg7, t7⟩
  have M7 := M6.same t7
  have hgG : g ∉ G1 := fun h => by have := hG1 g h; omega
  have HI : Hid (Mine w4 w7 b1 G1 (m + 1) (pushAll (m + 1) ((srt xs).take (m + 1)) (Z.take 0))) := by show Mine _ _ _ _ _ _; simpa [pushAll] using M7
  have HW : Hid (Whole w7 g 28 (flatH Z).toArray) := hW7
  have HGG : Hid (g ∉ G1) := hgG
  have HOZ : Hid (∀ z ∈ Z, HitOk z) := fun z hz => OKY.out z ((srt_perm ys).subset (List.mem_of_mem_take (by rw [← HZ.out]; exact hz)))
  have HZL : Hid (Z.length ≤ 256) := by show _ ≤ _; rw [HZ.out, List.length_take]; omega
  clear H7 M6 hG1 hW7 hg7 t7 M7 hgG
  obtain ⟨l, hl⟩ : ∃ l, l = Z.length := ⟨_, rfl⟩
  rw [← hl]
  have HLZ := Lib.hid hl
  have hl256 : l ≤ 256 := by have := HZL.out; omega
  clear hl
  go_wp2
  go_loopg [11] l (fun g1 s wr => ∃ (i : Nat) (G : List Nat), s = .int .i64 i ∧ i ≤ l ∧ l - i ≤ g1 ∧ Hid (Mine w4 wr b1 G (m + 1) (pushAll (m + 1) ((srt xs).take (m + 1)) (Z.take i))) ∧ Hid (Whole wr g 28 (flatH Z).toArray) ∧ Hid (g ∉ G))
  case atStart => exact ⟨0, G1, rfl, by omega, by omega, HI, HW, HGG⟩
  case round =>
    clear HI HW HGG
    obtain ⟨i, G, rfl, hi, hg1, HM, HW, HG⟩ := hrel
    by_cases hlt : i < l
    · obtain ⟨b0, off0, x, y, hA0, _, kc1, kc2, hv⟩ := (rdH_whole HW.out).at_ (i := i) (by have := HLZ.out; omega)
      simp only [Option.some.injEq, Addr.mk.injEq, and_true] at hA0
      obtain ⟨rfl, rfl⟩ := hA0
      rw [Nat.zero_add] at kc1 kc2
      have hz : (i : Int) < (l : Int) := by omega
      have hz0 : (0 : Int) ≤ (i : Int) := by omega
      have H8 := Lib.hid (hPushM_any b1 G (m + 1) _ x y wr HM.out.1 (HOZ.out _ (List.mem_of_getElem? hv.out)))
      go_wp2_with fail
      refine H8.out.mono ?_
      rintro e' w8 ⟨rfl, G', hI, t8, hF⟩
      have HM2 : Hid (Mine w4 w8 b1 G' (m + 1) (pushAll (m + 1) ((srt xs).take (m + 1)) (Z.take (i + 1)))) := by
        have := HM.out.pushed hI t8 hF
        rw [← pushAll_step hv.out] at this
        exact this
      have HW2 : Hid (Whole w8 g 28 (flatH Z).toArray) := HW.out.turn t8 HG.out
      have HG2 : Hid (g ∉ G') := fun h => by
        rcases hF g h with h1 | h1
        · exact HG.out h1
        · exact Nat.lt_irrefl _ (Nat.lt_of_lt_of_le HW.out.lt h1)
      clear hI t8 hF H8 kc1 kc2
      go_wp2
      go_roundg (l - (i + 1))
      case measure => omega
      case rel => exact ⟨i + 1, G', by go_num, by omega, by omega, HM2, HW2, HG2⟩
    · have hz : ¬ (i : Int) < (l : Int) := by omega
      have M := HM.out
      rw [show Z.take i = Z from List.take_of_length_le (by have := HLZ.out; omega)] at M
      have hnd : (ids (xs ++ Z)).Nodup := by
        have h1 : (ids (xs ++ srt ys)).Nodup := (ids_nodup_perm ((srt_perm ys).append_left xs)).2 (of_decide_eq_true HU.out)
        have h2 : List.Sublist (xs ++ Z) (xs ++ srt ys) := (List.Sublist.refl xs).append (by rw [HZ.out]; exact List.take_sublist _ _)
        exact h1.sublist (h2.map _)
      rw [pushAll_from (by omega) Z xs hnd, HZ.out, srt_half] at M
      obtain ⟨R, hR⟩ : ∃ R, R = (srt (xs ++ ys)).take (m + 1) := ⟨_, rfl⟩
      rw [← hR] at M
      obtain ⟨l2, hl2⟩ : ∃ l2, l2 = R.length := ⟨_, rfl⟩
      have hl3 : l2 ≤ 256 := by rw [hl2, hR, List.length_take]; omega
      have HRR := Lib.hid hR
      have HLR := Lib.hid hl2
      clear hR hl2
      have H9 := Lib.hid (hHits_any _ _ _ _ _ M.1)
      have t9 := t4.trans M.2.2 (fun a ha => by simp at ha)
      have hr9 := (HR4.out.below (below_turn M.2.2)).more M.2.2.size
      have HR9 := Lib.hid hr9
      clear hnd M HM HW HG hr9 HR4
      go_wp2_with fail
      refine H9.out.mono ?_
      rintro e' w10 ⟨g10, rfl, hW10, hg10, t10⟩
      rw [← HLR.out]
      have t10' := t9.trans t10 (fun a ha => by simp at ha)
      have hr10 := (HR9.out.below (below_turn t10)).more t10.size
      have f3 := fill_any (m + 1) C e (xs ++ ys) n3 HN3.out w10 hr10 (fun z hz => by rcases List.mem_append.1 hz with h | h; exact OKX.out z h; exact OKY.out z h) (by omega) (by omega) (by omega)
      rw [EM.out] at f3
      have F3 := Lib.hid f3
      have HW10 := Lib.hid hW10
      clear f3 hr10 t10 t9 hg10 hW10 H9 HR9
      go_wp2_with fail
      refine F3.out.mono ?_
      rintro e' w11 ⟨b3, G3, rfl, M3⟩
      rw [pushAll_nearest (by omega) (of_decide_eq_true HU.out), ← HRR.out] at M3
      have H11 := Lib.hid (hHits_any _ _ _ _ _ M3.1)
      have hW11 := HW10.out.turn M3.2.2 (by simp)
      have t11 := t10'.trans M3.2.2 (fun a ha => by simp at ha)
      clear F3 M3 t10'
      go_wp2_with fail
      refine H11.out.mono ?_
      rintro e' w12 ⟨g12, rfl, hW12, hg12, t12⟩
      have hW11' := hW11.turn t12 (by simp)
      have t12' := t11.trans t12 (fun a ha => by simp at ha)
      rw [← HLR.out]
      have H12 := Lib.hid (sameTrue (some ⟨g10, 0, none⟩) (some ⟨g12, 0, none⟩) l2 l2 R l2 HLR.out w12 _ (rdH_whole hW11') (rdH_whole hW12) (by have := HLR.out; omega))
      clear hW11 t11 hW12 hg12 t12 hW11' H11
      go_wp2_with fail
      refine H12.out.mono ?_
      rintro e' w13 ⟨rfl, q13, rfl⟩
      have t13 := t12'.drewN q13
      go_wp2
      go_ret
      exact ⟨rfl, below_turn t13⟩
end Go.Proofs.Ytaempklgmoabcaa
