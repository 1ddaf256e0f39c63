/- The walk of the statement VecOrder. -/
import Derived.Test.YtegphnlfhcokfaaH
import Derived.Test.YtegphnlfhcokfaaQ
import Derived.Test.YtegphnlfhcokfaaJ
import Derived.Deep.AppendLies
import Derived.Deep.RegionHeld3
namespace Go.Proofs.Ytegphnlfhcokfaa
open Go.RowKit Go.Shelf
set_option linter.unusedVariables false
/-- Hits in order. -/
def srt (xs : List (Int × Int)) : List (Int × Int) := srtH xs.toArray
theorem leH_trans (a b c : Int × Int) (h1 : (!ltH b a) = true) (h2 : (!ltH c b) = true) : (!ltH c a) = true := by
  unfold ltH at *; simp at *; omega
theorem leH_total (a b : Int × Int) : (!ltH b a || !ltH a b) = true := by
  unfold ltH; simp; omega
theorem srt_pw (xs : List (Int × Int)) : List.Pairwise (fun a b => (!ltH b a) = true) (srt xs) := List.pairwise_mergeSort leH_trans leH_total xs
theorem srt_perm (xs : List (Int × Int)) : (srt xs).Perm xs := List.mergeSort_perm xs _
theorem srt_len (xs : List (Int × Int)) : (srt xs).length = xs.length := (srt_perm xs).length_eq
theorem srt_of_perm {xs ys : List (Int × Int)} (h : xs.Perm ys) : srt xs = srt ys :=
  List.Perm.eq_of_pairwise (fun a b _ _ h1 h2 => sepH a b (by simpa using h2) (by simpa using h1)) (srt_pw xs) (srt_pw ys) (((srt_perm xs).trans h).trans (srt_perm ys).symm)
theorem srt_srt (xs : List (Int × Int)) : srt (srt xs) = srt xs := List.mergeSort_of_pairwise (srt_pw xs)
theorem srt_rev (xs : List (Int × Int)) : srt xs.reverse = srt xs := srt_of_perm (List.reverse_perm xs)
theorem srt_count (xs : List (Int × Int)) (x : Int × Int) : (srt xs).count x = xs.count x := (srt_perm xs).count_eq x
theorem srt_step {xs : List (Int × Int)} {i : Nat} {x y : Int × Int} (h1 : (srt xs)[i]? = some x) (h2 : (srt xs)[i + 1]? = some y) : ltH y x = false := by
  have hp := srt_pw xs
  rw [List.pairwise_iff_getElem] at hp
  have k1 := (List.getElem?_eq_some_iff.1 h1)
  have k2 := (List.getElem?_eq_some_iff.1 h2)
  obtain ⟨l1, rfl⟩ := k1
  obtain ⟨l2, rfl⟩ := k2
  have := hp i (i + 1) l1 l2 (by omega)
  simpa using this
theorem rdH_whole {w : World} {g : Nat} {e : TypeId} {xs : List (Int × Int)} (h : Whole w g e (flatH xs).toArray) : RdH w w.heap.size (some ⟨g, 0, none⟩) xs := fun hl => by
  refine ⟨g, 0, rfl, h.lt, fun t ht => ?_⟩
  rw [Nat.zero_add, h.cell t, List.getElem?_toArray]
set_option maxRecDepth 100000 in
set_option maxHeartbeats 400000 in
theorem vecOrder_no (A : Option Addr) (c n : Nat) (w : World) (h : 300 < n) : Calls Try.prog 7 #[.slice A n c] w fun e w' => e = .returned (.bool true) ∧ Below w.heap.size w w' := by
  have HA := Lib.hid alive_any
  have hz : decide (300 < (n : Int)) = true := decide_eq_true (by omega)
  go_enter Try.func7, Try.ntmps7
  go_wp2_with fail
  refine (HA.out w).mono ?_
  rintro e w1 ⟨rfl, hB1⟩
  go_wp2_with fail
  refine (HA.out _).mono ?_
  rintro e w3 ⟨rfl, hB3⟩
  go_wp2
  go_ret
  exact ⟨rfl, hB1.trans (hB3.mono hB1.size)⟩
theorem rev_take {xs : List (Int × Int)} {k : Nat} {x : Int × Int} (h : xs[xs.length - 1 - k]? = some x) (hk : k < xs.length) : xs.reverse.take (k + 1) = xs.reverse.take k ++ [x] := by
  rw [List.take_succ_eq_append_getElem (by simpa using hk)]
  congr 1
  rw [List.getElem_reverse]
  rw [List.getElem?_eq_getElem (by omega)] at h
  simp only [Option.some.injEq] at h
  rw [h]
theorem own_sliceH {w : World} {base n : Nat} {e : TypeId} {v : Value} {ys : List (Int × Int)} (h : w.ownsRow base e 2 v n (flatH ys)) : ∃ A c, v = .slice A n c ∧ n = ys.length ∧ RdH w w.heap.size A ys := by
  have hn : n = ys.length := by have := h.1; rw [flatH_len] at this; omega
  have h' := h
  rcases h.2 with ⟨rfl, h0⟩ | ⟨g, cap, cur, rfl, _⟩
  · exact ⟨none, 0, by rw [h0], hn, fun hp => by omega⟩
  · exact ⟨some ⟨g, 0, none⟩, cap, rfl, hn, rdH_own h'⟩
theorem sortAs (A : Option Addr) (c : Nat) (ys zs : List (Int × Int)) (n : Nat) (hn : n = ys.length) (he : srt ys = zs) (w : World) (hx : RdH w w.heap.size A ys) (hl : ys.length ≤ 8796093022208) :
    Calls Try.prog 17 #[.slice A n c] w fun e w' => ∃ g, e = .returned (.slice (some ⟨g, 0, none⟩) n n) ∧ Whole w' g 35 (flatH zs).toArray ∧ Below w.heap.size w w' := by
  refine (sort_any A c ys n hn w hx hl).mono fun e w' h => ?_
  obtain ⟨g, h1, h2, h3, h4⟩ := h
  refine ⟨g, h1, ?_, h4⟩
  rw [← he]; exact h2
theorem sameTrue (A B : Option Addr) (c d : Nat) (zs : List (Int × Int)) (n : Nat) (hn : n = zs.length) (w : World) (D : Nat) (hx : RdH w D A zs) (hy : RdH w D B zs) (hl : zs.length ≤ 140737488355328) :
    Calls Try.prog 18 #[.slice A n c, .slice B n d] w fun e w' => e = .returned (.bool true) ∧ ∃ nq, w' = w.drewN nq := by
  subst hn
  have := sameHits_any A B c d zs zs w D hx hy hl hl
  rwa [show eqHB zs zs = true by simp [eqHB]] at this
theorem grow2 (w : World) (o1 o2 : Obj) : ∃ os, (w.alloc o1).alloc o2 = Sort.grow (w.drewN 0) os := ⟨_, by rw [Sort.alloc_eq_grow, Sort.alloc_eq_grow, Sort.grow_grow]; rfl⟩
theorem below_grow (w : World) (n : Nat) (os : Array Obj) : Below w.heap.size w (Sort.grow (w.drewN n) os) :=
  ⟨rfl, rfl, rfl, by rw [Sort.size_grow]; show w.heap.size ≤ w.heap.size + _; omega, fun k hk => by rw [Sort.heap_grow_old _ _ (show k < (w.drewN n).heap.size from hk)]; rfl⟩
set_option maxRecDepth 100000 in
set_option maxHeartbeats 4000000 in
theorem vecOrder_yes (A : Option Addr) (c : Nat) (xs : List (Int × Int)) (w : World) (hx : RdH w w.heap.size A xs) (hl : xs.length ≤ 300) : Calls Try.prog 7 #[.slice A xs.length c] w fun e w' => e = .returned (.bool true) ∧ Below w.heap.size w w' := by
  have HA := Lib.hid alive_any
  have hz : decide (300 < (xs.length : Int)) = false := decide_eq_false (by omega)
  obtain ⟨i0, hi, hz0, hz1, hz2⟩ := info_parts Try.info35h
  go_enter Try.func7, Try.ntmps7
  go_wp2_with fail
  refine (HA.out w).mono ?_
  rintro e w1 ⟨rfl, hB1⟩
  have H17 := Lib.hid (sort_any A c xs xs.length rfl w1 ((hx.below hB1).more hB1.size) (by omega))
  clear HA
  go_wp2_with fail
  refine H17.out.mono ?_
  intro e w2 h2
  obtain ⟨g, rfl, hW2, hg2, hB2⟩ := h2
  have hW2' : Whole w2 g 35 (flatH (srt xs)).toArray := hW2
  have hB2' := hB1.trans (hB2.mono hB1.size)
  clear H17 hW2 hg2 hB2 hB1 hz
  go_wp2
  go_loopw [4, 5] (fun v i wr => ∃ k : Nat, k ≤ xs.length ∧ i = .int .i64 ((xs.length : Int) - 1 - (k : Int)) ∧ wr.ownsRow w2.heap.size 35 2 v k (flatH (xs.reverse.take k)) ∧ Below w2.heap.size w2 wr) (fun _ i _ => (intOf i + 1).toNat)
  case atStart => exact ⟨0, by omega, by simp, ⟨rfl, .inl ⟨rfl, rfl⟩⟩, Below.refl _ _⟩
  case round =>
    obtain ⟨k, hk, rfl, hown, hB⟩ := hrel
    have hBw := hB2'.trans (hB.mono hB2'.size)
    have hsz := hB.size
    by_cases hlt : k < xs.length
    · obtain ⟨t, ht⟩ : ∃ t, xs.length - 1 - k = t := ⟨_, rfl⟩
      have htz : (xs.length : Int) - 1 - (k : Int) = (t : Int) := by omega
      have htl : t < xs.length := by omega
      obtain ⟨b, off, x1, x2, rfl, _, hc1, hc2, hv⟩ := (hx.below hBw).at_ htl
      have HS := Lib.hid (rev_take (by rw [ht]; exact hv.out) hlt)
      have HT := Lib.hid ht
      rw [htz]
      clear ht htz hv
      go_wp2_with (at_builtin; refine wpList_append_lies _ rfl (.tmp 24) (.tmp 29) 29 rfl w2.heap.size 35 i0 (.agg #[.int .u64 0, .int .i64 0]) 2 16 Try.underlying29 hi hz0 hz1 hz2 rfl (by omega) _ k (flatH (xs.reverse.take k)) rfl (hown.alloc _) ⟨wr.heap.size, 0, none⟩ 1 1 [.int .u64 x1, .int .i64 x2] rfl rfl (World.news_of_block (cs := #[.int .u64 x1, .int .i64 x2]) (t := 35) (fr := (0, 0)) (heap_alloc_new wr _)) (by simp [Value.oneCell']) (by omega) (by unfold maxLen; omega) (by omega) (by simp; omega) (wr.heap.size + 1) (by simp) ?_; intro g1 cap1 w4 hown1 hgrow1 hat1 hlt1)
      have hB4 : Below w2.heap.size w2 w4 := (hB.alloc hsz _).grown hgrow1 (by simp; omega) (fun j hj => (hown.lt j hj).1)
      have hown2 : w4.ownsRow w2.heap.size 35 2 (.slice (some ⟨g1, 0, none⟩) (k + 1) cap1) (k + 1) (flatH (xs.reverse.take (k + 1))) := by rw [HS.out, flatH_app]; exact hown1
      clear hown hown1 hgrow1 hat1
      go_roundw
      case rel => exact ⟨k + 1, by omega, by have := HT.out; congr 1; omega, hown2, hB4⟩
      case measure => have := HT.out; first | (simp [intOf]; done) | (simp [intOf]; omega)
    · obtain rfl : k = xs.length := by omega
      rw [show (xs.length : Int) - 1 - (xs.length : Int) = -1 by omega]
      rw [show xs.reverse.take xs.length = xs.reverse by rw [List.take_of_length_le (by simp)]] at hown
      obtain ⟨At, ct, rfl, hnn, hrt⟩ := own_sliceH hown
      clear hnn hlt hk
      have hWr := hW2'.below hB hW2'.lt
      have n1 : ((xs.length : Int) != (xs.length : Int)) = false := by simp
      have H1 := Lib.hid (sortAs (some ⟨g, 0, none⟩) xs.length (srt xs) (srt xs) xs.length (srt_len xs).symm (srt_srt xs) wr (rdH_whole hWr) (by rw [srt_len]; omega))
      have HX := Lib.hid hx
      clear hown hi hz0 hz1 hz2 hW2' hx
      go_wp2_with fail
      refine H1.out.mono ?_
      intro e w5 h5
      obtain ⟨g5, rfl, hW5, hB5⟩ := h5
      have hWs := hWr.below hB5 hWr.lt
      have hrt5 := (hrt.below hB5).more hB5.size
      have hB5' := hBw.trans (hB5.mono hBw.size)
      have H2 := Lib.hid (sameTrue (some ⟨g5, 0, none⟩) (some ⟨g, 0, none⟩) xs.length xs.length (srt xs) xs.length (srt_len xs).symm w5 _ (rdH_whole hW5) (rdH_whole hWs) (by rw [srt_len]; omega))
      clear H1 hW5 hrt hWr hB5 hBw hB
      go_wp2_with fail
      refine H2.out.mono ?_
      rintro e w6 ⟨rfl, nq, rfl⟩
      have hB6 := below_drewN hB5' nq
      have hW6 : Whole (w5.drewN nq) g 35 (flatH (srt xs)).toArray := hWs
      have hrt6 : RdH (w5.drewN nq) (w5.drewN nq).heap.size At xs.reverse := hrt5
      clear H2 hB5' hWs hrt5
      generalize w5.drewN nq = w6 at hB6 hW6 hrt6 ⊢
      have H3 := Lib.hid (sortAs At ct xs.reverse (srt xs) xs.length (by simp) (srt_rev xs) w6 hrt6 (by simp; omega))
      go_wp2_with fail
      refine H3.out.mono ?_
      intro e w7 h7
      obtain ⟨g7, rfl, hW7, hB7⟩ := h7
      have hWs7 := hW6.below hB7 hW6.lt
      have hB7' := hB6.trans (hB7.mono hB6.size)
      have H4 := Lib.hid (sameTrue (some ⟨g7, 0, none⟩) (some ⟨g, 0, none⟩) xs.length xs.length (srt xs) xs.length (srt_len xs).symm w7 _ (rdH_whole hW7) (rdH_whole hWs7) (by rw [srt_len]; omega))
      clear H3 hW7 hrt6 hW6 hB7 hB6
      go_wp2_with fail
      refine H4.out.mono ?_
      rintro e w8 ⟨rfl, nq8, rfl⟩
      have hB8 := below_drewN hB7' nq8
      have hW8 : Whole (w7.drewN nq8) g 35 (flatH (srt xs)).toArray := hWs7
      clear H4 hB7' hWs7
      generalize w7.drewN nq8 = w8 at hB8 hW8 ⊢
      have hl8 := hW8.lt
      clear n1
      go_wp2
      go_loopw [6] (fun i wr => ∃ t : Nat, t ≤ xs.length ∧ i = .int .i64 t ∧ Below w8.heap.size w8 wr) (fun i _ => xs.length - (intOf i).toNat)
      case atStart => exact ⟨0, by omega, rfl, Below.refl _ _⟩
      case round =>
        obtain ⟨t, ht, rfl, hB⟩ := hrel
        have hBw := hB8.trans (hB.mono hB8.size)
        by_cases hlt : t < xs.length
        · have hxr := (HX.out.below hBw).more hBw.size
          have hWt := hW8.below hB hl8
          have hsr := rdH_whole hWt
          obtain ⟨b, off, x1, x2, rfl, hbl, hc1, hc2, hv⟩ := hxr.at_ hlt
          obtain ⟨b', off', y1, y2, hA, _, hd1, hd2, hu⟩ := hsr.at_ (i := t) (by rw [srt_len]; exact hlt)
          simp only [Option.some.injEq, Addr.mk.injEq, and_true] at hA
          obtain ⟨rfl, rfl⟩ := hA
          rw [Nat.zero_add] at hd1 hd2
          have hsl : (srt xs).length = xs.length := srt_len xs
          have CN : ∀ (Z : Option Addr) (z : Nat) (zs : List (Int × Int)), RdH wr wr.heap.size Z zs → zs.length = xs.length → zs.count (x1, x2) = xs.count (x1, x2) → ∀ n os, Calls Try.prog 27 #[.slice Z xs.length z, .agg #[.int .u64 x1, .int .i64 x2]] (Sort.grow (wr.drewN n) os) fun e w' => e = .returned (.int .i64 ((xs.count (x1, x2) : Nat) : Int)) ∧ ∃ q os', w' = Sort.grow ((Sort.grow (wr.drewN n) os).drewN q) os' := fun Z z zs hz hzl hzc n os => by
            have hW := below_grow wr n os
            have := count_any Z z zs x1 x2 (Sort.grow (wr.drewN n) os) ((hz.below hW).more hW.size) (by omega)
            rw [hzl, hzc] at this
            exact this
          have HC1 := Lib.hid (CN (some ⟨g, 0, none⟩) xs.length (srt xs) hsr hsl (srt_count xs _))
          have HC2 := Lib.hid (CN (some ⟨b, off, none⟩) c xs hxr rfl rfl)
          have k1 := fun n os => cell_grown (a := ⟨b, off + t * 2, none⟩) hbl hc1 n os
          have k2 := fun n os => cell_grown (a := ⟨b, off + t * 2 + 1, none⟩) hbl hc2 n os
          have hgl : g < wr.heap.size := hWt.lt
          have k3 := fun n os => cell_grown (a := ⟨g, t * 2, none⟩) hgl hd1 n os
          have k4 := fun n os => cell_grown (a := ⟨g, t * 2 + 1, none⟩) hgl hd2 n os
          have HSR := Lib.hid hsr
          have HU := Lib.hid hu.out
          clear CN hxr hsr hv hu hsl hc1 hc2 hd1 hd2
          generalize xs.count (x1, x2) = C at HC1 HC2
          have e1 : ((C : Int) != (C : Int)) = false := by simp
          have mixed : Try.prog.follows .mixedOrders = true := by kernel_rfl
          have z1 : (t : Int) < (xs.length : Int) := by omega
          have z2 : (0 : Int) ≤ (t : Int) := by omega
          rcases Nat.eq_zero_or_pos t with h0 | h0
          · subst h0
            simp only [Nat.zero_mul, Nat.add_zero, Nat.zero_add] at k1 k2 k3 k4
            have z0 : decide ((0 : Int) < (0 : Int)) = false := by decide
            clear k3 k4 HSR HU
            go_wp2_with fail
            refine wp_region_quiet_grown mixed (by kernel_rfl) ?_
            repeat (go_big_quiet_step (first | (go_at_call 27; with_reducible refine Calls.grown_of (HC1.out _ _)) | (go_at_call 27; with_reducible refine Calls.grown_of (HC2.out _ _))))
            refine wpQuiet_nil ?_
            intro _ hw'
            obtain ⟨⟨nq', osq⟩, hw''⟩ := hw'
            subst hw''
            go_wp2
            go_roundw
            case rel => exact ⟨1, by omega, rfl, hB.trans ((below_grow wr _ _).mono hB.size)⟩
            case measure => simp [intOf]; omega
          · obtain ⟨p, rfl⟩ : ∃ p, t = p + 1 := ⟨t - 1, by omega⟩
            obtain ⟨b', off', v1, v2, hA, _, hm1, hm2, hvv⟩ := HSR.out.at_ (i := p) (by rw [srt_len]; omega)
            simp only [Option.some.injEq, Addr.mk.injEq, and_true] at hA
            obtain ⟨rfl, rfl⟩ := hA
            rw [Nat.zero_add] at hm1 hm2
            have k5 := fun n os => cell_grown (a := ⟨g, p * 2, none⟩) hgl hm1 n os
            have k6 := fun n os => cell_grown (a := ⟨g, p * 2 + 1, none⟩) hgl hm2 n os
            have hlf : ltH (y1, y2) (v1, v2) = false := srt_step hvv.out HU.out
            have HL : Hid (∀ n os, Calls Try.prog 21 #[.agg #[.int .u64 y1, .int .i64 y2], .agg #[.int .u64 v1, .int .i64 v2]] (Sort.grow (wr.drewN n) os) fun e w' => e = .returned (.bool false) ∧ ∃ q os', w' = Sort.grow ((Sort.grow (wr.drewN n) os).drewN q) os') := fun n os => by
              have := less_any y1 y2 v1 v2 (Sort.grow (wr.drewN n) os)
              rw [hlf] at this
              exact this.mono fun e w' h => ⟨h.1, 0, by rw [h.2]; exact grow2 _ _ _⟩
            have z0 : decide ((0 : Int) < (p : Int) + 1) = true := decide_eq_true (by omega)
            have hwp : IntKind.i64.wrap (p : Int) = (p : Int) := by rw [IntKind.wrap_i64]; omega
            have z3 : (p : Int) + 1 < (xs.length : Int) := by omega
            have z4 : (p : Int) < (xs.length : Int) := by omega
            have z5 : (0 : Int) ≤ (p : Int) + 1 := by omega
            have z6 : ((p : Int) + 1).toNat = p + 1 := by omega
            clear hm1 hm2 hvv hlf HSR HU h0
            go_wp2_with fail
            refine wp_region_quiet_grown mixed (by kernel_rfl) ?_
            repeat (go_big_quiet_step (first | (go_at_call 27; with_reducible refine Calls.grown_of (HC1.out _ _)) | (go_at_call 27; with_reducible refine Calls.grown_of (HC2.out _ _)) | (go_at_call 21; with_reducible refine Calls.grown_of (HL.out _ _))))
            refine wpQuiet_nil ?_
            intro _ hw'
            obtain ⟨⟨nq', osq⟩, hw''⟩ := hw'
            subst hw''
            clear hwp z6
            go_wp2
            go_roundw
            case rel => exact ⟨p + 1 + 1, by omega, by go_num, hB.trans ((below_grow wr _ _).mono hB.size)⟩
            case measure => simp [intOf]; omega
        · go_wp2
          go_ret
          exact ⟨rfl, hBw⟩
end Go.Proofs.Ytegphnlfhcokfaa
