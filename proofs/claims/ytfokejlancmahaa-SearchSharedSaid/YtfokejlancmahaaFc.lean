/- The walk of the document's Shared, and of SearchShared. -/
import Derived.Test.YtfokejlancmahaaFb
import Derived.Test.YtfokejlancmahaaVy
import Derived.Test.YtfokejlancmahaaOw
import Derived.Deep.RegionHeld3
namespace Go.Proofs.Ytfokejlancmahaa
open Go.Shelf Go.RowKit Go.Lib
open Go.Sort hiding Below
set_option linter.unusedVariables false
set_option linter.unusedSimpArgs false
set_option maxRecDepth 100000 in
set_option maxHeartbeats 4000000 in
theorem rShared_any (A B : Option Addr) (c d : Nat) (xs ys : HL) (n m : Nat) (hn : n = xs.length) (hm : m = ys.length) (w : World) (hx : RdH w w.heap.size A xs) (hy : RdH w w.heap.size B ys) (hc : n ≤ c) (hl : xs.length ≤ 100000) (hl2 : ys.length ≤ 100000) :
    Calls Try.prog 11 #[.slice A n c, .slice B m d] w fun e w' => e = .returned (.int .i64 ((shN (ids xs) (ids ys) : Nat) : Int)) ∧ Below w.heap.size w w' := by
  subst hn hm
  have HX := Lib.hid hx
  have HY := Lib.hid hy
  clear hx hy
  go_enter Try.func11, Try.ntmps11
  go_wp2
  go_loopw [5, 6] (fun s i wr => ∃ k : Nat, k ≤ xs.length ∧ i = .int .i64 k ∧ s = .int .i64 ((shN (ids (xs.take k)) (ids ys) : Nat) : Int) ∧ Hid (Below w.heap.size w wr)) (fun _ i _ => xs.length - (intOf i).toNat)
  case atStart => exact ⟨0, by omega, rfl, by simp [ids, shN, uniqI], Lib.hid (Below.refl _ _)⟩
  case round =>
    obtain ⟨k, hk, rfl, rfl, HB⟩ := hrel
    by_cases hlt : k < xs.length
    · have e1 : decide ((k : Int) < (xs.length : Int)) = true := decide_eq_true (by omega)
      obtain ⟨b, off, x, y, rfl, hBb, h1, h2, hv⟩ := HX.out.at_ hlt
      have x1 : (0 : Int) ≤ (k : Int) := by omega
      have x2 : (k : Int) < (xs.length : Int) := by omega
      have x3 : (k : Int) ≤ (c : Int) := by omega
      have HS : Hid (shN (ids (xs.take (k + 1))) (ids ys) = shN (ids (xs.take k)) (ids ys) + if x ∉ ids (xs.take k) ∧ x ∈ ids ys then 1 else 0) := Lib.hid (by rw [ids_tk hv.out, shN_snoc])
      have hcl : shN (ids (xs.take k)) (ids ys) ≤ 100000 := by have := shN_le (ids (xs.take k)) (ids ys); simp [ids] at this ⊢; omega
      have KC : Hid (∀ W, Below w.heap.size w W → W.cell? ⟨b, off + k * 2, none⟩ = some (.int .u64 x)) := Lib.hid (fun W h => (h.cell (p := ⟨b, off + k * 2, none⟩) hBb).trans h1)
      have K1 : Hid (∀ W, Below w.heap.size w W → Calls Try.prog 26 #[.slice (some ⟨b, off, none⟩) k c, .int .u64 x] W fun e w' => e = .returned (.bool (decide (x ∈ ids (xs.take k)))) ∧ Below w.heap.size w w' ∧ w'.cell? ⟨b, off + k * 2, none⟩ = some (.int .u64 x)) := Lib.hid (fun W h => (rHas_any (some ⟨b, off, none⟩) c (xs.take k) k (by simp; omega) x W w.heap.size ((HX.out.take k).below h) (by simp; omega)).mono fun e w' q => by
        obtain ⟨rfl, nq, rfl⟩ := q
        have hw := below_drewN h nq
        exact ⟨rfl, hw, KC.out _ hw⟩)
      have K2 : Hid (∀ W, Below w.heap.size w W → Calls Try.prog 26 #[.slice B ys.length d, .int .u64 x] W fun e w' => e = .returned (.bool (decide (x ∈ ids ys))) ∧ Below w.heap.size w w' ∧ w'.cell? ⟨b, off + k * 2, none⟩ = some (.int .u64 x)) := Lib.hid (fun W h => (rHas_any B d ys ys.length rfl x W w.heap.size (HY.out.below h) (by omega)).mono fun e w' q => by
        obtain ⟨rfl, nq, rfl⟩ := q
        have hw := below_drewN h nq
        exact ⟨rfl, hw, KC.out _ hw⟩)
      have HDR := HB.out.drew
      have j1 := KC.out _ HDR
      obtain ⟨C, eC⟩ : ∃ C, shN (ids (xs.take k)) (ids ys) = C := ⟨_, rfl⟩
      rw [eC] at HS hcl ⊢
      clear hv eC h1 h2 hBb KC
      by_cases hm1 : x ∈ ids (xs.take k)
      · rw [decide_eq_true hm1] at K1
        have HS2 : Hid (shN (ids (xs.take (k + 1))) (ids ys) = C) := Lib.hid (by rw [HS.out, if_neg (fun q => q.1 hm1)]; rfl)
        clear hm1
        go_wp2
        first
        | (go_region_law
            (go_simp; go_at_call 26; (with_reducible refine (K1.out _ (by with_reducible assumption)).mono ?_); rintro e wa ⟨rfl, bwa, zwa⟩))
        | fail
        all_goals
          have HBW := Lib.hid bwa
          clear bwa zwa j1 HDR
          go_wp2
          go_roundw
          case rel => exact ⟨k + 1, by omega, by go_num, by rw [HS2.out], HBW⟩
          case measure => simp [intOf]; omega
      · rw [decide_eq_false hm1] at K1
        by_cases hm2 : x ∈ ids ys
        · rw [decide_eq_true hm2] at K2
          have HS2 : Hid (shN (ids (xs.take (k + 1))) (ids ys) = C + 1) := Lib.hid (by rw [HS.out, if_pos ⟨hm1, hm2⟩])
          clear hm1 hm2
          go_wp2
          first
          | (go_region_held3 (fun w' => w'.cell? ⟨b, off + k * 2, none⟩ = some (.int .u64 x))
            (first | (with_reducible assumption))
            (first
              | (go_at_call 26; (with_reducible refine (K1.out _ (by with_reducible assumption)).mono ?_); rintro e wa ⟨rfl, bwa, zwa⟩)
              | (go_at_call 26; (with_reducible refine (K2.out _ (by with_reducible assumption)).mono ?_); rintro e wb ⟨rfl, bwb, zwb⟩)
              | fail))
          | fail
          all_goals
            have HBW := Lib.hid bwb
            clear bwb zwb bwa zwa j1 HDR
            go_wp2
            go_roundw
            case rel => exact ⟨k + 1, by omega, by go_num, by rw [HS2.out]; go_num, HBW⟩
            case measure => simp [intOf]; omega
        · rw [decide_eq_false hm2] at K2
          have HS2 : Hid (shN (ids (xs.take (k + 1))) (ids ys) = C) := Lib.hid (by rw [HS.out, if_neg (fun q => hm2 q.2)]; rfl)
          clear hm1 hm2
          go_wp2
          first
          | (go_region_held3 (fun w' => w'.cell? ⟨b, off + k * 2, none⟩ = some (.int .u64 x))
            (first | (with_reducible assumption))
            (first
              | (go_at_call 26; (with_reducible refine (K1.out _ (by with_reducible assumption)).mono ?_); rintro e wa ⟨rfl, bwa, zwa⟩)
              | (go_at_call 26; (with_reducible refine (K2.out _ (by with_reducible assumption)).mono ?_); rintro e wb ⟨rfl, bwb, zwb⟩)
              | fail))
          | fail
          all_goals
            have HBW := Lib.hid bwb
            clear bwb zwb bwa zwa j1 HDR
            go_wp2
            go_roundw
            case rel => exact ⟨k + 1, by omega, by go_num, by rw [HS2.out], HBW⟩
            case measure => simp [intOf]; omega
    · obtain rfl : k = xs.length := by omega
      have e1 : decide ((xs.length : Int) < (xs.length : Int)) = false := decide_eq_false (by omega)
      rw [List.take_length]
      go_wp2
      go_ret
      exact ⟨rfl, HB.out⟩
theorem own_rdH0 {w : World} {g n cap base : Nat} {e : TypeId} {xs : HL} {z : Int × Int} (h : w.ownsRow base e 2 (.slice (some ⟨g, 0, none⟩) n cap) n (flatH (xs ++ [z]))) : RdH w w.heap.size (some ⟨g, 0, none⟩) xs := by
  have := (rdH_own h).take xs.length
  rwa [List.take_left'] at this
  rfl
set_option maxRecDepth 100000 in
set_option maxHeartbeats 4000000 in
theorem searchShared_main (A B : Option Addr) (c d : Nat) (xs ys : HL) (w : World) (hx : RdH w w.heap.size A xs) (hy : RdH w w.heap.size B ys) (ok : ∀ x ∈ xs, HitOk x) (ok2 : ∀ x ∈ ys, HitOk x) (hc : xs.length ≤ c) (hd : ys.length ≤ d) (hcm : c ≤ 140737488351232) (hdm : d ≤ 140737488351232) :
    Calls Try.prog 3 #[.slice A xs.length c, .slice B ys.length d] w fun e w' => e = .returned (.bool true) ∧ Below w.heap.size w w' := by
  by_cases h1 : xs.length ≤ 500
  case neg =>
    have d1 : decide ((500 : Int) < (xs.length : Int)) = true := decide_eq_true (by omega)
    have d1' : (500 : Int) < (xs.length : Int) := by omega
    go_enter Try.func3, Try.ntmps3
    go_wp2
    go_ret
    exact ⟨rfl, Below.refl _ _⟩
  have d1 : decide ((500 : Int) < (xs.length : Int)) = false := decide_eq_false (by omega)
  have d1' : ¬ (500 : Int) < (xs.length : Int) := by omega
  by_cases h2 : ys.length ≤ 500
  case neg =>
    have d2 : decide ((500 : Int) < (ys.length : Int)) = true := decide_eq_true (by omega)
    have d2' : (500 : Int) < (ys.length : Int) := by omega
    go_enter Try.func3, Try.ntmps3
    go_wp2
    go_ret
    exact ⟨rfl, Below.refl _ _⟩
  have d2 : decide ((500 : Int) < (ys.length : Int)) = false := decide_eq_false (by omega)
  have d2' : ¬ (500 : Int) < (ys.length : Int) := by omega
  have HX := Lib.hid hx
  have HY := Lib.hid hy
  have HO := Lib.hid ok
  have HO2 := Lib.hid ok2
  have HCM := Lib.hid (shN_comm (ids ys) (ids xs))
  clear hx hy ok ok2
  go_enter Try.func3, Try.ntmps3
  go_wp2_with fail
  refine (twinHits_any A c xs xs.length rfl w HX.out (by omega)).mono ?_
  rintro e w1 ⟨rfl, b1, o1⟩
  dsimp only
  obtain ⟨g1, eg1⟩ : ∃ g1, w.heap.size = g1 := ⟨_, rfl⟩
  have HG1 := Lib.hid eg1
  have HB1 := Lib.hid b1
  rw [eg1] at o1 ⊢
  have HO1 := Lib.hid o1
  clear eg1 b1 o1
  go_wp2_with fail
  refine (twinHits_any B d ys ys.length rfl w1 ((HY.out.below HB1.out).more HB1.out.size) (by omega)).mono ?_
  rintro e w2 ⟨rfl, b2, o2⟩
  dsimp only
  obtain ⟨g2, eg2⟩ : ∃ g2, w1.heap.size = g2 := ⟨_, rfl⟩
  have HB2 : Hid (Below w.heap.size w w2) := Lib.hid (HB1.out.trans (b2.mono HB1.out.size))
  have HS := Lib.hid (own_below HO1.out b2)
  rw [eg2] at o2 ⊢
  have HT := Lib.hid o2
  clear eg2 b2 o2 HO1
  have KS : Hid (∀ W, Below w2.heap.size w2 W → RdH W W.heap.size (some ⟨g1, 0, none⟩) (xs ++ [(77, 0)]) ∧ RdH W W.heap.size (some ⟨g2, 0, none⟩) (ys ++ [(77, 0)]) ∧ RdH W W.heap.size (some ⟨g1, 0, none⟩) xs ∧ RdH W W.heap.size (some ⟨g2, 0, none⟩) ys) := Lib.hid (fun W h => ⟨rdH_own (own_below HS.out h), rdH_own (own_below HT.out h), own_rdH0 (own_below HS.out h), own_rdH0 (own_below HT.out h)⟩)
  have KX : Hid (∀ W, Below w2.heap.size w2 W → RdH W W.heap.size A xs ∧ RdH W W.heap.size B ys) := Lib.hid (fun W h => by
    have hW := HB2.out.trans (h.mono HB2.out.size)
    exact ⟨(HX.out.below hW).more hW.size, (HY.out.below hW).more hW.size⟩)
  go_wp2_with fail
  refine (shared_any (some ⟨g1, 0, none⟩) (some ⟨g2, 0, none⟩) (xs.length + 1) (ys.length + 1) xs ys xs.length ys.length rfl rfl w2 (KS.out w2 (Below.refl _ _)).2.2.1 (KS.out w2 (Below.refl _ _)).2.2.2 HO.out HO2.out (by omega) (by omega)).mono ?_
  rintro e w3 ⟨rfl, b3⟩
  dsimp only
  obtain ⟨S, eS⟩ : ∃ S, shN (ids xs) (ids ys) = S := ⟨_, rfl⟩
  have HSS := Lib.hid eS
  rw [eS]
  have HB3 := Lib.hid b3
  clear b3 eS
  have e1 : ((S : Int) == (S : Int)) = true := by simp
  go_wp2_with fail
  refine (rShared_any A B c d xs ys xs.length ys.length rfl rfl w3 (KX.out w3 HB3.out).1 (KX.out w3 HB3.out).2 hc (by omega) (by omega)).mono ?_
  rintro e w4 ⟨rfl, b4⟩
  rw [HSS.out]
  dsimp only
  have HB4 : Hid (Below w2.heap.size w2 w4) := Lib.hid (HB3.out.trans (b4.mono HB3.out.size))
  clear b4
  go_wp2_with fail
  refine (shared_any (some ⟨g2, 0, none⟩) (some ⟨g1, 0, none⟩) (ys.length + 1) (xs.length + 1) ys xs ys.length xs.length rfl rfl w4 (KS.out w4 HB4.out).2.2.2 (KS.out w4 HB4.out).2.2.1 HO2.out HO.out (by omega) (by omega)).mono ?_
  rintro e w5 ⟨rfl, b5⟩
  rw [HCM.out, HSS.out]
  dsimp only
  have HB5 : Hid (Below w2.heap.size w2 w5) := Lib.hid (HB4.out.trans (b5.mono HB4.out.size))
  clear b5
  go_wp2_with fail
  refine (leftHits_any (some ⟨g1, 0, none⟩) A (xs.length + 1) c xs xs.length rfl w5 (KX.out w5 HB5.out).1 (KS.out w5 HB5.out).1 hc (Nat.lt_succ_self _) (by omega) (by omega)).mono ?_
  rintro e w6 ⟨rfl, b6⟩
  dsimp only
  have HB6 : Hid (Below w2.heap.size w2 w6) := Lib.hid (HB5.out.trans (b6.mono HB5.out.size))
  clear b6
  go_wp2_with fail
  refine (leftHits_any (some ⟨g2, 0, none⟩) B (ys.length + 1) d ys ys.length rfl w6 (KX.out w6 HB6.out).2 (KS.out w6 HB6.out).2.1 hd (Nat.lt_succ_self _) (by omega) (by omega)).mono ?_
  rintro e w7 ⟨rfl, b7⟩
  dsimp only
  have HB7 : Hid (Below w2.heap.size w2 w7) := Lib.hid (HB6.out.trans (b7.mono HB6.out.size))
  clear b7
  go_wp2
  go_ret
  exact ⟨rfl, HB2.out.trans (HB7.out.mono HB2.out.size)⟩
end Go.Proofs.Ytfokejlancmahaa
