/- The walk of DrawsFewer. -/
import Derived.Test.YtmlfcnjfaonaiaaDl
namespace Go.Proofs.Ytmlfcnjfaonaiaa
open Go.RowKit Go.Shelf
set_option linter.unusedVariables false
theorem pk_rise {s n k p q : Nat} (hk : k ≤ n) (h : p < q) (hq : q < k) : (pkL s n k)[p]?.getD 0 < (pkL s n k)[q]?.getD 0 := by
  have hl := pkL_len (s := s) hk
  have h1 := List.pairwise_iff_getElem.1 (pickL_pairwise n ((shufL s n).take k)) p q (by show p < (pkL s n k).length; omega) (by show q < (pkL s n k).length; omega) h
  rw [List.getElem?_eq_getElem (by omega : p < (pkL s n k).length), List.getElem?_eq_getElem (by omega : q < (pkL s n k).length)]
  exact h1
theorem pk_in {s n k f i : Nat} (hk : k ≤ n) (hf : f ≤ k) (hi : i < f) : ∃ p, p < k ∧ (pkL s n k)[p]?.getD 0 = (pkL s n f)[i]?.getD 0 := by
  have hl := pkL_len (s := s) hk
  have hlf := pkL_len (s := s) (show f ≤ n by omega)
  have hi2 : i < (pkL s n f).length := by omega
  have hm := List.getElem_mem hi2
  rw [pkL_mem] at hm
  have hm2 : (pkL s n f)[i] ∈ pkL s n k := by
    rw [pkL_mem]
    exact (List.take_sublist_take_left hf).subset hm
  obtain ⟨p, hp, he⟩ := List.getElem_of_mem hm2
  exact ⟨p, by omega, by rw [List.getElem?_eq_getElem hp, List.getElem?_eq_getElem hi2, Option.getD_some, Option.getD_some, he]⟩
set_option maxRecDepth 100000 in
set_option maxHeartbeats 4000000 in
theorem drawsFewer_yes (s n k0 k1 : Nat) (hs : s < 18446744073709551616) (hn : n < 65536) (hk0 : k0 < 65536) (hk1 : k1 < 65536) (w : World) :
    Calls Try.prog 7 #[.int .u64 s, .int .u16 n, .agg #[.int .u16 k0, .int .u16 k1]] w fun e w' => e = .returned (.bool true) ∧ Below w.heap.size w w' := by
  obtain ⟨m, hm⟩ : ∃ m, n % 2049 = m := ⟨_, rfl⟩
  obtain ⟨mo, hmo⟩ : ∃ m', k0 % (m + 1) = m' := ⟨_, rfl⟩
  obtain ⟨fe, hfe⟩ : ∃ m', k1 % (mo + 1) = m' := ⟨_, rfl⟩
  have hm1 : m ≤ 2048 := by omega
  have hmo1 : mo ≤ m := by have := Nat.mod_lt k0 (show 0 < m + 1 by omega); omega
  have hfe1 : fe ≤ mo := by have := Nat.mod_lt k1 (show 0 < mo + 1 by omega); omega
  have im : (n : Int) % 2049 = (m : Int) := by omega
  have imo : (k0 : Int) % ((m : Int) + 1) = (mo : Int) := by rw [← hmo, Int.natCast_emod, Int.natCast_add]; rfl
  have ife : (k1 : Int) % ((mo : Int) + 1) = (fe : Int) := by rw [← hfe, Int.natCast_emod, Int.natCast_add]; rfl
  clear hm hmo hfe
  have P1 := Lib.hid (fun w => pick_row s m mo (by omega) hmo1 w)
  have P2 := Lib.hid (fun w => pick_row s m fe (by omega) (by omega) w)
  have P3 := Lib.hid (fun w => pick_row s m m (by omega) (by omega) w)
  have HAL := Lib.hid (fun w => alive_any w)
  have hB0 := Lib.hid (below_one (Below.refl w.heap.size w) (.cells #[.int .u16 k0, .int .u16 k1] 39))
  go_enter Try.func7, Try.ntmps7
  go_wp2_with (first
    | (go_at_call 16; (with_reducible refine (P1.out _).mono ?_); rintro e W1 ⟨g1, c1, rfl, hr1, hb1⟩; have HR1 := Lib.hid hr1; clear hr1)
    | (go_at_call 16; (with_reducible refine (P2.out _).mono ?_); rintro e W2 ⟨g2, c2, rfl, hr2, hb2⟩; have HR2 := Lib.hid hr2; clear hr2)
    | (go_at_call 16; (with_reducible refine (P3.out _).mono ?_); rintro e W3 ⟨g3, c3, rfl, hr3, hb3⟩; have HR3 := Lib.hid hr3; clear hr3)
    | (go_at_call 14; refine (HAL.out _).mono ?_; rintro e W4 ⟨rfl, hb4⟩))
  have bB := Lib.hid ((((hB0.out.trans (hb1.mono hB0.out.size)).trans (hb2.mono (Nat.le_trans hB0.out.size hb1.size))).trans (hb3.mono (Nat.le_trans (Nat.le_trans hB0.out.size hb1.size) hb2.size))).trans (hb4.mono (Nat.le_trans (Nat.le_trans (Nat.le_trans hB0.out.size hb1.size) hb2.size) hb3.size)))
  have CA := Lib.hid (fun i (hi : i < mo) => rd_cell ((((HR1.out.below hb2).more hb2.size).below (hb3.mono (Nat.le_refl _))).more hb3.size |>.below hb4) (i := i) (by rw [ints_len, pkL_len hmo1]; exact hi))
  have CB := Lib.hid (fun i (hi : i < fe) => rd_cell (((HR2.out.below hb3).more hb3.size).below hb4) (i := i) (by rw [ints_len, pkL_len (by omega)]; exact hi))
  have CC := Lib.hid (fun i (hi : i < m) => rd_cell (HR3.out.below hb4) (i := i) (by rw [ints_len, pkL_len (Nat.le_refl _)]; exact hi))
  have FR := Lib.hid (fun p q (h : p < q) (hq : q < mo) => pk_rise (s := s) hmo1 h hq)
  have FB := Lib.hid (fun p q (h : p < q) (hq : q < fe) => pk_rise (s := s) (show fe ≤ m by omega) h hq)
  have FI := Lib.hid (fun i (hi : i < fe) => pk_in (s := s) hmo1 hfe1 hi)
  rw [pkL_all] at CC
  clear HR1 HR2 HR3 hb1 hb2 hb3 hb4 P1 P2 P3 HAL hB0
  obtain ⟨A, eA⟩ : ∃ A, pkL s m mo = A := ⟨_, rfl⟩
  obtain ⟨B, eB⟩ : ∃ A, pkL s m fe = A := ⟨_, rfl⟩
  simp only [eA] at CA FR FI
  simp only [eB] at CB FB FI
  clear eA eB
  have s1 := Lib.hid hfe1
  have s2 := Lib.hid hmo1
  clear im imo ife hk0 hk1
  go_loopw [19, 20] (fun x i wr => ∃ at_ j nq : Nat, j ≤ fe ∧ at_ ≤ mo ∧ x = .int .i64 at_ ∧ i = .int .i64 j ∧ Hid (j < fe → ∀ p, p < at_ → A[p]?.getD 0 < B[j]?.getD 0) ∧ wr = W4.drewN nq) (fun _ i _ => fe - (intOf i).toNat)
  case atStart => exact ⟨0, 0, 0, by omega, by omega, rfl, rfl, fun _ p hp => by omega, rfl⟩
  case round =>
    obtain ⟨at_, j, nq, hj, hat, rfl, rfl, hlow, rfl⟩ := hrel
    by_cases hlt : j < fe
    · have cb := CB.out j hlt
      rw [ints_at] at cb
      have hlow := Lib.hid (hlow.out hlt)
      obtain ⟨pp, hp1, hp2⟩ := FI.out j hlt
      obtain ⟨y, hy⟩ : ∃ y, B[j]?.getD 0 = y := ⟨_, rfl⟩
      rw [hy] at cb hp2
      have HY := Lib.hid hy
      have HP := Lib.hid hp2
      clear hy hp2
      go_wp2
      go_loopw [19] (fun x wr => ∃ at_ nq : Nat, at_ ≤ pp ∧ x = .int .i64 at_ ∧ Hid (∀ p, p < at_ → A[p]?.getD 0 < y) ∧ wr = W4.drewN nq) (fun x _ => pp + 1 - (intOf x).toNat)
      case atStart =>
        refine ⟨at_, nq, ?_, rfl, ?_, rfl⟩
        · rcases Nat.lt_or_ge pp at_ with h | h
          · have := hlow.out pp h
            rw [HP.out, HY.out] at this
            omega
          · exact h
        · intro p hp
          have := hlow.out p hp
          rwa [HY.out] at this
      case round =>
        clear hlow hat
        obtain ⟨at2, nq2, ha2, rfl, hl2, rfl⟩ := hrel
        have hm2 : at2 < mo := by omega
        have ca := CA.out at2 hm2
        rw [ints_at] at ca
        have g1' : decide ((at2 : Int) < (mo : Int)) = true := decide_eq_true (by omega)
        obtain ⟨x, hx⟩ : ∃ x, A[at2]?.getD 0 = x := ⟨_, rfl⟩
        rw [hx] at ca
        have HX := Lib.hid hx
        clear hx
        by_cases hxy : x = y
        · subst hxy
          have e1 : ((x : Int) != (x : Int)) = false := by simp
          have e2 : ((at2 : Int) == (mo : Int)) = false := by rw [beq_eq_false_iff_ne]; omega
          have hn2 : Hid (j + 1 < fe → ∀ p, p < at2 → A[p]?.getD 0 < B[j + 1]?.getD 0) := fun h p hp => by
            have h1 := FB.out j (j + 1) (by omega) h
            have h2 := hl2.out p hp
            rw [HY.out] at h1
            omega
          clear hl2
          go_wp2
          go_quiet (fail)
          go_wp2
          go_roundw
          case rel => exact ⟨at2, j + 1, _, by omega, by omega, rfl, by go_num, hn2, rfl⟩
          case measure => simp [intOf]; omega
        · have e1 : ((x : Int) != (y : Int)) = true := by simp; omega
          have hne : at2 ≠ pp := fun e => by
            have h1 := HX.out
            have h2 := HP.out
            rw [e] at h1
            exact hxy (h1.symm.trans h2)
          have hxy2 : x < y := by
            have h1 := FR.out at2 pp (by omega) hp1
            have h2 := HX.out
            have h3 := HP.out
            omega
          have hn2 : Hid (∀ p, p < at2 + 1 → A[p]?.getD 0 < y) := fun p hp => by
            by_cases h : p < at2
            · exact hl2.out p h
            · obtain rfl : p = at2 := by omega
              rw [HX.out]; exact hxy2
          clear hl2 hxy hxy2
          go_wp2
          go_quiet (fail)
          go_wp2
          go_roundw
          case rel => exact ⟨at2 + 1, _, by omega, by go_num, hn2, rfl⟩
          case measure => simp [intOf]; omega
    · obtain rfl : j = fe := by omega
      clear hlow
      go_wp2
      go_loopw [21] (fun i wr => ∃ j : Nat, j ≤ m ∧ i = .int .i64 j ∧ wr = W4.drewN nq) (fun i _ => m - (intOf i).toNat)
      case atStart => exact ⟨0, by omega, rfl, rfl⟩
      case round =>
        obtain ⟨l, hl, rfl, rfl⟩ := hrel
        by_cases hlm : l < m
        · have cc := CC.out l hlm
          rw [ints_at, List.getElem?_range hlm, Option.getD_some] at cc
          have e1 : ((l : Int) != (l : Int)) = false := by simp
          go_wp2
          go_roundw
          case rel => exact ⟨l + 1, by omega, by go_num, trivial⟩
          case measure => simp [intOf]; omega
        · obtain rfl : l = m := by omega
          go_wp2
          go_ret
          exact ⟨rfl, below_drewN bB.out nq⟩
end Go.Proofs.Ytmlfcnjfaonaiaa
