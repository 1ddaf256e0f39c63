/- The walk of PqNearest. -/
import Derived.Test.YthbimjkcpmffcaaX2
namespace Go.Proofs.Ythbimjkcpmffcaa
open Go.RowKit
set_option linter.unusedVariables false
set_option maxRecDepth 100000 in
set_option maxHeartbeats 4000000 in
theorem pqNearest_main (hC : PqCheckSpec) (hE : PqEncodeSpec) (hD : PqDecodeSpec) (hT : PqTableSpec) (hL : PqLookSpec) (P : Int) (A : Option Addr) (c : Nat) (L : List Pc) (B : Option Addr) (d : Nat) (v : List Int) (D : Option Addr) (q : Nat) (code : List Int) (w : World) (hx : PGiven w A L) (hv : GivenV w B d v) (hk : GivenC w D q code) :
    Calls Try.prog 6 #[.agg #[.int .i64 P, .slice A L.length c], .slice B v.length d, .slice D code.length q] w fun e w' => e = .returned (.bool true) ∧ Below w.heap.size w w' := by
  have AL := Lib.hid (fun w => alive8_any hC hE hD hT hL w)
  have HE := Lib.hid hE
  have HT := Lib.hid hT
  have HL := Lib.hid hL
  have hb0 : Below w.heap.size w (w.alloc (.cells #[.int .i64 P, .slice A L.length c] 24)) := below_one (Below.refl _ _) _
  have HX0 := Lib.hid (hx.below hb0)
  have HV0 := Lib.hid (hv.below hb0)
  have HK0 := Lib.hid (hk.below hb0)
  have C0 := Lib.hid hb0
  have BX0 := Lib.hid (show Whole (w.alloc (.cells #[.int .i64 P, .slice A L.length c] 24)) w.heap.size 24 #[.int .i64 P, .slice A L.length c] from Whole.new w 24 _)
  clear hC hE hD hT hL hx hv hk hb0
  go_enter Try.func6, Try.ntmps6
  go_wp2_with fail
  obtain ⟨w0, ew0⟩ : ∃ w0, w.alloc (.cells #[.int .i64 P, .slice A L.length c] 24) = w0 := ⟨_, rfl⟩
  rw [ew0] at HX0 HV0 HK0 C0 BX0 ⊢
  obtain ⟨g, eg⟩ : ∃ g, w.heap.size = g := ⟨_, rfl⟩
  rw [eg] at BX0 ⊢
  clear ew0 eg
  refine (AL.out _).mono ?_
  rintro e w1 ⟨rfl, b⟩
  have HX1 := Lib.hid (HX0.out.below b)
  have HV1 := Lib.hid (HV0.out.below b)
  have HK1 := Lib.hid (HK0.out.below b)
  have BX1 := Lib.hid (BX0.out.below b BX0.out.lt)
  have C1 := Lib.hid (C0.out.trans (b.mono C0.out.size))
  clear HX0 HV0 HK0 BX0 C0 b
  have k0 : w1.cell? ⟨g, 0, none⟩ = some (.int .i64 P) := BX1.out.cell 0
  have k1 : w1.cell? ⟨g, 1, none⟩ = some (.slice A L.length c) := BX1.out.cell 1
  dsimp only
  go_wp2_with fail
  refine (psize_any P A c L w1 HX1.out).mono ?_
  rintro e w2 ⟨⟨z, rfl, hz⟩, b⟩
  clear k0 k1
  have HX2 := Lib.hid (HX1.out.below b)
  have HV2 := Lib.hid (HV1.out.below b)
  have HK2 := Lib.hid (HK1.out.below b)
  have BX2 := Lib.hid (BX1.out.below b BX1.out.lt)
  have C2 := Lib.hid (C1.out.trans (b.mono C1.out.size))
  clear HX1 HV1 HK1 BX1 C1 b
  have k0 : w2.cell? ⟨g, 0, none⟩ = some (.int .i64 P) := BX2.out.cell 0
  have k1 : w2.cell? ⟨g, 1, none⟩ = some (.slice A L.length c) := BX2.out.cell 1
  dsimp only
  by_cases hzl : 20000 < z
  · have e1 : decide ((20000 : Int) < z) = true := decide_eq_true hzl
    go_wp2_with fail
    refine (AL.out _).mono ?_
    rintro e w9 ⟨rfl, b9⟩
    go_wp2
    go_ret
    exact ⟨rfl, C2.out.trans (b9.mono C2.out.size)⟩
  have e1 : decide ((20000 : Int) < z) = false := decide_eq_false hzl
  have HSM := Lib.hid (show PSmall L by rcases hz.2 with h | h <;> unfold PSmall <;> omega)
  clear hz hzl
  go_wp2_with fail
  refine (beyond_two v.length code.length HV2.out.len (by have := HK2.out.len; omega) w2).mono ?_
  rintro e w3 ⟨rfl, rfl⟩
  have b : Below w2.heap.size w2 (w2.alloc (.cells #[.int .i64 (v.length : Int), .int .i64 (code.length : Int)] 3)) := below_one (Below.refl _ _) _
  obtain ⟨w3, ew3⟩ : ∃ w3, w2.alloc (.cells #[.int .i64 (v.length : Int), .int .i64 (code.length : Int)] 3) = w3 := ⟨_, rfl⟩
  rw [ew3] at b ⊢
  clear ew3 k0 k1 e1
  have HX3 := Lib.hid (HX2.out.below b)
  have HV3 := Lib.hid (HV2.out.below b)
  have HK3 := Lib.hid (HK2.out.below b)
  have BX3 := Lib.hid (BX2.out.below b BX2.out.lt)
  have C3 := Lib.hid (C2.out.trans (b.mono C2.out.size))
  clear HX2 HV2 HK2 BX2 C2 b
  have k0 : w3.cell? ⟨g, 0, none⟩ = some (.int .i64 P) := BX3.out.cell 0
  have k1 : w3.cell? ⟨g, 1, none⟩ = some (.slice A L.length c) := BX3.out.cell 1
  dsimp only
  cases hbe : bey [(v.length : Int), (code.length : Int)] with
  | true =>
    go_wp2_with fail
    refine (AL.out _).mono ?_
    rintro e w9 ⟨rfl, b9⟩
    go_wp2
    go_ret
    exact ⟨rfl, C3.out.trans (b9.mono C3.out.size)⟩
  | false =>
    have HBE := Lib.hid (bey_two hbe)
    have HP3 := Lib.hid (HX3.out.arg HSM.out)
    clear hbe AL
    clear HX3
    go_wp2_with fail
    refine (HE.out P A c L B d v w3 HP3.out (HV3.out.arg HBE.out.1) HV3.out.room.1).mono ?_
    rintro e w4 ⟨A4, c4, rfl, o4, b⟩
    clear k0 k1
    have HP4 := Lib.hid (HP3.out.below b)
    have HV4 := Lib.hid (HV3.out.below b)
    have HK4 := Lib.hid (HK3.out.below b)
    have BX4 := Lib.hid (BX3.out.below b BX3.out.lt)
    have C4 := Lib.hid (C3.out.trans (b.mono C3.out.size))
    clear HP3 HV3 HK3 BX3 C3 b
    have k0 : w4.cell? ⟨g, 0, none⟩ = some (.int .i64 P) := BX4.out.cell 0
    have k1 : w4.cell? ⟨g, 1, none⟩ = some (.slice A L.length c) := BX4.out.cell 1
    dsimp only
    go_wp2_with fail
    refine (HT.out P A c L B d v w4 HP4.out (HV4.out.arg HBE.out.1) HV4.out.room.1).mono ?_
    rintro e w5 ⟨A5, c5, T, rfl, o, ap, ev, b⟩
    clear k0 k1
    have o5 := own_below o4 b
    clear o4
    have HP5 := Lib.hid (HP4.out.below b)
    have HV5 := Lib.hid (HV4.out.below b)
    have HK5 := Lib.hid (HK4.out.below b)
    have BX5 := Lib.hid (BX4.out.below b BX4.out.lt)
    have C5 := Lib.hid (C4.out.trans (b.mono C4.out.size))
    clear HP4 HV4 HK4 BX4 C4 b
    have k0 : w5.cell? ⟨g, 0, none⟩ = some (.int .i64 P) := BX5.out.cell 0
    have k1 : w5.cell? ⟨g, 1, none⟩ = some (.slice A L.length c) := BX5.out.cell 1
    dsimp only
    cases hok : bookB P (words L) v.length with
    | false =>
      have hea : encA P (words L) v = [] := by unfold encA; rw [hok]; rfl
      rw [hea, show errE false = 1 from rfl]
      clear o5 o ap ev hea
      go_wp2
      go_ret
      exact ⟨rfl, C5.out⟩
    | true =>
      obtain ⟨hPL, hbk⟩ := bookB_yes hok
      have hea : encA P (words L) v = encL (words L) v := by unfold encA; rw [hok]; rfl
      have ht : vecs T = tabL (words L) v := by rw [ev]; unfold tabA; rw [hok]; rfl
      rw [hea] at o5
      rw [hea, show errE true = 0 from rfl]
      have HEL := Lib.hid (show (encL (words L) v).length = (words L).length from encL_len _ _)
      have HTL := Lib.hid (show T.length = (words L).length by have := congrArg List.length ht; rwa [vecs_len, tabL_len] at this)
      have HTV := Lib.hid ht
      have HRT5 := Lib.hid o.rd
      have oc := own_cap o5
      have hn64 : (words L).length ≤ 64 := Nat.le_trans hbk.2.2.2.1 hbk.2.1
      have HW5 := Lib.hid (show CArg w5 A4 (encL (words L) v) from ⟨oc.2.2, by rw [encL_len]; omega, enc_u8 hbk⟩)
      have HVS := Lib.hid (fun u hu => by
        rw [ht] at hu
        unfold tabL at hu
        obtain ⟨p, hp, rfl⟩ := List.mem_map.1 hu
        rw [List.length_map]
        exact (hbk.2.2.2.2 p (List.mem_range.1 hp)).2.1 : ∀ u ∈ vecs T, u.length ≤ 64)
      have hlo : lookOk (vecs T) (encL (words L) v) := by rw [ht]; exact lookOk_tab.2 (enc_ok hbk)
      have HLB := Lib.hid (show lookB (vecs T) (encL (words L) v) = true from decide_eq_true hlo)
      have HOWN := Lib.hid (fun p k (hp : p < (words L).length) (hk : k < (pAt (words L) p).length) => own_first hbk hp hk)
      have HEO := Lib.hid (enc_ok hbk)
      have HLE := Lib.hid (show lookB (vecs T) code = true → lookA (vecs T) (encL (words L) v) ≤ lookA (vecs T) code by
        intro h
        have h1 : lookOk (vecs T) code := of_decide_eq_true h
        have h2 : codeOk (words L) code := by rw [ht] at h1; exact lookOk_tab.1 h1
        unfold lookA
        rw [if_pos h1, if_pos hlo, ht, tabL_len]
        exact look_own hbk HP5.out.b8 HV5.out.b8 h2)
      have HRL := Lib.hid (fun p (hp : p < (words L).length) => (show (tAt (tabL (words L) v) p).length = (pAt (words L) p).length by rw [tAt_tab hp, List.length_map]))
      have e7 : ((((encL (words L) v).length : Nat) : Int) != P) = false := by rw [encL_len]; simp [hPL]
      clear hok hPL hbk hea ht oc o5 o ap ev hlo
      obtain ⟨E, eE⟩ : ∃ E, encL (words L) v = E := ⟨_, rfl⟩
      rw [eE] at HEL HW5 HLB HOWN HEO HLE e7 ⊢
      clear eE
      clear HV5
      go_wp2_with fail
      refine (HL.out A5 c5 T A4 c4 E w5 ⟨HRT5.out, by have := HTL.out; omega, fun u hu => by have := HVS.out u hu; omega⟩ HW5.out).mono ?_
      rintro e w6 ⟨rfl, b⟩
      clear k0 k1
      have HP6 := Lib.hid (HP5.out.below b)
      have HK6 := Lib.hid (HK5.out.below b)
      have BX6 := Lib.hid (BX5.out.below b BX5.out.lt)
      have HRT6 := Lib.hid ((HRT5.out.below b).more b.size)
      have HW6 := Lib.hid (HW5.out.below b)
      have C6 := Lib.hid (C5.out.trans (b.mono C5.out.size))
      clear HP5 HK5 BX5 HRT5 HW5 C5 b
      have k0 : w6.cell? ⟨g, 0, none⟩ = some (.int .i64 P) := BX6.out.cell 0
      have k1 : w6.cell? ⟨g, 1, none⟩ = some (.slice A L.length c) := BX6.out.cell 1
      rw [HLB.out, show errE true = 0 from rfl]
      dsimp only
      go_wp2_with fail
      refine (HL.out A5 c5 T D q code w6 ⟨HRT6.out, by have := HTL.out; omega, fun u hu => by have := HVS.out u hu; omega⟩ (HK6.out.arg HBE.out.2)).mono ?_
      rintro e w7 ⟨rfl, b⟩
      clear k0 k1
      have HP7 := Lib.hid (HP6.out.below b)
      have HK7 := Lib.hid (HK6.out.below b)
      have BX7 := Lib.hid (BX6.out.below b BX6.out.lt)
      have HRT7 := Lib.hid ((HRT6.out.below b).more b.size)
      have HW7 := Lib.hid (HW6.out.below b)
      have C7 := Lib.hid (C6.out.trans (b.mono C6.out.size))
      clear HP6 HK6 BX6 HRT6 HW6 C6 b
      have k0 : w7.cell? ⟨g, 0, none⟩ = some (.int .i64 P) := BX7.out.cell 0
      have k1 : w7.cell? ⟨g, 1, none⟩ = some (.slice A L.length c) := BX7.out.cell 1
      dsimp only
      obtain ⟨n1, en1⟩ : ∃ n1, lookA (vecs T) E = n1 := ⟨_, rfl⟩
      obtain ⟨m1, em1⟩ : ∃ m1, lookA (vecs T) code = m1 := ⟨_, rfl⟩
      rw [en1, em1] at HLE
      rw [en1, em1]
      clear en1 em1
      obtain ⟨kB, ekB⟩ : ∃ kB, lookB (vecs T) code = kB := ⟨_, rfl⟩
      rw [ekB] at HLE ⊢
      clear ekB
      obtain ⟨N, eN⟩ : ∃ N, E.length = N := ⟨_, rfl⟩
      rw [eN] at e7 ⊢
      have HN := Lib.hid (show N = (words L).length by rw [← eN]; exact HEL.out)
      have HEN := Lib.hid eN
      have hN64 : N ≤ 64 := by have := HN.out; omega
      have tail : ∀ a1 a2 a3 a4 a5 a6 a7 a8 a9 : Nat, True := fun _ _ _ _ _ _ _ _ _ => trivial
      clear eN tail
      have hcase : (kB = false ∧ errE kB = 1) ∨ (kB = true ∧ errE kB = 0 ∧ decide (m1 < n1) = false) := by
        cases hkb : kB with
        | false => exact .inl ⟨rfl, rfl⟩
        | true => exact .inr ⟨rfl, rfl, decide_eq_false (by have := HLE.out hkb; omega)⟩
      obtain ⟨er, eer⟩ : ∃ er, errE kB = er := ⟨_, rfl⟩
      rw [eer] at hcase ⊢
      clear eer HLE
      rcases hcase with ⟨_, rfl⟩ | ⟨_, rfl, hmn⟩
      all_goals
        go_wp2
        go_loopw [15] (fun i wr => ∃ p nq : Nat, p ≤ N ∧ i = .int .i64 p ∧ wr = w7.drewN nq) (fun i _ => N - (intOf i).toNat)
        case atStart => exact ⟨0, 0, by omega, rfl, rfl⟩
        case round =>
          obtain ⟨p, nq, hp, rfl, rfl⟩ := hrel
          by_cases hlt : p < N
          · have eL : decide ((p : Int) < (N : Int)) = true := decide_eq_true (by omega)
            obtain ⟨bT, oT, aT, cT, row, rfl, hbT, hcT, hrT, hvT⟩ := HRT7.out.at_ (i := p) (by rw [HTL.out, ← HN.out]; exact hlt)
            obtain ⟨bE, oE, x, rfl, hbE, hcE, hx255, hvx⟩ := HW7.out.at_ (i := p) (by rw [HEN.out]; exact hlt)
            have hrow : tAt (vecs T) p = row := vecs_tAt hvT.out
            have HROW := Lib.hid (show tAt (tabL (words L) v) p = row by rw [← HTV.out]; exact hrow)
            have hr64 : row.length ≤ 64 := HVS.out row (List.mem_of_getElem? (vecs_at hvT.out))
            have hxl : x < row.length := by
              have h1 := HEO.out.2 p (by rw [← HN.out]; exact hlt)
              rw [hvx.out] at h1
              have h2 := HRL.out p (by rw [← HN.out]; exact hlt)
              rw [HROW.out] at h2
              omega
            obtain ⟨bR, oR, z, rfl, hbR, hcz, hvz⟩ := hrT.at_ (i := x) hxl
            have HZ := Lib.hid hvz.out
            have HXV := Lib.hid hvx.out
            have HRT := Lib.hid hrT
            have p1 : (0 : Int) ≤ (p : Int) := by omega
            have p2 : (p : Int) < (N : Int) := by omega
            have x1 : (0 : Int) ≤ (x : Int) := by omega
            have x2 : (x : Int) < (row.length : Int) := by omega
            have hTN : T.length = N := HTL.out.trans HN.out.symm
            have HTN := Lib.hid hTN
            have p3 : (p : Int) < (T.length : Int) := by omega
            clear hvT hvx hvz hrow hrT hTN
            go_wp2
            go_loopw [16] (fun i wr => ∃ k nq : Nat, k ≤ row.length ∧ i = .int .i64 k ∧ wr = w7.drewN nq) (fun i _ => row.length - (intOf i).toNat)
            case atStart => exact ⟨0, nq, by omega, rfl, rfl⟩
            case round =>
              obtain ⟨k, nq2, hk, rfl, rfl⟩ := hrel
              by_cases hlk : k < row.length
              · have eK : decide ((k : Int) < (row.length : Int)) = true := decide_eq_true (by omega)
                obtain ⟨bR2, oR2, y, hAR, hbR2, hcy, hvy⟩ := HRT.out.at_ (i := k) hlk
                injection hAR with hAR
                injection hAR with q1 q2
                subst q1; subst q2
                have k1' : (0 : Int) ≤ (k : Int) := by omega
                have k2' : (k : Int) < (row.length : Int) := by omega
                have hof := HOWN.out p k (by rw [← HN.out]; exact hlt) (by
                  have h2 := HRL.out p (by rw [← HN.out]; exact hlt)
                  rw [HROW.out] at h2
                  omega)
                rw [HROW.out, HXV.out, HZ.out, hvy.out] at hof
                have f1 : decide (y < z) = false := decide_eq_false (by omega)
                by_cases hyz : y = z
                · subst hyz
                  have f2 : (y == y) = true := by simp
                  have f3 : ¬ k < x := by intro h; have := hof.2 (by omega); omega
                  have f5 : decide (k < x) = false := decide_eq_false f3
                  have f6 : decide ((k : Int) < (x : Int)) = false := decide_eq_false (by omega)
                  clear hof hvy
                  have mixed : Try.prog.follows .mixedOrders = true := by kernel_rfl
                  have f4 : IntKind.i64.wrap (x : Int) = (x : Int) := by rw [IntKind.wrap_i64]; omega
                  go_wp2
                  go_quiet (fail)
                  go_wp2
                  exact ⟨⟨k + 1, _, by omega, by go_num, rfl⟩, by simp [intOf]; omega⟩
                · have f2 : (y == z) = false := by simpa using hyz
                  clear hof hvy hyz
                  have mixed : Try.prog.follows .mixedOrders = true := by kernel_rfl
                  have f4 : IntKind.i64.wrap (x : Int) = (x : Int) := by rw [IntKind.wrap_i64]; omega
                  go_wp2
                  go_quiet (fail)
                  go_wp2
                  go_roundw
                  case rel => exact ⟨k + 1, _, by omega, by go_num, rfl⟩
                  case measure => simp [intOf]; omega
              · obtain rfl : k = row.length := by omega
                have eK : decide ((row.length : Int) < (row.length : Int)) = false := decide_eq_false (by omega)
                go_wp2
                go_roundw
                case rel => exact ⟨p + 1, _, by omega, by go_num, rfl⟩
                case measure => simp [intOf]; omega
          · obtain rfl : p = N := by omega
            have eL : decide ((p : Int) < (p : Int)) = false := decide_eq_false (by omega)
            go_wp2
            go_ret
            exact ⟨rfl, C7.out.trans ((below_drewN (Below.refl _ _) nq).mono C7.out.size)⟩
      
end Go.Proofs.Ythbimjkcpmffcaa
