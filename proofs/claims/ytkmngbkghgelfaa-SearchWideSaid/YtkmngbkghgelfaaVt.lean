/- The walks of the library's merge by halves (symMerge): two elements or more on both sides, and all of it. -/
import Derived.Test.YtkmngbkghgelfaaVs
namespace Go.Proofs.Ytkmngbkghgelfaa
open Go.Shelf Go.RowKit Go.Lib Go.Sort
set_option linter.unusedVariables false
variable {P : Program} {α : Type} [Inhabited α]
theorem pick_run {lt : α → α → Bool} {a s M : Nat} {d : Array α} (h : s = a ∨ s = M) (h1 : SortedIn lt a s d) (h2 : SortedIn lt s M d) : SortedIn lt a M d := by
  rcases h with h | h
  · rw [h] at h2; exact h2
  · rw [h] at h1; exact h1
theorem rot_none {s m E : Nat} (d : Array α) (h : s = m ∨ E = m) (h1 : s ≤ m) (h2 : m ≤ E) : RotR d d s m E := by
  rcases h with h | h
  · rw [h]; exact RotR.self' d m E h2
  · rw [h]; exact RotR.self d s m h1
theorem SortedIn.congrB {lt : α → α → Bool} {a b : Nat} {d d' : Array α} (hs : SortedIn lt a b d) (h : ∀ i, a ≤ i → i < b → d'[i]! = d[i]!) : SortedIn lt a b d' := fun i j hi hij hj => by
  rw [h i hi (by omega), h j (by omega) hj]; exact hs i j hi hij hj

set_option maxHeartbeats 8000000 in
set_option maxRecDepth 1000000 in
theorem symMerge_c {k : Nat} (L : HitLays P k) (enc : α → List Value) (cf : α → α → Int) (hS : SWO (ltOf cf)) (g : Nat) (cb : Array Value) (eg : ∀ args w, (callFunc g args).run P w = .ok (.enter g args) w) (blk off cap a m b : Nat) (d0 d : Array α) (w0 w : World)
    (hcmp : CmpLays P g cb enc k cf blk off d0.size w0) (R : RowK enc k w0 blk off d0) (hs : d.size = d0.size) (S : SWK enc k w0 blk off d w) (ham : a + 2 ≤ m) (hmb : m + 2 ≤ b) (hA : SortedIn (ltOf cf) a m d) (hB : SortedIn (ltOf cf) m b d)
    (ih : ∀ (a' m' b' : Nat) (dk : Array α) (wr : World), b' - a' < b - a → dk.size = d.size → SWK enc k w0 blk off dk wr → a' < m' → m' < b' → b' ≤ d.size → SortedIn (ltOf cf) a' m' dk → SortedIn (ltOf cf) m' b' dk → Calls P 63 #[.slice (some ⟨blk, off, none⟩) d.size cap, .int .i64 a', .int .i64 m', .int .i64 b', .func (.func g) #[] cb] wr (Merged enc k w0 blk off (ltOf cf) dk a' b')) (hb : b ≤ d.size) (hsz : d.size < 4611686018427387904) :
    Calls P 63 #[.slice (some ⟨blk, off, none⟩) d.size cap, .int .i64 a, .int .i64 m, .int .i64 b, .func (.func g) #[] cb] w (Merged enc k w0 blk off (ltOf cf) d a b) := by
  have mixed := L.mixed; have t0 := L.t0; have a0 := L.a0; have z0 := L.z0; have v0 := L.v0; have t3 := L.t3; have a3 := L.a3; have z3 := L.z3; have v3 := L.v3; have t4 := L.t4; have a4 := L.a4; have z4 := L.z4; have v4 := L.v4; have t29 := L.t29; have a29 := L.a29; have z29 := L.z29; have v29 := L.v29; have t72 := L.t72; have a72 := L.a72; have z72 := L.z72; have v72 := L.v72; have t148 := L.t148; have a148 := L.a148; have z148 := L.z148; have v148 := L.v148; have u29 := run_underlying L.t29; have aE := L.aE; have zE := L.zE
  have HC : Aside _ := hcmp
  have S0 : Aside (SWK enc k w0 blk off d w) := S
  have HD := Lib.hid hs
  clear S hcmp hs
  have IH : Aside _ := ih
  have HA := Lib.hid hA
  have HB := Lib.hid hB
  have c107 := L.c107
  have c108 := L.c108
  have t1 : ((m : Int) - (a : Int) == 1) = false := by simp; omega
  have t2 : ((b : Int) - (m : Int) == 1) = false := by simp; omega
  obtain ⟨M, hM⟩ : ∃ M, (a + b) / 2 = M := ⟨_, rfl⟩
  have hM1 : 2 * M ≤ a + b := by omega
  have hM2 : a + b < 2 * M + 2 := by omega
  have hMz : ((a : Int) + (b : Int)) / 2 = (M : Int) := by omega
  obtain ⟨Z, hZ⟩ : ∃ Z, Z + 1 = M + m := ⟨M + m - 1, by omega⟩
  have hZz : (M : Int) + (m : Int) - 1 = (Z : Int) := by omega
  have hZ1 : Z + 1 ≤ M + m := by omega
  have hZ2 : M + m ≤ Z + 1 := by omega
  clear hA hB ih hM hZ
  by_cases hgt : M < m
  · have hgz : (M : Int) < (m : Int) := by omega
    go_enter L.f107, Try.ntmps63
    go_wp2
    clear hMz hZz t1 t2
    go_loopg [20, 21] (M - (M + m - b)) (fun gx s20 s21 wr => ∃ s r : Nat, s20 = .int .i64 s ∧ s21 = .int .i64 r ∧ M + m - b ≤ s ∧ s ≤ r ∧ r ≤ M ∧ r - s ≤ gx ∧ Aside (SWK enc k w0 blk off d wr) ∧ Hid ((s = M + m - b ∨ ltOf cf d[Z - (s - 1)]! d[s - 1]! = false) ∧ (r = M ∨ ltOf cf d[Z - r]! d[r]! = true)))
    case atStart => exact ⟨M + m - b, M, by rw [show (M : Int) + (m : Int) - (b : Int) = ((M + m - b : Nat) : Int) by omega], rfl, by omega, by omega, by omega, by omega, S0, (⟨.inl rfl, .inl rfl⟩ : (M + m - b = M + m - b ∨ ltOf cf d[Z - (M + m - b - 1)]! d[M + m - b - 1]! = false) ∧ (M = M ∨ ltOf cf d[Z - M]! d[M]! = true))⟩
    case round =>
      clear S0
      obtain ⟨s, r, rfl, rfl, hs1, hsr, hr1, hgx, S1, HI⟩ := hrel
      by_cases hlt : s < r
      · have hltz : (s : Int) < (r : Int) := by omega
        obtain ⟨c, hc⟩ : ∃ c, (s + r) / 2 = c := ⟨_, rfl⟩
        have hc1 : s ≤ c := by omega
        have hc2 : c < r := by omega
        have hcz : ((s : Int) + (r : Int)) / 2 = (c : Int) := by omega
        obtain ⟨Y, hY⟩ : ∃ Y, Z - c = Y := ⟨_, rfl⟩
        have hYz : (Z : Int) - (c : Int) = (Y : Int) := by omega
        have HYY := Lib.hid hY
        have hY1 : m ≤ Y := by omega
        have hY2 : Y < b := by omega
        clear hc hY
        cases hL : ltOf cf d[Y]! d[c]! with
        | false =>
          have HN : Hid ((c + 1 = M + m - b ∨ ltOf cf d[Z - (c + 1 - 1)]! d[c + 1 - 1]! = false) ∧ (r = M ∨ ltOf cf d[Z - r]! d[r]! = true)) := ⟨.inr (by rw [Nat.add_sub_cancel, HYY.out]; exact hL), HI.out.2⟩
          have ex : ((Y : Int)).toNat = Y := by omega
          have px : (0 : Int) ≤ (Y : Int) := by omega
          have bx : (Y : Int) < (d.size : Int) := by omega
          have rx : IntKind.i64.wrap ((Y : Int)) = (Y : Int) := by rw [IntKind.wrap_i64]; omega
          have ev : ((c : Int)).toNat = c := by omega
          have pv : (0 : Int) ≤ (c : Int) := by omega
          have bv : (c : Int) < (d.size : Int) := by omega
          have rv : IntKind.i64.wrap ((c : Int)) = (c : Int) := by rw [IntKind.wrap_i64]; omega
          obtain ⟨x, hx⟩ : ∃ x, x = d[Y]! := ⟨_, rfl⟩
          obtain ⟨y, hy⟩ : ∃ y, y = d[c]! := ⟨_, rfl⟩
          have lx := S1.out.ld R (HD.out) P (Y) (by omega)
          have ly := S1.out.ld R (HD.out) P (c) (by omega)
          rw [← hx] at lx
          rw [← hy] at ly
          have hc := S1.out.cmp HC.out (HD.out) x y
          have hv : ¬ cf x y < 0 := by rw [hx, hy]; exact of_decide_eq_false hL
          have hd : decide (cf x y < 0) = false := decide_eq_false hv
          clear hx hy
          go_wp2_with fail
          go_quiet_grown (first | (go_at_fn g; refine Calls.grown_of (hc _ _)))
          have S2 : Aside (SWK enc k w0 blk off d (grow (wr.drewN nq) osq)) := S1.out.grown nq osq
          clear lx ly hc S1
          generalize grow (wr.drewN nq) osq = w2 at S2 ⊢
          clear nq osq ex px bx rx ev pv bv rv hv hd
          clear hcz hYz
          go_wp2
          go_roundg (r - (c + 1))
          case measure => omega
          case rel => exact ⟨c + 1, r, by go_num, rfl, by omega, by omega, by omega, by omega, S2, HN⟩
        | true =>
          have HN : Hid ((s = M + m - b ∨ ltOf cf d[Z - (s - 1)]! d[s - 1]! = false) ∧ (c = M ∨ ltOf cf d[Z - c]! d[c]! = true)) := ⟨HI.out.1, .inr (by rw [HYY.out]; exact hL)⟩
          have ex : ((Y : Int)).toNat = Y := by omega
          have px : (0 : Int) ≤ (Y : Int) := by omega
          have bx : (Y : Int) < (d.size : Int) := by omega
          have rx : IntKind.i64.wrap ((Y : Int)) = (Y : Int) := by rw [IntKind.wrap_i64]; omega
          have ev : ((c : Int)).toNat = c := by omega
          have pv : (0 : Int) ≤ (c : Int) := by omega
          have bv : (c : Int) < (d.size : Int) := by omega
          have rv : IntKind.i64.wrap ((c : Int)) = (c : Int) := by rw [IntKind.wrap_i64]; omega
          obtain ⟨x, hx⟩ : ∃ x, x = d[Y]! := ⟨_, rfl⟩
          obtain ⟨y, hy⟩ : ∃ y, y = d[c]! := ⟨_, rfl⟩
          have lx := S1.out.ld R (HD.out) P (Y) (by omega)
          have ly := S1.out.ld R (HD.out) P (c) (by omega)
          rw [← hx] at lx
          rw [← hy] at ly
          have hc := S1.out.cmp HC.out (HD.out) x y
          have hv : cf x y < 0 := by rw [hx, hy]; exact of_decide_eq_true hL
          have hd : decide (cf x y < 0) = true := decide_eq_true hv
          clear hx hy
          go_wp2_with fail
          go_quiet_grown (first | (go_at_fn g; refine Calls.grown_of (hc _ _)))
          have S2 : Aside (SWK enc k w0 blk off d (grow (wr.drewN nq) osq)) := S1.out.grown nq osq
          clear lx ly hc S1
          generalize grow (wr.drewN nq) osq = w2 at S2 ⊢
          clear nq osq ex px bx rx ev pv bv rv hv hd
          clear hcz hYz
          go_wp2
          go_roundg (c - s)
          case measure => omega
          case rel => exact ⟨s, c, rfl, rfl, by omega, by omega, by omega, by omega, S2, HN⟩
      · have hltz : ¬ (s : Int) < (r : Int) := by omega
        obtain rfl : s = r := by omega
        obtain ⟨E, hE⟩ : ∃ E, E + s = M + m := ⟨M + m - s, by omega⟩
        have EE := Lib.hid (show (M : Int) + (m : Int) - (s : Int) = (E : Int) by omega)
        have HE : Hid ((s = a ∨ E = b ∨ ltOf cf d[E]! d[s - 1]! = false) ∧ (s = m ∨ E = m ∨ ltOf cf d[E - 1]! d[s]! = true)) := by
          have e2 : Z - s = E - 1 := by omega
          have := HI.out
          rw [e2] at this
          refine ⟨?_, ?_⟩
          · rcases this.1 with h | h
            · omega
            · rcases Nat.eq_zero_or_pos s with h0 | h0
              · exact .inl (by omega)
              · rw [show Z - (s - 1) = E by omega] at h
                exact .inr (.inr h)
          · rcases this.2 with h | h
            · omega
            · exact .inr (.inr h)
        have h1E : E + s ≤ M + m := by omega
        have h2E : M + m ≤ E + s := by omega
        clear HI hE
        have eez : (M : Int) + (m : Int) - (s : Int) = (E : Int) := EE.out
        by_cases c5 : s < m ∧ m < E
        · have k5 : (s : Int) < (m : Int) := by omega
          have k6 : (m : Int) < (E : Int) := by omega
          have H1 := rotate_any L enc (.func (.func g) #[] cb) blk off cap s m E d0 d w0 wr R HD.out S1.out (by omega) (by omega) (by omega) hsz
          have HC1 := Lib.hid H1
          clear H1 S1
          go_wp2_with fail
          refine HC1.out.mono ?_
          rintro e w7 ⟨rfl, d1, hr1, hp1, hs1⟩
          have SU : Aside (SWK enc k w0 blk off d1 w7) := hs1
          have HR : Hid (RotR d d1 s m E ∧ PermIn a b d d1 ∧ d1.size = d.size) := ⟨hr1, permIn_mono _ _ _ _ _ _ (by omega) (by omega) (by omega) hp1, hp1.1⟩
          clear hr1 hp1 hs1 HC1
          have HX : Hid (SortedIn (ltOf cf) a s d1 ∧ SortedIn (ltOf cf) s M d1 ∧ SortedIn (ltOf cf) M E d1 ∧ SortedIn (ltOf cf) E b d1 ∧ ∀ x y, a ≤ x → x < M → M ≤ y → y < b → ltOf cf d1[y]! d1[x]! = false) := by
            have := halves hS (a := a) (m := m) (b := b) (s := s) (e := E) (by omega) (by omega) (by omega) (by omega) HA.out HB.out HE.out.1 HE.out.2 HR.out.1
            rw [show s + (E - m) = M by omega] at this
            exact this
          by_cases c1 : a < s ∧ s < M
          · have k1 : (a : Int) < (s : Int) := by omega
            have k2 : (s : Int) < (M : Int) := by omega
            have H2 := IH.out a s M d1 w7 (by omega) (HR.out.2.2) (SU.out) (by omega) (by omega) (by omega) HX.out.1 (by have := HX.out.2.1; exact this)
            have HC2 := Lib.hid H2
            clear H2 SU
            go_wp2_with fail
            refine HC2.out.mono ?_
            rintro e w8 ⟨rfl, d2, hp2, ho2, hs2⟩
            have SV : Aside (SWK enc k w0 blk off d2 w8) := hs2
            have HP2 : Hid (PermIn a b d d2 ∧ SortedIn (ltOf cf) a M d2 ∧ d2.size = d.size) := ⟨permIn_trans _ _ _ _ _ HR.out.2.1 (permIn_mono _ _ _ _ _ _ (by omega) (by omega) (by have := HR.out.2.2; omega) hp2), ho2, hp2.1.trans HR.out.2.2⟩
            have HX2 : Hid (SortedIn (ltOf cf) M E d2 ∧ SortedIn (ltOf cf) E b d2 ∧ True ∧ ∀ x y, a ≤ x → x < M → M ≤ y → y < b → ltOf cf d2[y]! d2[x]! = false) := ⟨SortedIn.congrB HX.out.2.2.1 (fun i h1 h2 => hp2.2.1 i (.inr h1)), SortedIn.congrB HX.out.2.2.2.1 (fun i h1 h2 => hp2.2.1 i (.inr (by omega))), trivial, cross_perm (by have := HR.out.2.2; omega) (by omega) HX.out.2.2.2.2 hp2⟩
            clear hp2 ho2 hs2 HC2 HR HX
            by_cases c3 : M < E ∧ E < b
            · have k3 : (M : Int) < (E : Int) := by omega
              have k4 : (E : Int) < (b : Int) := by omega
              have H3 := IH.out M E b d2 w8 (by omega) (HP2.out.2.2) (SV.out) (by omega) (by omega) (by omega) HX2.out.1 HX2.out.2.1
              have HC3 := Lib.hid H3
              clear H3 SV
              go_wp2_with fail
              all_goals
                refine HC3.out.mono ?_
                rintro e w9 ⟨rfl, d3, hp3, ho3, hs3⟩
                go_wp2
                go_end0
                exact ⟨rfl, d3, permIn_trans _ _ _ _ _ HP2.out.1 (permIn_mono _ _ _ _ _ _ (by omega) (by omega) (by have := HP2.out.2.2; omega) hp3), glue (SortedIn.congrB HP2.out.2.1 (fun i h1 h2 => hp3.2.1 i (.inl h2))) ho3 (cross_perm' (by have := HP2.out.2.2; omega) HX2.out.2.2.2 hp3), hs3⟩
            · by_cases c4 : M < E
              · have k3 : (M : Int) < (E : Int) := by omega
                have k4 : ¬ (E : Int) < (b : Int) := by omega
                go_wp2
                all_goals
                  go_end0
                  exact ⟨rfl, d2, HP2.out.1, glue HP2.out.2.1 (pick_run (show E = M ∨ E = b by omega) HX2.out.1 HX2.out.2.1) HX2.out.2.2.2, SV.out⟩
              · have k3 : ¬ (M : Int) < (E : Int) := by omega
                go_wp2
                all_goals
                  go_end0
                  exact ⟨rfl, d2, HP2.out.1, glue HP2.out.2.1 (pick_run (show E = M ∨ E = b by omega) HX2.out.1 HX2.out.2.1) HX2.out.2.2.2, SV.out⟩
          · by_cases c2 : a < s
            · have k1 : (a : Int) < (s : Int) := by omega
              have k2 : ¬ (s : Int) < (M : Int) := by omega
              have SV : Aside (SWK enc k w0 blk off d1 w7) := SU
              obtain ⟨d2, hd2⟩ : ∃ d2, d2 = d1 := ⟨_, rfl⟩
              have HP2 : Hid (PermIn a b d d2 ∧ SortedIn (ltOf cf) a M d2 ∧ d2.size = d.size) := by
                rw [hd2]
                exact ⟨HR.out.2.1, pick_run (show s = a ∨ s = M by omega) HX.out.1 HX.out.2.1, HR.out.2.2⟩
              have HX2 : Hid (SortedIn (ltOf cf) M E d2 ∧ SortedIn (ltOf cf) E b d2 ∧ True ∧ ∀ x y, a ≤ x → x < M → M ≤ y → y < b → ltOf cf d2[y]! d2[x]! = false) := by
                rw [hd2]
                exact ⟨HX.out.2.2.1, HX.out.2.2.2.1, trivial, HX.out.2.2.2.2⟩
              rw [← hd2] at SV
              clear hd2 SU HR HX
              by_cases c3 : M < E ∧ E < b
              · have k3 : (M : Int) < (E : Int) := by omega
                have k4 : (E : Int) < (b : Int) := by omega
                have H3 := IH.out M E b d2 w7 (by omega) (HP2.out.2.2) (SV.out) (by omega) (by omega) (by omega) HX2.out.1 HX2.out.2.1
                have HC3 := Lib.hid H3
                clear H3 SV
                go_wp2_with fail
                all_goals
                  refine HC3.out.mono ?_
                  rintro e w9 ⟨rfl, d3, hp3, ho3, hs3⟩
                  go_wp2
                  go_end0
                  exact ⟨rfl, d3, permIn_trans _ _ _ _ _ HP2.out.1 (permIn_mono _ _ _ _ _ _ (by omega) (by omega) (by have := HP2.out.2.2; omega) hp3), glue (SortedIn.congrB HP2.out.2.1 (fun i h1 h2 => hp3.2.1 i (.inl h2))) ho3 (cross_perm' (by have := HP2.out.2.2; omega) HX2.out.2.2.2 hp3), hs3⟩
              · by_cases c4 : M < E
                · have k3 : (M : Int) < (E : Int) := by omega
                  have k4 : ¬ (E : Int) < (b : Int) := by omega
                  go_wp2
                  all_goals
                    go_end0
                    exact ⟨rfl, d2, HP2.out.1, glue HP2.out.2.1 (pick_run (show E = M ∨ E = b by omega) HX2.out.1 HX2.out.2.1) HX2.out.2.2.2, SV.out⟩
                · have k3 : ¬ (M : Int) < (E : Int) := by omega
                  go_wp2
                  all_goals
                    go_end0
                    exact ⟨rfl, d2, HP2.out.1, glue HP2.out.2.1 (pick_run (show E = M ∨ E = b by omega) HX2.out.1 HX2.out.2.1) HX2.out.2.2.2, SV.out⟩
            · have k1 : ¬ (a : Int) < (s : Int) := by omega
              have SV : Aside (SWK enc k w0 blk off d1 w7) := SU
              obtain ⟨d2, hd2⟩ : ∃ d2, d2 = d1 := ⟨_, rfl⟩
              have HP2 : Hid (PermIn a b d d2 ∧ SortedIn (ltOf cf) a M d2 ∧ d2.size = d.size) := by
                rw [hd2]
                exact ⟨HR.out.2.1, pick_run (show s = a ∨ s = M by omega) HX.out.1 HX.out.2.1, HR.out.2.2⟩
              have HX2 : Hid (SortedIn (ltOf cf) M E d2 ∧ SortedIn (ltOf cf) E b d2 ∧ True ∧ ∀ x y, a ≤ x → x < M → M ≤ y → y < b → ltOf cf d2[y]! d2[x]! = false) := by
                rw [hd2]
                exact ⟨HX.out.2.2.1, HX.out.2.2.2.1, trivial, HX.out.2.2.2.2⟩
              rw [← hd2] at SV
              clear hd2 SU HR HX
              by_cases c3 : M < E ∧ E < b
              · have k3 : (M : Int) < (E : Int) := by omega
                have k4 : (E : Int) < (b : Int) := by omega
                have H3 := IH.out M E b d2 w7 (by omega) (HP2.out.2.2) (SV.out) (by omega) (by omega) (by omega) HX2.out.1 HX2.out.2.1
                have HC3 := Lib.hid H3
                clear H3 SV
                go_wp2_with fail
                all_goals
                  refine HC3.out.mono ?_
                  rintro e w9 ⟨rfl, d3, hp3, ho3, hs3⟩
                  go_wp2
                  go_end0
                  exact ⟨rfl, d3, permIn_trans _ _ _ _ _ HP2.out.1 (permIn_mono _ _ _ _ _ _ (by omega) (by omega) (by have := HP2.out.2.2; omega) hp3), glue (SortedIn.congrB HP2.out.2.1 (fun i h1 h2 => hp3.2.1 i (.inl h2))) ho3 (cross_perm' (by have := HP2.out.2.2; omega) HX2.out.2.2.2 hp3), hs3⟩
              · by_cases c4 : M < E
                · have k3 : (M : Int) < (E : Int) := by omega
                  have k4 : ¬ (E : Int) < (b : Int) := by omega
                  go_wp2
                  all_goals
                    go_end0
                    exact ⟨rfl, d2, HP2.out.1, glue HP2.out.2.1 (pick_run (show E = M ∨ E = b by omega) HX2.out.1 HX2.out.2.1) HX2.out.2.2.2, SV.out⟩
                · have k3 : ¬ (M : Int) < (E : Int) := by omega
                  go_wp2
                  all_goals
                    go_end0
                    exact ⟨rfl, d2, HP2.out.1, glue HP2.out.2.1 (pick_run (show E = M ∨ E = b by omega) HX2.out.1 HX2.out.2.1) HX2.out.2.2.2, SV.out⟩
        · by_cases c6 : s < m
          · have k5 : (s : Int) < (m : Int) := by omega
            have k6 : ¬ (m : Int) < (E : Int) := by omega
            obtain ⟨d1, hd1⟩ : ∃ d1, d1 = d := ⟨_, rfl⟩
            have SU : Aside (SWK enc k w0 blk off d1 wr) := by rw [hd1]; exact S1
            have HR : Hid (RotR d d1 s m E ∧ PermIn a b d d1 ∧ d1.size = d.size) := by
              rw [hd1]
              exact ⟨rot_none d (show s = m ∨ E = m by omega) (by omega) (by omega), permIn_refl _ _ _, rfl⟩
            clear hd1 S1
            have HX : Hid (SortedIn (ltOf cf) a s d1 ∧ SortedIn (ltOf cf) s M d1 ∧ SortedIn (ltOf cf) M E d1 ∧ SortedIn (ltOf cf) E b d1 ∧ ∀ x y, a ≤ x → x < M → M ≤ y → y < b → ltOf cf d1[y]! d1[x]! = false) := by
              have := halves hS (a := a) (m := m) (b := b) (s := s) (e := E) (by omega) (by omega) (by omega) (by omega) HA.out HB.out HE.out.1 HE.out.2 HR.out.1
              rw [show s + (E - m) = M by omega] at this
              exact this
            by_cases c1 : a < s ∧ s < M
            · have k1 : (a : Int) < (s : Int) := by omega
              have k2 : (s : Int) < (M : Int) := by omega
              have H2 := IH.out a s M d1 wr (by omega) (HR.out.2.2) (SU.out) (by omega) (by omega) (by omega) HX.out.1 (by have := HX.out.2.1; exact this)
              have HC2 := Lib.hid H2
              clear H2 SU
              go_wp2_with fail
              refine HC2.out.mono ?_
              rintro e w8 ⟨rfl, d2, hp2, ho2, hs2⟩
              have SV : Aside (SWK enc k w0 blk off d2 w8) := hs2
              have HP2 : Hid (PermIn a b d d2 ∧ SortedIn (ltOf cf) a M d2 ∧ d2.size = d.size) := ⟨permIn_trans _ _ _ _ _ HR.out.2.1 (permIn_mono _ _ _ _ _ _ (by omega) (by omega) (by have := HR.out.2.2; omega) hp2), ho2, hp2.1.trans HR.out.2.2⟩
              have HX2 : Hid (SortedIn (ltOf cf) M E d2 ∧ SortedIn (ltOf cf) E b d2 ∧ True ∧ ∀ x y, a ≤ x → x < M → M ≤ y → y < b → ltOf cf d2[y]! d2[x]! = false) := ⟨SortedIn.congrB HX.out.2.2.1 (fun i h1 h2 => hp2.2.1 i (.inr h1)), SortedIn.congrB HX.out.2.2.2.1 (fun i h1 h2 => hp2.2.1 i (.inr (by omega))), trivial, cross_perm (by have := HR.out.2.2; omega) (by omega) HX.out.2.2.2.2 hp2⟩
              clear hp2 ho2 hs2 HC2 HR HX
              by_cases c3 : M < E ∧ E < b
              · have k3 : (M : Int) < (E : Int) := by omega
                have k4 : (E : Int) < (b : Int) := by omega
                have H3 := IH.out M E b d2 w8 (by omega) (HP2.out.2.2) (SV.out) (by omega) (by omega) (by omega) HX2.out.1 HX2.out.2.1
                have HC3 := Lib.hid H3
                clear H3 SV
                go_wp2_with fail
                all_goals
                  refine HC3.out.mono ?_
                  rintro e w9 ⟨rfl, d3, hp3, ho3, hs3⟩
                  go_wp2
                  go_end0
                  exact ⟨rfl, d3, permIn_trans _ _ _ _ _ HP2.out.1 (permIn_mono _ _ _ _ _ _ (by omega) (by omega) (by have := HP2.out.2.2; omega) hp3), glue (SortedIn.congrB HP2.out.2.1 (fun i h1 h2 => hp3.2.1 i (.inl h2))) ho3 (cross_perm' (by have := HP2.out.2.2; omega) HX2.out.2.2.2 hp3), hs3⟩
              · by_cases c4 : M < E
                · have k3 : (M : Int) < (E : Int) := by omega
                  have k4 : ¬ (E : Int) < (b : Int) := by omega
                  go_wp2
                  all_goals
                    go_end0
                    exact ⟨rfl, d2, HP2.out.1, glue HP2.out.2.1 (pick_run (show E = M ∨ E = b by omega) HX2.out.1 HX2.out.2.1) HX2.out.2.2.2, SV.out⟩
                · have k3 : ¬ (M : Int) < (E : Int) := by omega
                  go_wp2
                  all_goals
                    go_end0
                    exact ⟨rfl, d2, HP2.out.1, glue HP2.out.2.1 (pick_run (show E = M ∨ E = b by omega) HX2.out.1 HX2.out.2.1) HX2.out.2.2.2, SV.out⟩
            · by_cases c2 : a < s
              · have k1 : (a : Int) < (s : Int) := by omega
                have k2 : ¬ (s : Int) < (M : Int) := by omega
                have SV : Aside (SWK enc k w0 blk off d1 wr) := SU
                obtain ⟨d2, hd2⟩ : ∃ d2, d2 = d1 := ⟨_, rfl⟩
                have HP2 : Hid (PermIn a b d d2 ∧ SortedIn (ltOf cf) a M d2 ∧ d2.size = d.size) := by
                  rw [hd2]
                  exact ⟨HR.out.2.1, pick_run (show s = a ∨ s = M by omega) HX.out.1 HX.out.2.1, HR.out.2.2⟩
                have HX2 : Hid (SortedIn (ltOf cf) M E d2 ∧ SortedIn (ltOf cf) E b d2 ∧ True ∧ ∀ x y, a ≤ x → x < M → M ≤ y → y < b → ltOf cf d2[y]! d2[x]! = false) := by
                  rw [hd2]
                  exact ⟨HX.out.2.2.1, HX.out.2.2.2.1, trivial, HX.out.2.2.2.2⟩
                rw [← hd2] at SV
                clear hd2 SU HR HX
                by_cases c3 : M < E ∧ E < b
                · have k3 : (M : Int) < (E : Int) := by omega
                  have k4 : (E : Int) < (b : Int) := by omega
                  have H3 := IH.out M E b d2 wr (by omega) (HP2.out.2.2) (SV.out) (by omega) (by omega) (by omega) HX2.out.1 HX2.out.2.1
                  have HC3 := Lib.hid H3
                  clear H3 SV
                  go_wp2_with fail
                  all_goals
                    refine HC3.out.mono ?_
                    rintro e w9 ⟨rfl, d3, hp3, ho3, hs3⟩
                    go_wp2
                    go_end0
                    exact ⟨rfl, d3, permIn_trans _ _ _ _ _ HP2.out.1 (permIn_mono _ _ _ _ _ _ (by omega) (by omega) (by have := HP2.out.2.2; omega) hp3), glue (SortedIn.congrB HP2.out.2.1 (fun i h1 h2 => hp3.2.1 i (.inl h2))) ho3 (cross_perm' (by have := HP2.out.2.2; omega) HX2.out.2.2.2 hp3), hs3⟩
                · by_cases c4 : M < E
                  · have k3 : (M : Int) < (E : Int) := by omega
                    have k4 : ¬ (E : Int) < (b : Int) := by omega
                    go_wp2
                    all_goals
                      go_end0
                      exact ⟨rfl, d2, HP2.out.1, glue HP2.out.2.1 (pick_run (show E = M ∨ E = b by omega) HX2.out.1 HX2.out.2.1) HX2.out.2.2.2, SV.out⟩
                  · have k3 : ¬ (M : Int) < (E : Int) := by omega
                    go_wp2
                    all_goals
                      go_end0
                      exact ⟨rfl, d2, HP2.out.1, glue HP2.out.2.1 (pick_run (show E = M ∨ E = b by omega) HX2.out.1 HX2.out.2.1) HX2.out.2.2.2, SV.out⟩
              · have k1 : ¬ (a : Int) < (s : Int) := by omega
                have SV : Aside (SWK enc k w0 blk off d1 wr) := SU
                obtain ⟨d2, hd2⟩ : ∃ d2, d2 = d1 := ⟨_, rfl⟩
                have HP2 : Hid (PermIn a b d d2 ∧ SortedIn (ltOf cf) a M d2 ∧ d2.size = d.size) := by
                  rw [hd2]
                  exact ⟨HR.out.2.1, pick_run (show s = a ∨ s = M by omega) HX.out.1 HX.out.2.1, HR.out.2.2⟩
                have HX2 : Hid (SortedIn (ltOf cf) M E d2 ∧ SortedIn (ltOf cf) E b d2 ∧ True ∧ ∀ x y, a ≤ x → x < M → M ≤ y → y < b → ltOf cf d2[y]! d2[x]! = false) := by
                  rw [hd2]
                  exact ⟨HX.out.2.2.1, HX.out.2.2.2.1, trivial, HX.out.2.2.2.2⟩
                rw [← hd2] at SV
                clear hd2 SU HR HX
                by_cases c3 : M < E ∧ E < b
                · have k3 : (M : Int) < (E : Int) := by omega
                  have k4 : (E : Int) < (b : Int) := by omega
                  have H3 := IH.out M E b d2 wr (by omega) (HP2.out.2.2) (SV.out) (by omega) (by omega) (by omega) HX2.out.1 HX2.out.2.1
                  have HC3 := Lib.hid H3
                  clear H3 SV
                  go_wp2_with fail
                  all_goals
                    refine HC3.out.mono ?_
                    rintro e w9 ⟨rfl, d3, hp3, ho3, hs3⟩
                    go_wp2
                    go_end0
                    exact ⟨rfl, d3, permIn_trans _ _ _ _ _ HP2.out.1 (permIn_mono _ _ _ _ _ _ (by omega) (by omega) (by have := HP2.out.2.2; omega) hp3), glue (SortedIn.congrB HP2.out.2.1 (fun i h1 h2 => hp3.2.1 i (.inl h2))) ho3 (cross_perm' (by have := HP2.out.2.2; omega) HX2.out.2.2.2 hp3), hs3⟩
                · by_cases c4 : M < E
                  · have k3 : (M : Int) < (E : Int) := by omega
                    have k4 : ¬ (E : Int) < (b : Int) := by omega
                    go_wp2
                    all_goals
                      go_end0
                      exact ⟨rfl, d2, HP2.out.1, glue HP2.out.2.1 (pick_run (show E = M ∨ E = b by omega) HX2.out.1 HX2.out.2.1) HX2.out.2.2.2, SV.out⟩
                  · have k3 : ¬ (M : Int) < (E : Int) := by omega
                    go_wp2
                    all_goals
                      go_end0
                      exact ⟨rfl, d2, HP2.out.1, glue HP2.out.2.1 (pick_run (show E = M ∨ E = b by omega) HX2.out.1 HX2.out.2.1) HX2.out.2.2.2, SV.out⟩
          · have k5 : ¬ (s : Int) < (m : Int) := by omega
            obtain ⟨d1, hd1⟩ : ∃ d1, d1 = d := ⟨_, rfl⟩
            have SU : Aside (SWK enc k w0 blk off d1 wr) := by rw [hd1]; exact S1
            have HR : Hid (RotR d d1 s m E ∧ PermIn a b d d1 ∧ d1.size = d.size) := by
              rw [hd1]
              exact ⟨rot_none d (show s = m ∨ E = m by omega) (by omega) (by omega), permIn_refl _ _ _, rfl⟩
            clear hd1 S1
            have HX : Hid (SortedIn (ltOf cf) a s d1 ∧ SortedIn (ltOf cf) s M d1 ∧ SortedIn (ltOf cf) M E d1 ∧ SortedIn (ltOf cf) E b d1 ∧ ∀ x y, a ≤ x → x < M → M ≤ y → y < b → ltOf cf d1[y]! d1[x]! = false) := by
              have := halves hS (a := a) (m := m) (b := b) (s := s) (e := E) (by omega) (by omega) (by omega) (by omega) HA.out HB.out HE.out.1 HE.out.2 HR.out.1
              rw [show s + (E - m) = M by omega] at this
              exact this
            by_cases c1 : a < s ∧ s < M
            · have k1 : (a : Int) < (s : Int) := by omega
              have k2 : (s : Int) < (M : Int) := by omega
              have H2 := IH.out a s M d1 wr (by omega) (HR.out.2.2) (SU.out) (by omega) (by omega) (by omega) HX.out.1 (by have := HX.out.2.1; exact this)
              have HC2 := Lib.hid H2
              clear H2 SU
              go_wp2_with fail
              refine HC2.out.mono ?_
              rintro e w8 ⟨rfl, d2, hp2, ho2, hs2⟩
              have SV : Aside (SWK enc k w0 blk off d2 w8) := hs2
              have HP2 : Hid (PermIn a b d d2 ∧ SortedIn (ltOf cf) a M d2 ∧ d2.size = d.size) := ⟨permIn_trans _ _ _ _ _ HR.out.2.1 (permIn_mono _ _ _ _ _ _ (by omega) (by omega) (by have := HR.out.2.2; omega) hp2), ho2, hp2.1.trans HR.out.2.2⟩
              have HX2 : Hid (SortedIn (ltOf cf) M E d2 ∧ SortedIn (ltOf cf) E b d2 ∧ True ∧ ∀ x y, a ≤ x → x < M → M ≤ y → y < b → ltOf cf d2[y]! d2[x]! = false) := ⟨SortedIn.congrB HX.out.2.2.1 (fun i h1 h2 => hp2.2.1 i (.inr h1)), SortedIn.congrB HX.out.2.2.2.1 (fun i h1 h2 => hp2.2.1 i (.inr (by omega))), trivial, cross_perm (by have := HR.out.2.2; omega) (by omega) HX.out.2.2.2.2 hp2⟩
              clear hp2 ho2 hs2 HC2 HR HX
              by_cases c3 : M < E ∧ E < b
              · have k3 : (M : Int) < (E : Int) := by omega
                have k4 : (E : Int) < (b : Int) := by omega
                have H3 := IH.out M E b d2 w8 (by omega) (HP2.out.2.2) (SV.out) (by omega) (by omega) (by omega) HX2.out.1 HX2.out.2.1
                have HC3 := Lib.hid H3
                clear H3 SV
                go_wp2_with fail
                all_goals
                  refine HC3.out.mono ?_
                  rintro e w9 ⟨rfl, d3, hp3, ho3, hs3⟩
                  go_wp2
                  go_end0
                  exact ⟨rfl, d3, permIn_trans _ _ _ _ _ HP2.out.1 (permIn_mono _ _ _ _ _ _ (by omega) (by omega) (by have := HP2.out.2.2; omega) hp3), glue (SortedIn.congrB HP2.out.2.1 (fun i h1 h2 => hp3.2.1 i (.inl h2))) ho3 (cross_perm' (by have := HP2.out.2.2; omega) HX2.out.2.2.2 hp3), hs3⟩
              · by_cases c4 : M < E
                · have k3 : (M : Int) < (E : Int) := by omega
                  have k4 : ¬ (E : Int) < (b : Int) := by omega
                  go_wp2
                  all_goals
                    go_end0
                    exact ⟨rfl, d2, HP2.out.1, glue HP2.out.2.1 (pick_run (show E = M ∨ E = b by omega) HX2.out.1 HX2.out.2.1) HX2.out.2.2.2, SV.out⟩
                · have k3 : ¬ (M : Int) < (E : Int) := by omega
                  go_wp2
                  all_goals
                    go_end0
                    exact ⟨rfl, d2, HP2.out.1, glue HP2.out.2.1 (pick_run (show E = M ∨ E = b by omega) HX2.out.1 HX2.out.2.1) HX2.out.2.2.2, SV.out⟩
            · by_cases c2 : a < s
              · have k1 : (a : Int) < (s : Int) := by omega
                have k2 : ¬ (s : Int) < (M : Int) := by omega
                have SV : Aside (SWK enc k w0 blk off d1 wr) := SU
                obtain ⟨d2, hd2⟩ : ∃ d2, d2 = d1 := ⟨_, rfl⟩
                have HP2 : Hid (PermIn a b d d2 ∧ SortedIn (ltOf cf) a M d2 ∧ d2.size = d.size) := by
                  rw [hd2]
                  exact ⟨HR.out.2.1, pick_run (show s = a ∨ s = M by omega) HX.out.1 HX.out.2.1, HR.out.2.2⟩
                have HX2 : Hid (SortedIn (ltOf cf) M E d2 ∧ SortedIn (ltOf cf) E b d2 ∧ True ∧ ∀ x y, a ≤ x → x < M → M ≤ y → y < b → ltOf cf d2[y]! d2[x]! = false) := by
                  rw [hd2]
                  exact ⟨HX.out.2.2.1, HX.out.2.2.2.1, trivial, HX.out.2.2.2.2⟩
                rw [← hd2] at SV
                clear hd2 SU HR HX
                by_cases c3 : M < E ∧ E < b
                · have k3 : (M : Int) < (E : Int) := by omega
                  have k4 : (E : Int) < (b : Int) := by omega
                  have H3 := IH.out M E b d2 wr (by omega) (HP2.out.2.2) (SV.out) (by omega) (by omega) (by omega) HX2.out.1 HX2.out.2.1
                  have HC3 := Lib.hid H3
                  clear H3 SV
                  go_wp2_with fail
                  all_goals
                    refine HC3.out.mono ?_
                    rintro e w9 ⟨rfl, d3, hp3, ho3, hs3⟩
                    go_wp2
                    go_end0
                    exact ⟨rfl, d3, permIn_trans _ _ _ _ _ HP2.out.1 (permIn_mono _ _ _ _ _ _ (by omega) (by omega) (by have := HP2.out.2.2; omega) hp3), glue (SortedIn.congrB HP2.out.2.1 (fun i h1 h2 => hp3.2.1 i (.inl h2))) ho3 (cross_perm' (by have := HP2.out.2.2; omega) HX2.out.2.2.2 hp3), hs3⟩
                · by_cases c4 : M < E
                  · have k3 : (M : Int) < (E : Int) := by omega
                    have k4 : ¬ (E : Int) < (b : Int) := by omega
                    go_wp2
                    all_goals
                      go_end0
                      exact ⟨rfl, d2, HP2.out.1, glue HP2.out.2.1 (pick_run (show E = M ∨ E = b by omega) HX2.out.1 HX2.out.2.1) HX2.out.2.2.2, SV.out⟩
                  · have k3 : ¬ (M : Int) < (E : Int) := by omega
                    go_wp2
                    all_goals
                      go_end0
                      exact ⟨rfl, d2, HP2.out.1, glue HP2.out.2.1 (pick_run (show E = M ∨ E = b by omega) HX2.out.1 HX2.out.2.1) HX2.out.2.2.2, SV.out⟩
              · have k1 : ¬ (a : Int) < (s : Int) := by omega
                have SV : Aside (SWK enc k w0 blk off d1 wr) := SU
                obtain ⟨d2, hd2⟩ : ∃ d2, d2 = d1 := ⟨_, rfl⟩
                have HP2 : Hid (PermIn a b d d2 ∧ SortedIn (ltOf cf) a M d2 ∧ d2.size = d.size) := by
                  rw [hd2]
                  exact ⟨HR.out.2.1, pick_run (show s = a ∨ s = M by omega) HX.out.1 HX.out.2.1, HR.out.2.2⟩
                have HX2 : Hid (SortedIn (ltOf cf) M E d2 ∧ SortedIn (ltOf cf) E b d2 ∧ True ∧ ∀ x y, a ≤ x → x < M → M ≤ y → y < b → ltOf cf d2[y]! d2[x]! = false) := by
                  rw [hd2]
                  exact ⟨HX.out.2.2.1, HX.out.2.2.2.1, trivial, HX.out.2.2.2.2⟩
                rw [← hd2] at SV
                clear hd2 SU HR HX
                by_cases c3 : M < E ∧ E < b
                · have k3 : (M : Int) < (E : Int) := by omega
                  have k4 : (E : Int) < (b : Int) := by omega
                  have H3 := IH.out M E b d2 wr (by omega) (HP2.out.2.2) (SV.out) (by omega) (by omega) (by omega) HX2.out.1 HX2.out.2.1
                  have HC3 := Lib.hid H3
                  clear H3 SV
                  go_wp2_with fail
                  all_goals
                    refine HC3.out.mono ?_
                    rintro e w9 ⟨rfl, d3, hp3, ho3, hs3⟩
                    go_wp2
                    go_end0
                    exact ⟨rfl, d3, permIn_trans _ _ _ _ _ HP2.out.1 (permIn_mono _ _ _ _ _ _ (by omega) (by omega) (by have := HP2.out.2.2; omega) hp3), glue (SortedIn.congrB HP2.out.2.1 (fun i h1 h2 => hp3.2.1 i (.inl h2))) ho3 (cross_perm' (by have := HP2.out.2.2; omega) HX2.out.2.2.2 hp3), hs3⟩
                · by_cases c4 : M < E
                  · have k3 : (M : Int) < (E : Int) := by omega
                    have k4 : ¬ (E : Int) < (b : Int) := by omega
                    go_wp2
                    all_goals
                      go_end0
                      exact ⟨rfl, d2, HP2.out.1, glue HP2.out.2.1 (pick_run (show E = M ∨ E = b by omega) HX2.out.1 HX2.out.2.1) HX2.out.2.2.2, SV.out⟩
                  · have k3 : ¬ (M : Int) < (E : Int) := by omega
                    go_wp2
                    all_goals
                      go_end0
                      exact ⟨rfl, d2, HP2.out.1, glue HP2.out.2.1 (pick_run (show E = M ∨ E = b by omega) HX2.out.1 HX2.out.2.1) HX2.out.2.2.2, SV.out⟩
  · have hgz : ¬ (M : Int) < (m : Int) := by omega
    go_enter L.f107, Try.ntmps63
    go_wp2
    clear hMz hZz t1 t2
    go_loopg [20, 21] (m - (a)) (fun gx s20 s21 wr => ∃ s r : Nat, s20 = .int .i64 s ∧ s21 = .int .i64 r ∧ a ≤ s ∧ s ≤ r ∧ r ≤ m ∧ r - s ≤ gx ∧ Aside (SWK enc k w0 blk off d wr) ∧ Hid ((s = a ∨ ltOf cf d[Z - (s - 1)]! d[s - 1]! = false) ∧ (r = m ∨ ltOf cf d[Z - r]! d[r]! = true)))
    case atStart => exact ⟨a, m, rfl, rfl, by omega, by omega, by omega, by omega, S0, (⟨.inl rfl, .inl rfl⟩ : (a = a ∨ ltOf cf d[Z - (a - 1)]! d[a - 1]! = false) ∧ (m = m ∨ ltOf cf d[Z - m]! d[m]! = true))⟩
    case round =>
      clear S0
      obtain ⟨s, r, rfl, rfl, hs1, hsr, hr1, hgx, S1, HI⟩ := hrel
      by_cases hlt : s < r
      · have hltz : (s : Int) < (r : Int) := by omega
        obtain ⟨c, hc⟩ : ∃ c, (s + r) / 2 = c := ⟨_, rfl⟩
        have hc1 : s ≤ c := by omega
        have hc2 : c < r := by omega
        have hcz : ((s : Int) + (r : Int)) / 2 = (c : Int) := by omega
        obtain ⟨Y, hY⟩ : ∃ Y, Z - c = Y := ⟨_, rfl⟩
        have hYz : (Z : Int) - (c : Int) = (Y : Int) := by omega
        have HYY := Lib.hid hY
        have hY1 : m ≤ Y := by omega
        have hY2 : Y < b := by omega
        clear hc hY
        cases hL : ltOf cf d[Y]! d[c]! with
        | false =>
          have HN : Hid ((c + 1 = a ∨ ltOf cf d[Z - (c + 1 - 1)]! d[c + 1 - 1]! = false) ∧ (r = m ∨ ltOf cf d[Z - r]! d[r]! = true)) := ⟨.inr (by rw [Nat.add_sub_cancel, HYY.out]; exact hL), HI.out.2⟩
          have ex : ((Y : Int)).toNat = Y := by omega
          have px : (0 : Int) ≤ (Y : Int) := by omega
          have bx : (Y : Int) < (d.size : Int) := by omega
          have rx : IntKind.i64.wrap ((Y : Int)) = (Y : Int) := by rw [IntKind.wrap_i64]; omega
          have ev : ((c : Int)).toNat = c := by omega
          have pv : (0 : Int) ≤ (c : Int) := by omega
          have bv : (c : Int) < (d.size : Int) := by omega
          have rv : IntKind.i64.wrap ((c : Int)) = (c : Int) := by rw [IntKind.wrap_i64]; omega
          obtain ⟨x, hx⟩ : ∃ x, x = d[Y]! := ⟨_, rfl⟩
          obtain ⟨y, hy⟩ : ∃ y, y = d[c]! := ⟨_, rfl⟩
          have lx := S1.out.ld R (HD.out) P (Y) (by omega)
          have ly := S1.out.ld R (HD.out) P (c) (by omega)
          rw [← hx] at lx
          rw [← hy] at ly
          have hc := S1.out.cmp HC.out (HD.out) x y
          have hv : ¬ cf x y < 0 := by rw [hx, hy]; exact of_decide_eq_false hL
          have hd : decide (cf x y < 0) = false := decide_eq_false hv
          clear hx hy
          go_wp2_with fail
          go_quiet_grown (first | (go_at_fn g; refine Calls.grown_of (hc _ _)))
          have S2 : Aside (SWK enc k w0 blk off d (grow (wr.drewN nq) osq)) := S1.out.grown nq osq
          clear lx ly hc S1
          generalize grow (wr.drewN nq) osq = w2 at S2 ⊢
          clear nq osq ex px bx rx ev pv bv rv hv hd
          clear hcz hYz
          go_wp2
          go_roundg (r - (c + 1))
          case measure => omega
          case rel => exact ⟨c + 1, r, by go_num, rfl, by omega, by omega, by omega, by omega, S2, HN⟩
        | true =>
          have HN : Hid ((s = a ∨ ltOf cf d[Z - (s - 1)]! d[s - 1]! = false) ∧ (c = m ∨ ltOf cf d[Z - c]! d[c]! = true)) := ⟨HI.out.1, .inr (by rw [HYY.out]; exact hL)⟩
          have ex : ((Y : Int)).toNat = Y := by omega
          have px : (0 : Int) ≤ (Y : Int) := by omega
          have bx : (Y : Int) < (d.size : Int) := by omega
          have rx : IntKind.i64.wrap ((Y : Int)) = (Y : Int) := by rw [IntKind.wrap_i64]; omega
          have ev : ((c : Int)).toNat = c := by omega
          have pv : (0 : Int) ≤ (c : Int) := by omega
          have bv : (c : Int) < (d.size : Int) := by omega
          have rv : IntKind.i64.wrap ((c : Int)) = (c : Int) := by rw [IntKind.wrap_i64]; omega
          obtain ⟨x, hx⟩ : ∃ x, x = d[Y]! := ⟨_, rfl⟩
          obtain ⟨y, hy⟩ : ∃ y, y = d[c]! := ⟨_, rfl⟩
          have lx := S1.out.ld R (HD.out) P (Y) (by omega)
          have ly := S1.out.ld R (HD.out) P (c) (by omega)
          rw [← hx] at lx
          rw [← hy] at ly
          have hc := S1.out.cmp HC.out (HD.out) x y
          have hv : cf x y < 0 := by rw [hx, hy]; exact of_decide_eq_true hL
          have hd : decide (cf x y < 0) = true := decide_eq_true hv
          clear hx hy
          go_wp2_with fail
          go_quiet_grown (first | (go_at_fn g; refine Calls.grown_of (hc _ _)))
          have S2 : Aside (SWK enc k w0 blk off d (grow (wr.drewN nq) osq)) := S1.out.grown nq osq
          clear lx ly hc S1
          generalize grow (wr.drewN nq) osq = w2 at S2 ⊢
          clear nq osq ex px bx rx ev pv bv rv hv hd
          clear hcz hYz
          go_wp2
          go_roundg (c - s)
          case measure => omega
          case rel => exact ⟨s, c, rfl, rfl, by omega, by omega, by omega, by omega, S2, HN⟩
      · have hltz : ¬ (s : Int) < (r : Int) := by omega
        obtain rfl : s = r := by omega
        obtain ⟨E, hE⟩ : ∃ E, E + s = M + m := ⟨M + m - s, by omega⟩
        have EE := Lib.hid (show (M : Int) + (m : Int) - (s : Int) = (E : Int) by omega)
        have HE : Hid ((s = a ∨ E = b ∨ ltOf cf d[E]! d[s - 1]! = false) ∧ (s = m ∨ E = m ∨ ltOf cf d[E - 1]! d[s]! = true)) := by
          have e2 : Z - s = E - 1 := by omega
          have := HI.out
          rw [e2] at this
          refine ⟨?_, ?_⟩
          · rcases this.1 with h | h
            · omega
            · rcases Nat.eq_zero_or_pos s with h0 | h0
              · exact .inl (by omega)
              · rw [show Z - (s - 1) = E by omega] at h
                exact .inr (.inr h)
          · rcases this.2 with h | h
            · omega
            · exact .inr (.inr h)
        have h1E : E + s ≤ M + m := by omega
        have h2E : M + m ≤ E + s := by omega
        clear HI hE
        have eez : (M : Int) + (m : Int) - (s : Int) = (E : Int) := EE.out
        by_cases c5 : s < m ∧ m < E
        · have k5 : (s : Int) < (m : Int) := by omega
          have k6 : (m : Int) < (E : Int) := by omega
          have H1 := rotate_any L enc (.func (.func g) #[] cb) blk off cap s m E d0 d w0 wr R HD.out S1.out (by omega) (by omega) (by omega) hsz
          have HC1 := Lib.hid H1
          clear H1 S1
          go_wp2_with fail
          refine HC1.out.mono ?_
          rintro e w7 ⟨rfl, d1, hr1, hp1, hs1⟩
          have SU : Aside (SWK enc k w0 blk off d1 w7) := hs1
          have HR : Hid (RotR d d1 s m E ∧ PermIn a b d d1 ∧ d1.size = d.size) := ⟨hr1, permIn_mono _ _ _ _ _ _ (by omega) (by omega) (by omega) hp1, hp1.1⟩
          clear hr1 hp1 hs1 HC1
          have HX : Hid (SortedIn (ltOf cf) a s d1 ∧ SortedIn (ltOf cf) s M d1 ∧ SortedIn (ltOf cf) M E d1 ∧ SortedIn (ltOf cf) E b d1 ∧ ∀ x y, a ≤ x → x < M → M ≤ y → y < b → ltOf cf d1[y]! d1[x]! = false) := by
            have := halves hS (a := a) (m := m) (b := b) (s := s) (e := E) (by omega) (by omega) (by omega) (by omega) HA.out HB.out HE.out.1 HE.out.2 HR.out.1
            rw [show s + (E - m) = M by omega] at this
            exact this
          by_cases c1 : a < s ∧ s < M
          · have k1 : (a : Int) < (s : Int) := by omega
            have k2 : (s : Int) < (M : Int) := by omega
            have H2 := IH.out a s M d1 w7 (by omega) (HR.out.2.2) (SU.out) (by omega) (by omega) (by omega) HX.out.1 (by have := HX.out.2.1; exact this)
            have HC2 := Lib.hid H2
            clear H2 SU
            go_wp2_with fail
            refine HC2.out.mono ?_
            rintro e w8 ⟨rfl, d2, hp2, ho2, hs2⟩
            have SV : Aside (SWK enc k w0 blk off d2 w8) := hs2
            have HP2 : Hid (PermIn a b d d2 ∧ SortedIn (ltOf cf) a M d2 ∧ d2.size = d.size) := ⟨permIn_trans _ _ _ _ _ HR.out.2.1 (permIn_mono _ _ _ _ _ _ (by omega) (by omega) (by have := HR.out.2.2; omega) hp2), ho2, hp2.1.trans HR.out.2.2⟩
            have HX2 : Hid (SortedIn (ltOf cf) M E d2 ∧ SortedIn (ltOf cf) E b d2 ∧ True ∧ ∀ x y, a ≤ x → x < M → M ≤ y → y < b → ltOf cf d2[y]! d2[x]! = false) := ⟨SortedIn.congrB HX.out.2.2.1 (fun i h1 h2 => hp2.2.1 i (.inr h1)), SortedIn.congrB HX.out.2.2.2.1 (fun i h1 h2 => hp2.2.1 i (.inr (by omega))), trivial, cross_perm (by have := HR.out.2.2; omega) (by omega) HX.out.2.2.2.2 hp2⟩
            clear hp2 ho2 hs2 HC2 HR HX
            by_cases c3 : M < E ∧ E < b
            · have k3 : (M : Int) < (E : Int) := by omega
              have k4 : (E : Int) < (b : Int) := by omega
              have H3 := IH.out M E b d2 w8 (by omega) (HP2.out.2.2) (SV.out) (by omega) (by omega) (by omega) HX2.out.1 HX2.out.2.1
              have HC3 := Lib.hid H3
              clear H3 SV
              go_wp2_with fail
              all_goals
                refine HC3.out.mono ?_
                rintro e w9 ⟨rfl, d3, hp3, ho3, hs3⟩
                go_wp2
                go_end0
                exact ⟨rfl, d3, permIn_trans _ _ _ _ _ HP2.out.1 (permIn_mono _ _ _ _ _ _ (by omega) (by omega) (by have := HP2.out.2.2; omega) hp3), glue (SortedIn.congrB HP2.out.2.1 (fun i h1 h2 => hp3.2.1 i (.inl h2))) ho3 (cross_perm' (by have := HP2.out.2.2; omega) HX2.out.2.2.2 hp3), hs3⟩
            · by_cases c4 : M < E
              · have k3 : (M : Int) < (E : Int) := by omega
                have k4 : ¬ (E : Int) < (b : Int) := by omega
                go_wp2
                all_goals
                  go_end0
                  exact ⟨rfl, d2, HP2.out.1, glue HP2.out.2.1 (pick_run (show E = M ∨ E = b by omega) HX2.out.1 HX2.out.2.1) HX2.out.2.2.2, SV.out⟩
              · have k3 : ¬ (M : Int) < (E : Int) := by omega
                go_wp2
                all_goals
                  go_end0
                  exact ⟨rfl, d2, HP2.out.1, glue HP2.out.2.1 (pick_run (show E = M ∨ E = b by omega) HX2.out.1 HX2.out.2.1) HX2.out.2.2.2, SV.out⟩
          · by_cases c2 : a < s
            · have k1 : (a : Int) < (s : Int) := by omega
              have k2 : ¬ (s : Int) < (M : Int) := by omega
              have SV : Aside (SWK enc k w0 blk off d1 w7) := SU
              obtain ⟨d2, hd2⟩ : ∃ d2, d2 = d1 := ⟨_, rfl⟩
              have HP2 : Hid (PermIn a b d d2 ∧ SortedIn (ltOf cf) a M d2 ∧ d2.size = d.size) := by
                rw [hd2]
                exact ⟨HR.out.2.1, pick_run (show s = a ∨ s = M by omega) HX.out.1 HX.out.2.1, HR.out.2.2⟩
              have HX2 : Hid (SortedIn (ltOf cf) M E d2 ∧ SortedIn (ltOf cf) E b d2 ∧ True ∧ ∀ x y, a ≤ x → x < M → M ≤ y → y < b → ltOf cf d2[y]! d2[x]! = false) := by
                rw [hd2]
                exact ⟨HX.out.2.2.1, HX.out.2.2.2.1, trivial, HX.out.2.2.2.2⟩
              rw [← hd2] at SV
              clear hd2 SU HR HX
              by_cases c3 : M < E ∧ E < b
              · have k3 : (M : Int) < (E : Int) := by omega
                have k4 : (E : Int) < (b : Int) := by omega
                have H3 := IH.out M E b d2 w7 (by omega) (HP2.out.2.2) (SV.out) (by omega) (by omega) (by omega) HX2.out.1 HX2.out.2.1
                have HC3 := Lib.hid H3
                clear H3 SV
                go_wp2_with fail
                all_goals
                  refine HC3.out.mono ?_
                  rintro e w9 ⟨rfl, d3, hp3, ho3, hs3⟩
                  go_wp2
                  go_end0
                  exact ⟨rfl, d3, permIn_trans _ _ _ _ _ HP2.out.1 (permIn_mono _ _ _ _ _ _ (by omega) (by omega) (by have := HP2.out.2.2; omega) hp3), glue (SortedIn.congrB HP2.out.2.1 (fun i h1 h2 => hp3.2.1 i (.inl h2))) ho3 (cross_perm' (by have := HP2.out.2.2; omega) HX2.out.2.2.2 hp3), hs3⟩
              · by_cases c4 : M < E
                · have k3 : (M : Int) < (E : Int) := by omega
                  have k4 : ¬ (E : Int) < (b : Int) := by omega
                  go_wp2
                  all_goals
                    go_end0
                    exact ⟨rfl, d2, HP2.out.1, glue HP2.out.2.1 (pick_run (show E = M ∨ E = b by omega) HX2.out.1 HX2.out.2.1) HX2.out.2.2.2, SV.out⟩
                · have k3 : ¬ (M : Int) < (E : Int) := by omega
                  go_wp2
                  all_goals
                    go_end0
                    exact ⟨rfl, d2, HP2.out.1, glue HP2.out.2.1 (pick_run (show E = M ∨ E = b by omega) HX2.out.1 HX2.out.2.1) HX2.out.2.2.2, SV.out⟩
            · have k1 : ¬ (a : Int) < (s : Int) := by omega
              have SV : Aside (SWK enc k w0 blk off d1 w7) := SU
              obtain ⟨d2, hd2⟩ : ∃ d2, d2 = d1 := ⟨_, rfl⟩
              have HP2 : Hid (PermIn a b d d2 ∧ SortedIn (ltOf cf) a M d2 ∧ d2.size = d.size) := by
                rw [hd2]
                exact ⟨HR.out.2.1, pick_run (show s = a ∨ s = M by omega) HX.out.1 HX.out.2.1, HR.out.2.2⟩
              have HX2 : Hid (SortedIn (ltOf cf) M E d2 ∧ SortedIn (ltOf cf) E b d2 ∧ True ∧ ∀ x y, a ≤ x → x < M → M ≤ y → y < b → ltOf cf d2[y]! d2[x]! = false) := by
                rw [hd2]
                exact ⟨HX.out.2.2.1, HX.out.2.2.2.1, trivial, HX.out.2.2.2.2⟩
              rw [← hd2] at SV
              clear hd2 SU HR HX
              by_cases c3 : M < E ∧ E < b
              · have k3 : (M : Int) < (E : Int) := by omega
                have k4 : (E : Int) < (b : Int) := by omega
                have H3 := IH.out M E b d2 w7 (by omega) (HP2.out.2.2) (SV.out) (by omega) (by omega) (by omega) HX2.out.1 HX2.out.2.1
                have HC3 := Lib.hid H3
                clear H3 SV
                go_wp2_with fail
                all_goals
                  refine HC3.out.mono ?_
                  rintro e w9 ⟨rfl, d3, hp3, ho3, hs3⟩
                  go_wp2
                  go_end0
                  exact ⟨rfl, d3, permIn_trans _ _ _ _ _ HP2.out.1 (permIn_mono _ _ _ _ _ _ (by omega) (by omega) (by have := HP2.out.2.2; omega) hp3), glue (SortedIn.congrB HP2.out.2.1 (fun i h1 h2 => hp3.2.1 i (.inl h2))) ho3 (cross_perm' (by have := HP2.out.2.2; omega) HX2.out.2.2.2 hp3), hs3⟩
              · by_cases c4 : M < E
                · have k3 : (M : Int) < (E : Int) := by omega
                  have k4 : ¬ (E : Int) < (b : Int) := by omega
                  go_wp2
                  all_goals
                    go_end0
                    exact ⟨rfl, d2, HP2.out.1, glue HP2.out.2.1 (pick_run (show E = M ∨ E = b by omega) HX2.out.1 HX2.out.2.1) HX2.out.2.2.2, SV.out⟩
                · have k3 : ¬ (M : Int) < (E : Int) := by omega
                  go_wp2
                  all_goals
                    go_end0
                    exact ⟨rfl, d2, HP2.out.1, glue HP2.out.2.1 (pick_run (show E = M ∨ E = b by omega) HX2.out.1 HX2.out.2.1) HX2.out.2.2.2, SV.out⟩
        · by_cases c6 : s < m
          · have k5 : (s : Int) < (m : Int) := by omega
            have k6 : ¬ (m : Int) < (E : Int) := by omega
            obtain ⟨d1, hd1⟩ : ∃ d1, d1 = d := ⟨_, rfl⟩
            have SU : Aside (SWK enc k w0 blk off d1 wr) := by rw [hd1]; exact S1
            have HR : Hid (RotR d d1 s m E ∧ PermIn a b d d1 ∧ d1.size = d.size) := by
              rw [hd1]
              exact ⟨rot_none d (show s = m ∨ E = m by omega) (by omega) (by omega), permIn_refl _ _ _, rfl⟩
            clear hd1 S1
            have HX : Hid (SortedIn (ltOf cf) a s d1 ∧ SortedIn (ltOf cf) s M d1 ∧ SortedIn (ltOf cf) M E d1 ∧ SortedIn (ltOf cf) E b d1 ∧ ∀ x y, a ≤ x → x < M → M ≤ y → y < b → ltOf cf d1[y]! d1[x]! = false) := by
              have := halves hS (a := a) (m := m) (b := b) (s := s) (e := E) (by omega) (by omega) (by omega) (by omega) HA.out HB.out HE.out.1 HE.out.2 HR.out.1
              rw [show s + (E - m) = M by omega] at this
              exact this
            by_cases c1 : a < s ∧ s < M
            · have k1 : (a : Int) < (s : Int) := by omega
              have k2 : (s : Int) < (M : Int) := by omega
              have H2 := IH.out a s M d1 wr (by omega) (HR.out.2.2) (SU.out) (by omega) (by omega) (by omega) HX.out.1 (by have := HX.out.2.1; exact this)
              have HC2 := Lib.hid H2
              clear H2 SU
              go_wp2_with fail
              refine HC2.out.mono ?_
              rintro e w8 ⟨rfl, d2, hp2, ho2, hs2⟩
              have SV : Aside (SWK enc k w0 blk off d2 w8) := hs2
              have HP2 : Hid (PermIn a b d d2 ∧ SortedIn (ltOf cf) a M d2 ∧ d2.size = d.size) := ⟨permIn_trans _ _ _ _ _ HR.out.2.1 (permIn_mono _ _ _ _ _ _ (by omega) (by omega) (by have := HR.out.2.2; omega) hp2), ho2, hp2.1.trans HR.out.2.2⟩
              have HX2 : Hid (SortedIn (ltOf cf) M E d2 ∧ SortedIn (ltOf cf) E b d2 ∧ True ∧ ∀ x y, a ≤ x → x < M → M ≤ y → y < b → ltOf cf d2[y]! d2[x]! = false) := ⟨SortedIn.congrB HX.out.2.2.1 (fun i h1 h2 => hp2.2.1 i (.inr h1)), SortedIn.congrB HX.out.2.2.2.1 (fun i h1 h2 => hp2.2.1 i (.inr (by omega))), trivial, cross_perm (by have := HR.out.2.2; omega) (by omega) HX.out.2.2.2.2 hp2⟩
              clear hp2 ho2 hs2 HC2 HR HX
              by_cases c3 : M < E ∧ E < b
              · have k3 : (M : Int) < (E : Int) := by omega
                have k4 : (E : Int) < (b : Int) := by omega
                have H3 := IH.out M E b d2 w8 (by omega) (HP2.out.2.2) (SV.out) (by omega) (by omega) (by omega) HX2.out.1 HX2.out.2.1
                have HC3 := Lib.hid H3
                clear H3 SV
                go_wp2_with fail
                all_goals
                  refine HC3.out.mono ?_
                  rintro e w9 ⟨rfl, d3, hp3, ho3, hs3⟩
                  go_wp2
                  go_end0
                  exact ⟨rfl, d3, permIn_trans _ _ _ _ _ HP2.out.1 (permIn_mono _ _ _ _ _ _ (by omega) (by omega) (by have := HP2.out.2.2; omega) hp3), glue (SortedIn.congrB HP2.out.2.1 (fun i h1 h2 => hp3.2.1 i (.inl h2))) ho3 (cross_perm' (by have := HP2.out.2.2; omega) HX2.out.2.2.2 hp3), hs3⟩
              · by_cases c4 : M < E
                · have k3 : (M : Int) < (E : Int) := by omega
                  have k4 : ¬ (E : Int) < (b : Int) := by omega
                  go_wp2
                  all_goals
                    go_end0
                    exact ⟨rfl, d2, HP2.out.1, glue HP2.out.2.1 (pick_run (show E = M ∨ E = b by omega) HX2.out.1 HX2.out.2.1) HX2.out.2.2.2, SV.out⟩
                · have k3 : ¬ (M : Int) < (E : Int) := by omega
                  go_wp2
                  all_goals
                    go_end0
                    exact ⟨rfl, d2, HP2.out.1, glue HP2.out.2.1 (pick_run (show E = M ∨ E = b by omega) HX2.out.1 HX2.out.2.1) HX2.out.2.2.2, SV.out⟩
            · by_cases c2 : a < s
              · have k1 : (a : Int) < (s : Int) := by omega
                have k2 : ¬ (s : Int) < (M : Int) := by omega
                have SV : Aside (SWK enc k w0 blk off d1 wr) := SU
                obtain ⟨d2, hd2⟩ : ∃ d2, d2 = d1 := ⟨_, rfl⟩
                have HP2 : Hid (PermIn a b d d2 ∧ SortedIn (ltOf cf) a M d2 ∧ d2.size = d.size) := by
                  rw [hd2]
                  exact ⟨HR.out.2.1, pick_run (show s = a ∨ s = M by omega) HX.out.1 HX.out.2.1, HR.out.2.2⟩
                have HX2 : Hid (SortedIn (ltOf cf) M E d2 ∧ SortedIn (ltOf cf) E b d2 ∧ True ∧ ∀ x y, a ≤ x → x < M → M ≤ y → y < b → ltOf cf d2[y]! d2[x]! = false) := by
                  rw [hd2]
                  exact ⟨HX.out.2.2.1, HX.out.2.2.2.1, trivial, HX.out.2.2.2.2⟩
                rw [← hd2] at SV
                clear hd2 SU HR HX
                by_cases c3 : M < E ∧ E < b
                · have k3 : (M : Int) < (E : Int) := by omega
                  have k4 : (E : Int) < (b : Int) := by omega
                  have H3 := IH.out M E b d2 wr (by omega) (HP2.out.2.2) (SV.out) (by omega) (by omega) (by omega) HX2.out.1 HX2.out.2.1
                  have HC3 := Lib.hid H3
                  clear H3 SV
                  go_wp2_with fail
                  all_goals
                    refine HC3.out.mono ?_
                    rintro e w9 ⟨rfl, d3, hp3, ho3, hs3⟩
                    go_wp2
                    go_end0
                    exact ⟨rfl, d3, permIn_trans _ _ _ _ _ HP2.out.1 (permIn_mono _ _ _ _ _ _ (by omega) (by omega) (by have := HP2.out.2.2; omega) hp3), glue (SortedIn.congrB HP2.out.2.1 (fun i h1 h2 => hp3.2.1 i (.inl h2))) ho3 (cross_perm' (by have := HP2.out.2.2; omega) HX2.out.2.2.2 hp3), hs3⟩
                · by_cases c4 : M < E
                  · have k3 : (M : Int) < (E : Int) := by omega
                    have k4 : ¬ (E : Int) < (b : Int) := by omega
                    go_wp2
                    all_goals
                      go_end0
                      exact ⟨rfl, d2, HP2.out.1, glue HP2.out.2.1 (pick_run (show E = M ∨ E = b by omega) HX2.out.1 HX2.out.2.1) HX2.out.2.2.2, SV.out⟩
                  · have k3 : ¬ (M : Int) < (E : Int) := by omega
                    go_wp2
                    all_goals
                      go_end0
                      exact ⟨rfl, d2, HP2.out.1, glue HP2.out.2.1 (pick_run (show E = M ∨ E = b by omega) HX2.out.1 HX2.out.2.1) HX2.out.2.2.2, SV.out⟩
              · have k1 : ¬ (a : Int) < (s : Int) := by omega
                have SV : Aside (SWK enc k w0 blk off d1 wr) := SU
                obtain ⟨d2, hd2⟩ : ∃ d2, d2 = d1 := ⟨_, rfl⟩
                have HP2 : Hid (PermIn a b d d2 ∧ SortedIn (ltOf cf) a M d2 ∧ d2.size = d.size) := by
                  rw [hd2]
                  exact ⟨HR.out.2.1, pick_run (show s = a ∨ s = M by omega) HX.out.1 HX.out.2.1, HR.out.2.2⟩
                have HX2 : Hid (SortedIn (ltOf cf) M E d2 ∧ SortedIn (ltOf cf) E b d2 ∧ True ∧ ∀ x y, a ≤ x → x < M → M ≤ y → y < b → ltOf cf d2[y]! d2[x]! = false) := by
                  rw [hd2]
                  exact ⟨HX.out.2.2.1, HX.out.2.2.2.1, trivial, HX.out.2.2.2.2⟩
                rw [← hd2] at SV
                clear hd2 SU HR HX
                by_cases c3 : M < E ∧ E < b
                · have k3 : (M : Int) < (E : Int) := by omega
                  have k4 : (E : Int) < (b : Int) := by omega
                  have H3 := IH.out M E b d2 wr (by omega) (HP2.out.2.2) (SV.out) (by omega) (by omega) (by omega) HX2.out.1 HX2.out.2.1
                  have HC3 := Lib.hid H3
                  clear H3 SV
                  go_wp2_with fail
                  all_goals
                    refine HC3.out.mono ?_
                    rintro e w9 ⟨rfl, d3, hp3, ho3, hs3⟩
                    go_wp2
                    go_end0
                    exact ⟨rfl, d3, permIn_trans _ _ _ _ _ HP2.out.1 (permIn_mono _ _ _ _ _ _ (by omega) (by omega) (by have := HP2.out.2.2; omega) hp3), glue (SortedIn.congrB HP2.out.2.1 (fun i h1 h2 => hp3.2.1 i (.inl h2))) ho3 (cross_perm' (by have := HP2.out.2.2; omega) HX2.out.2.2.2 hp3), hs3⟩
                · by_cases c4 : M < E
                  · have k3 : (M : Int) < (E : Int) := by omega
                    have k4 : ¬ (E : Int) < (b : Int) := by omega
                    go_wp2
                    all_goals
                      go_end0
                      exact ⟨rfl, d2, HP2.out.1, glue HP2.out.2.1 (pick_run (show E = M ∨ E = b by omega) HX2.out.1 HX2.out.2.1) HX2.out.2.2.2, SV.out⟩
                  · have k3 : ¬ (M : Int) < (E : Int) := by omega
                    go_wp2
                    all_goals
                      go_end0
                      exact ⟨rfl, d2, HP2.out.1, glue HP2.out.2.1 (pick_run (show E = M ∨ E = b by omega) HX2.out.1 HX2.out.2.1) HX2.out.2.2.2, SV.out⟩
          · have k5 : ¬ (s : Int) < (m : Int) := by omega
            obtain ⟨d1, hd1⟩ : ∃ d1, d1 = d := ⟨_, rfl⟩
            have SU : Aside (SWK enc k w0 blk off d1 wr) := by rw [hd1]; exact S1
            have HR : Hid (RotR d d1 s m E ∧ PermIn a b d d1 ∧ d1.size = d.size) := by
              rw [hd1]
              exact ⟨rot_none d (show s = m ∨ E = m by omega) (by omega) (by omega), permIn_refl _ _ _, rfl⟩
            clear hd1 S1
            have HX : Hid (SortedIn (ltOf cf) a s d1 ∧ SortedIn (ltOf cf) s M d1 ∧ SortedIn (ltOf cf) M E d1 ∧ SortedIn (ltOf cf) E b d1 ∧ ∀ x y, a ≤ x → x < M → M ≤ y → y < b → ltOf cf d1[y]! d1[x]! = false) := by
              have := halves hS (a := a) (m := m) (b := b) (s := s) (e := E) (by omega) (by omega) (by omega) (by omega) HA.out HB.out HE.out.1 HE.out.2 HR.out.1
              rw [show s + (E - m) = M by omega] at this
              exact this
            by_cases c1 : a < s ∧ s < M
            · have k1 : (a : Int) < (s : Int) := by omega
              have k2 : (s : Int) < (M : Int) := by omega
              have H2 := IH.out a s M d1 wr (by omega) (HR.out.2.2) (SU.out) (by omega) (by omega) (by omega) HX.out.1 (by have := HX.out.2.1; exact this)
              have HC2 := Lib.hid H2
              clear H2 SU
              go_wp2_with fail
              refine HC2.out.mono ?_
              rintro e w8 ⟨rfl, d2, hp2, ho2, hs2⟩
              have SV : Aside (SWK enc k w0 blk off d2 w8) := hs2
              have HP2 : Hid (PermIn a b d d2 ∧ SortedIn (ltOf cf) a M d2 ∧ d2.size = d.size) := ⟨permIn_trans _ _ _ _ _ HR.out.2.1 (permIn_mono _ _ _ _ _ _ (by omega) (by omega) (by have := HR.out.2.2; omega) hp2), ho2, hp2.1.trans HR.out.2.2⟩
              have HX2 : Hid (SortedIn (ltOf cf) M E d2 ∧ SortedIn (ltOf cf) E b d2 ∧ True ∧ ∀ x y, a ≤ x → x < M → M ≤ y → y < b → ltOf cf d2[y]! d2[x]! = false) := ⟨SortedIn.congrB HX.out.2.2.1 (fun i h1 h2 => hp2.2.1 i (.inr h1)), SortedIn.congrB HX.out.2.2.2.1 (fun i h1 h2 => hp2.2.1 i (.inr (by omega))), trivial, cross_perm (by have := HR.out.2.2; omega) (by omega) HX.out.2.2.2.2 hp2⟩
              clear hp2 ho2 hs2 HC2 HR HX
              by_cases c3 : M < E ∧ E < b
              · have k3 : (M : Int) < (E : Int) := by omega
                have k4 : (E : Int) < (b : Int) := by omega
                have H3 := IH.out M E b d2 w8 (by omega) (HP2.out.2.2) (SV.out) (by omega) (by omega) (by omega) HX2.out.1 HX2.out.2.1
                have HC3 := Lib.hid H3
                clear H3 SV
                go_wp2_with fail
                all_goals
                  refine HC3.out.mono ?_
                  rintro e w9 ⟨rfl, d3, hp3, ho3, hs3⟩
                  go_wp2
                  go_end0
                  exact ⟨rfl, d3, permIn_trans _ _ _ _ _ HP2.out.1 (permIn_mono _ _ _ _ _ _ (by omega) (by omega) (by have := HP2.out.2.2; omega) hp3), glue (SortedIn.congrB HP2.out.2.1 (fun i h1 h2 => hp3.2.1 i (.inl h2))) ho3 (cross_perm' (by have := HP2.out.2.2; omega) HX2.out.2.2.2 hp3), hs3⟩
              · by_cases c4 : M < E
                · have k3 : (M : Int) < (E : Int) := by omega
                  have k4 : ¬ (E : Int) < (b : Int) := by omega
                  go_wp2
                  all_goals
                    go_end0
                    exact ⟨rfl, d2, HP2.out.1, glue HP2.out.2.1 (pick_run (show E = M ∨ E = b by omega) HX2.out.1 HX2.out.2.1) HX2.out.2.2.2, SV.out⟩
                · have k3 : ¬ (M : Int) < (E : Int) := by omega
                  go_wp2
                  all_goals
                    go_end0
                    exact ⟨rfl, d2, HP2.out.1, glue HP2.out.2.1 (pick_run (show E = M ∨ E = b by omega) HX2.out.1 HX2.out.2.1) HX2.out.2.2.2, SV.out⟩
            · by_cases c2 : a < s
              · have k1 : (a : Int) < (s : Int) := by omega
                have k2 : ¬ (s : Int) < (M : Int) := by omega
                have SV : Aside (SWK enc k w0 blk off d1 wr) := SU
                obtain ⟨d2, hd2⟩ : ∃ d2, d2 = d1 := ⟨_, rfl⟩
                have HP2 : Hid (PermIn a b d d2 ∧ SortedIn (ltOf cf) a M d2 ∧ d2.size = d.size) := by
                  rw [hd2]
                  exact ⟨HR.out.2.1, pick_run (show s = a ∨ s = M by omega) HX.out.1 HX.out.2.1, HR.out.2.2⟩
                have HX2 : Hid (SortedIn (ltOf cf) M E d2 ∧ SortedIn (ltOf cf) E b d2 ∧ True ∧ ∀ x y, a ≤ x → x < M → M ≤ y → y < b → ltOf cf d2[y]! d2[x]! = false) := by
                  rw [hd2]
                  exact ⟨HX.out.2.2.1, HX.out.2.2.2.1, trivial, HX.out.2.2.2.2⟩
                rw [← hd2] at SV
                clear hd2 SU HR HX
                by_cases c3 : M < E ∧ E < b
                · have k3 : (M : Int) < (E : Int) := by omega
                  have k4 : (E : Int) < (b : Int) := by omega
                  have H3 := IH.out M E b d2 wr (by omega) (HP2.out.2.2) (SV.out) (by omega) (by omega) (by omega) HX2.out.1 HX2.out.2.1
                  have HC3 := Lib.hid H3
                  clear H3 SV
                  go_wp2_with fail
                  all_goals
                    refine HC3.out.mono ?_
                    rintro e w9 ⟨rfl, d3, hp3, ho3, hs3⟩
                    go_wp2
                    go_end0
                    exact ⟨rfl, d3, permIn_trans _ _ _ _ _ HP2.out.1 (permIn_mono _ _ _ _ _ _ (by omega) (by omega) (by have := HP2.out.2.2; omega) hp3), glue (SortedIn.congrB HP2.out.2.1 (fun i h1 h2 => hp3.2.1 i (.inl h2))) ho3 (cross_perm' (by have := HP2.out.2.2; omega) HX2.out.2.2.2 hp3), hs3⟩
                · by_cases c4 : M < E
                  · have k3 : (M : Int) < (E : Int) := by omega
                    have k4 : ¬ (E : Int) < (b : Int) := by omega
                    go_wp2
                    all_goals
                      go_end0
                      exact ⟨rfl, d2, HP2.out.1, glue HP2.out.2.1 (pick_run (show E = M ∨ E = b by omega) HX2.out.1 HX2.out.2.1) HX2.out.2.2.2, SV.out⟩
                  · have k3 : ¬ (M : Int) < (E : Int) := by omega
                    go_wp2
                    all_goals
                      go_end0
                      exact ⟨rfl, d2, HP2.out.1, glue HP2.out.2.1 (pick_run (show E = M ∨ E = b by omega) HX2.out.1 HX2.out.2.1) HX2.out.2.2.2, SV.out⟩
              · have k1 : ¬ (a : Int) < (s : Int) := by omega
                have SV : Aside (SWK enc k w0 blk off d1 wr) := SU
                obtain ⟨d2, hd2⟩ : ∃ d2, d2 = d1 := ⟨_, rfl⟩
                have HP2 : Hid (PermIn a b d d2 ∧ SortedIn (ltOf cf) a M d2 ∧ d2.size = d.size) := by
                  rw [hd2]
                  exact ⟨HR.out.2.1, pick_run (show s = a ∨ s = M by omega) HX.out.1 HX.out.2.1, HR.out.2.2⟩
                have HX2 : Hid (SortedIn (ltOf cf) M E d2 ∧ SortedIn (ltOf cf) E b d2 ∧ True ∧ ∀ x y, a ≤ x → x < M → M ≤ y → y < b → ltOf cf d2[y]! d2[x]! = false) := by
                  rw [hd2]
                  exact ⟨HX.out.2.2.1, HX.out.2.2.2.1, trivial, HX.out.2.2.2.2⟩
                rw [← hd2] at SV
                clear hd2 SU HR HX
                by_cases c3 : M < E ∧ E < b
                · have k3 : (M : Int) < (E : Int) := by omega
                  have k4 : (E : Int) < (b : Int) := by omega
                  have H3 := IH.out M E b d2 wr (by omega) (HP2.out.2.2) (SV.out) (by omega) (by omega) (by omega) HX2.out.1 HX2.out.2.1
                  have HC3 := Lib.hid H3
                  clear H3 SV
                  go_wp2_with fail
                  all_goals
                    refine HC3.out.mono ?_
                    rintro e w9 ⟨rfl, d3, hp3, ho3, hs3⟩
                    go_wp2
                    go_end0
                    exact ⟨rfl, d3, permIn_trans _ _ _ _ _ HP2.out.1 (permIn_mono _ _ _ _ _ _ (by omega) (by omega) (by have := HP2.out.2.2; omega) hp3), glue (SortedIn.congrB HP2.out.2.1 (fun i h1 h2 => hp3.2.1 i (.inl h2))) ho3 (cross_perm' (by have := HP2.out.2.2; omega) HX2.out.2.2.2 hp3), hs3⟩
                · by_cases c4 : M < E
                  · have k3 : (M : Int) < (E : Int) := by omega
                    have k4 : ¬ (E : Int) < (b : Int) := by omega
                    go_wp2
                    all_goals
                      go_end0
                      exact ⟨rfl, d2, HP2.out.1, glue HP2.out.2.1 (pick_run (show E = M ∨ E = b by omega) HX2.out.1 HX2.out.2.1) HX2.out.2.2.2, SV.out⟩
                  · have k3 : ¬ (M : Int) < (E : Int) := by omega
                    go_wp2
                    all_goals
                      go_end0
                      exact ⟨rfl, d2, HP2.out.1, glue HP2.out.2.1 (pick_run (show E = M ∨ E = b by omega) HX2.out.1 HX2.out.2.1) HX2.out.2.2.2, SV.out⟩

/-- symMerge: two sorted runs side by side become one. -/
theorem symMerge_any {k : Nat} (L : HitLays P k) (enc : α → List Value) (cf : α → α → Int) (hS : SWO (ltOf cf)) (g : Nat) (cb : Array Value) (eg : ∀ args w, (callFunc g args).run P w = .ok (.enter g args) w) (blk off cap : Nat) (d0 : Array α) (w0 : World)
    (hcmp : CmpLays P g cb enc k cf blk off d0.size w0) (R : RowK enc k w0 blk off d0) (hsz : d0.size < 4611686018427387904) : ∀ (N a m b : Nat) (d : Array α) (w : World), b - a ≤ N → d.size = d0.size → SWK enc k w0 blk off d w → a < m → m < b → b ≤ d.size →
    SortedIn (ltOf cf) a m d → SortedIn (ltOf cf) m b d →
    Calls P 63 #[.slice (some ⟨blk, off, none⟩) d.size cap, .int .i64 a, .int .i64 m, .int .i64 b, .func (.func g) #[] cb] w (Merged enc k w0 blk off (ltOf cf) d a b) := by
  intro N
  induction N with
  | zero => intro a m b d w h1 h2 h3 h4 h5; omega
  | succ N ih =>
    intro a m b d w hN hs S ham hmb hb hA hB
    by_cases h1 : m = a + 1
    · exact symMerge_a L enc cf hS g cb eg blk off cap a m b d0 d w0 w hcmp R hs S h1 hmb hB hb (by omega)
    · by_cases h2 : b = m + 1
      · exact symMerge_b L enc cf hS g cb eg blk off cap a m b d0 d w0 w hcmp R hs S (by omega) ham h2 hA hb (by omega)
      · refine symMerge_c L enc cf hS g cb eg blk off cap a m b d0 d w0 w hcmp R hs S (by omega) (by omega) hA hB ?_ hb (by omega)
        intro a' m' b' dk wr hlt hdk hS' h3 h4 h5 h6 h7
        have := ih a' m' b' dk wr (by omega) (hdk.trans hs) hS' h3 h4 (by omega) h6 h7
        rw [hdk] at this
        exact this
end Go.Proofs.Ytkmngbkghgelfaa
