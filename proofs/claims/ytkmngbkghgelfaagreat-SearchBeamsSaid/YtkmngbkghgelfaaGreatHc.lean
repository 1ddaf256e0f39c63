/- The library's up and down (container/heap) at the list of a heap: calls through an interface to a pointer's methods. -/
import Derived.Test.YtkmngbkghgelfaaGreatHb
namespace Go.Proofs.YtkmngbkghgelfaaGreat
open Go.Shelf Go.RowKit Go.Lib Go.Sort
set_option linter.unusedVariables false
theorem info_of_map {P : Program} {t : TypeId} {α : Type} {F : TypeInfo → α} {x : α} (h : (P.info? t).map F = some x) : ∃ i, P.info? t = some i ∧ F i = x := by
  cases hi : P.info? t with
  | none => simp [hi] at h
  | some i => exact ⟨i, rfl, by simpa [hi] using h⟩
theorem method_plain {P : Program} {t : TypeId} {name : String} {f : FuncId} {pr : Bool} (h : (P.info? t).map (fun i => (i.methods.find? (·.name == name)).map (fun m => (m.path, m.func))) = some (some (#[], some (f, pr)))) (n : Nat) (hn : 0 < n) (v : Value) (W : World) (r : Value)
    (hr : ∀ k, (receiverAt t (.val v) pr k).run P W = .ok r W) : (method n t v name).run P W = .ok (f, r) W := by
  obtain ⟨fuel, rfl⟩ : ∃ fuel, n = fuel + 1 := ⟨n - 1, by omega⟩
  obtain ⟨i, hi, hm⟩ := info_of_map h
  obtain ⟨m, hm1, hm2⟩ : ∃ m, i.methods.find? (·.name == name) = some m ∧ (m.path, m.func) = (#[], some (f, pr)) := by
    cases hq : i.methods.find? (·.name == name) with
    | none => simp [hq] at hm
    | some m => exact ⟨m, rfl, by simpa [hq] using hm⟩
  simp only [Prod.mk.injEq] at hm2
  unfold method
  simp [typeInfo, hi, hm1, hm2.1, hm2.2, follow, Result.andThen, hr]
theorem wrapNil (ts : Array TypeId) (ty : TypeId) (a : Addr) (s m : ByteArray) : Builtin.ssaWrapNilChk_ ts ty #[.pointer (some a), .string s, .string m] = pure (.pointer (some a)) := rfl
theorem recv_val {P : Program} {t e : TypeId} {W : World} {b : Nat} {v : Value} (k : Option String) (ht : P.underlying t = some (.pointer e)) (ha : ∀ w, (isAgg e).run P w = .ok false w) (hc : W.cell? ⟨b, 0, none⟩ = some v) :
    (receiverAt t (.val (.pointer (some ⟨b, 0, none⟩))) false k).run P W = .ok v W := by
  unfold receiverAt
  have hl : (loadVar e ⟨b, 0, none⟩).run P W = .ok v W := by
    unfold loadVar
    simp [ha, hc, Result.andThen]
  cases k with
  | none => simp [run_underlying ht, Place.get, asAddr, hl, Result.andThen]
  | some k =>
    simp [run_underlying ht, Place.get, wrapNil, strVal, asAddr, hl, Result.andThen]
theorem recv_ptr {P : Program} {t e : TypeId} {W : World} {v : Value} (k : Option String) (ht : P.underlying t = some (.pointer e)) :
    (receiverAt t (.val v) true k).run P W = .ok v W := by
  unfold receiverAt
  simp [run_underlying ht, Place.get, Result.andThen]
theorem mLen (W : World) (b : Nat) (v : Value) (hc : W.cell? ⟨b, 0, none⟩ = some v) : Sem.run Tryz.prog (method 334 194 (.pointer (some ⟨b, 0, none⟩)) "Len") W = .ok (172, v) W :=
  method_plain (by kernel_rfl) 334 (by decide) _ W v (fun k => recv_val k Tryz.underlying194 Tryz.isAgg100 hc)
theorem mLess (W : World) (b : Nat) (v : Value) (hc : W.cell? ⟨b, 0, none⟩ = some v) : Sem.run Tryz.prog (method 334 194 (.pointer (some ⟨b, 0, none⟩)) "Less") W = .ok (173, v) W :=
  method_plain (by kernel_rfl) 334 (by decide) _ W v (fun k => recv_val k Tryz.underlying194 Tryz.isAgg100 hc)
theorem mSwap (W : World) (b : Nat) (v : Value) (hc : W.cell? ⟨b, 0, none⟩ = some v) : Sem.run Tryz.prog (method 334 194 (.pointer (some ⟨b, 0, none⟩)) "Swap") W = .ok (174, v) W :=
  method_plain (by kernel_rfl) 334 (by decide) _ W v (fun k => recv_val k Tryz.underlying194 Tryz.isAgg100 hc)
theorem mPop (W : World) (v : Value) : Sem.run Tryz.prog (method 334 194 v "Pop") W = .ok (175, v) W :=
  method_plain (by kernel_rfl) 334 (by decide) _ W v (fun k => recv_ptr k Tryz.underlying194)
theorem mPush (W : World) (v : Value) : Sem.run Tryz.prog (method 334 194 v "Push") W = .ok (176, v) W :=
  method_plain (by kernel_rfl) 334 (by decide) _ W v (fun k => recv_ptr k Tryz.underlying194)
theorem swk_block {w W : World} {g : Nat} {d : HA} (S : SWK encH 2 w g 0 d W) {k : Nat} (hk : k ≠ g) (hl : k < w.heap.size) : W.heap[k]? = w.heap[k]? := by
  obtain ⟨n, os, rfl⟩ := S
  unfold sortWorldK
  rw [heap_grow_old _ _ (by rw [size_putRowK]; exact hl)]
  unfold putRowK putRow mapBlock
  show (w.heap.modify g _)[k]? = _
  rw [Array.getElem?_modify, if_neg (fun e => hk e.symm)]
theorem swk_cell {w W : World} {g : Nat} {d : HA} (S : SWK encH 2 w g 0 d W) {k i : Nat} (hk : k ≠ g) (hl : k < w.heap.size) : W.cell? ⟨k, i, none⟩ = w.cell? ⟨k, i, none⟩ := World.cell?_of_block (swk_block S hk hl)
set_option maxRecDepth 100000 in
set_option maxHeartbeats 1000000 in
theorem up_any (b g n c j : Nat) (d0 : HA) (w : World) (R : RowK encH 2 w g 0 d0) (hc : w.cell? ⟨b, 0, none⟩ = some (.slice (some ⟨g, 0, none⟩) n c)) (hne : b ≠ g) (hbl : b < w.heap.size) (hn : n = d0.size) (hj : j < n) (hsz : n < 4611686018427387904) (hu : UpBut d0 n j) :
    Calls Tryz.prog 143 #[.iface 194 (.pointer (some ⟨b, 0, none⟩)), .int .i64 j] w fun e w' => e = .returned (.tuple #[]) ∧ ∃ d', SWK encH 2 w g 0 d' w' ∧ PermIn 0 n d0 d' ∧ Hp d' n := by
  have S0 : Aside (SWK encH 2 w g 0 d0 w) := SWK.start R.hH
  have HU := Lib.hid hu
  have HR := Lib.hid R
  have HN := Lib.hid hn
  clear hu R hn
  go_enter Tryz.func143, Tryz.ntmps143
  go_wp2
  go_loopg [1] j (fun g1 s wr => ∃ (t : Nat) (dk : HA), s = .int .i64 t ∧ t < n ∧ t ≤ g1 ∧ dk.size = n ∧ Aside (SWK encH 2 w g 0 dk wr) ∧ Hid (UpBut dk n t ∧ PermIn 0 n d0 dk))
  case atStart => exact ⟨j, d0, rfl, hj, Nat.le_refl _, HN.out.symm, S0, (⟨HU.out, permIn_refl _ _ _⟩ : _ ∧ _)⟩
  case round =>
    clear S0 HU
    obtain ⟨t, dk, rfl, ht, hg1, hds, S1, HK⟩ := hrel
    have hcr := (swk_cell S1.out (i := 0) hne hbl).trans hc
    rcases Nat.eq_zero_or_pos t with h0 | h0
    · subst h0
      go_wp2
      go_end0
      exact ⟨rfl, dk, S1.out, HK.out.2, HK.out.1.stop0⟩
    · obtain ⟨u, rfl⟩ : ∃ u, t = u + 1 := ⟨t - 1, by omega⟩
      obtain ⟨p, hp⟩ : ∃ p, p = u / 2 := ⟨_, rfl⟩
      have hp' : (u + 1 - 1) / 2 = p := by omega
      have e1 : (u : Int) / 2 = (p : Int) := by omega
      have e2 : ((p : Int) == (u : Int) + 1) = false := by simp; omega
      have m1 := mLess wr b _ hcr
      have m2 := fun W h => mSwap W b (.slice (some ⟨g, 0, none⟩) n c) h
      have ec : ((u + 1 : Nat) : Int) = (u : Int) + 1 := rfl
      have h1 := wLess_any g n c (u + 1) p d0 dk w wr HR.out (by have := HN.out; omega) S1.out (by omega) ht (by omega)
      rw [ec] at h1
      have H1 := Lib.hid h1
      clear h1
      have HP : Hid (∀ q os, Aside (SWK encH 2 w g 0 dk (grow (wr.drewN q) os))) := fun q os => S1.out.grown q os
      cases hl : ltH dk[p]! dk[u + 1]! with
      | false =>
        rw [hl] at H1
        have HZ : Hid (Hp dk n) := HK.out.1.stop (by rw [hp']; exact hl)
        clear hp ec
        go_wp2_with fail
        refine H1.out.mono ?_
        rintro e w' ⟨rfl, q, os, rfl⟩
        go_wp2
        go_end0
        exact ⟨rfl, dk, HP.out q os, HK.out.2, HZ.out⟩
      | true =>
        rw [hl] at H1
        have HZ : Hid (UpBut (swp dk p (u + 1)) n p ∧ PermIn 0 n d0 (swp dk p (u + 1))) := by
          have := HK.out.1.step (by omega) ht (by omega) (by rw [hp']; exact hl)
          rw [hp'] at this
          exact ⟨this, permIn_trans _ _ _ _ _ HK.out.2 (swp_permIn dk 0 n p (u + 1) (by omega) (by omega) (by omega) ht (by omega))⟩
        clear hp
        go_wp2_with fail
        refine H1.out.mono ?_
        rintro e w' ⟨rfl, q, os, rfl⟩
        have S2 := HP.out q os
        have m3 := m2 _ ((swk_cell S2.out (i := 0) hne hbl).trans hc)
        have h2 := wSwap_any g n c p (u + 1) d0 dk w _ HR.out (by have := HN.out; omega) S2.out (by omega) (by omega) ht
        rw [ec] at h2
        have H2 := Lib.hid h2
        clear h2 ec
        generalize grow (wr.drewN q) os = w2 at S2 m3 H2 ⊢
        go_wp2_with fail
        refine H2.out.mono ?_
        rintro e w3 ⟨rfl, S3⟩
        have S4 : Aside (SWK encH 2 w g 0 (swp dk p (u + 1)) w3) := S3
        clear S3
        go_wp2
        go_roundg p
        case measure => omega
        case rel => exact ⟨p, swp dk p (u + 1), rfl, by omega, Nat.le_refl _, by rw [size_swp]; exact hds, S4, HZ⟩
set_option maxRecDepth 100000 in
set_option maxHeartbeats 1000000 in
theorem down_any (b g n c m : Nat) (d0 : HA) (w : World) (R : RowK encH 2 w g 0 d0) (hc : w.cell? ⟨b, 0, none⟩ = some (.slice (some ⟨g, 0, none⟩) n c)) (hne : b ≠ g) (hbl : b < w.heap.size) (hn : n = d0.size) (hm : m ≤ n) (hsz : n < 1000000000) (hu : DnBut d0 m 0) :
    Calls Tryz.prog 142 #[.iface 194 (.pointer (some ⟨b, 0, none⟩)), .int .i64 0, .int .i64 m] w fun e w' => (∃ r, e = .returned (.bool r)) ∧ ∃ d', SWK encH 2 w g 0 d' w' ∧ PermIn 0 m d0 d' ∧ Hp d' m := by
  have S0 : Aside (SWK encH 2 w g 0 d0 w) := SWK.start R.hH
  have HU := Lib.hid hu
  have HR := Lib.hid R
  have HN := Lib.hid hn
  clear hu R hn
  go_enter Tryz.func142, Tryz.ntmps142
  go_wp2
  go_loopg [7] m (fun g1 s wr => ∃ (t : Nat) (dk : HA), s = .int .i64 t ∧ t ≤ m ∧ m - t ≤ g1 ∧ dk.size = n ∧ Aside (SWK encH 2 w g 0 dk wr) ∧ Hid (DnBut dk m t ∧ PermIn 0 m d0 dk))
  case atStart => exact ⟨0, d0, rfl, by omega, by omega, HN.out.symm, S0, (⟨HU.out, permIn_refl _ _ _⟩ : _ ∧ _)⟩
  case round =>
    clear S0 HU
    obtain ⟨t, dk, rfl, ht, hg1, hds, S1, HK⟩ := hrel
    have hcr := (swk_cell S1.out (i := 0) hne hbl).trans hc
    by_cases h1 : m ≤ 2 * t + 1
    · have HZ : Hid (Hp dk m) := HK.out.1.stop0 h1
      have z1 : decide (2 * (t : Int) + 1 ≥ (m : Int)) = true := decide_eq_true (by omega)
      have z2 : (m : Int) ≤ 2 * (t : Int) + 1 := by omega
      go_wp2
      go_ret
      exact ⟨⟨_, rfl⟩, dk, S1.out, HK.out.2, HZ.out⟩
    · have ec : ((2 * t + 1 : Nat) : Int) = 2 * (t : Int) + 1 := rfl
      have ec2 : ((2 * t + 2 : Nat) : Int) = 2 * (t : Int) + 1 + 1 := by omega
      have z1 : ¬ (m : Int) ≤ 2 * (t : Int) + 1 := by omega
      have z2 : ¬ 2 * (t : Int) + 1 < 0 := by omega
      by_cases h2 : m ≤ 2 * t + 2
      · have z3 : ¬ 2 * (t : Int) + 1 + 1 < (m : Int) := by omega
        have hq : Far dk m t (2 * t + 1) := Far.one (by omega) h2
        have S3 := S1
        have m4 := mLess wr b _ ((swk_cell S3.out (i := 0) hne hbl).trans hc)
        have h4 := wLess_any g n c (2 * t + 1) t d0 dk w wr HR.out (by have := HN.out; omega) S3.out (by omega) (by omega) (by omega)
        rw [ec] at h4
        have HP2 : Hid (∀ q os, Aside (SWK encH 2 w g 0 dk (grow (wr.drewN q) os))) := fun q os => S3.out.grown q os
        cases hl2 : ltH dk[t]! dk[(2 * t + 1)]! with
        | false =>
          rw [hl2] at h4
          have H4 := Lib.hid h4
          have HZ : Hid (Hp dk m) := HK.out.1.stop hq hl2
          clear h4 hq hl2
          go_wp2_with fail
          refine H4.out.mono ?_
          rintro e w' ⟨rfl, q2, os2, rfl⟩
          go_wp2
          go_ret
          exact ⟨⟨_, rfl⟩, dk, HP2.out q2 os2, HK.out.2, HZ.out⟩
        | true =>
          rw [hl2] at h4
          have H4 := Lib.hid h4
          have HZ : Hid (DnBut (swp dk t (2 * t + 1)) m (2 * t + 1) ∧ PermIn 0 m d0 (swp dk t (2 * t + 1))) :=
            ⟨HK.out.1.step hq (by omega) hl2, permIn_trans _ _ _ _ _ HK.out.2 (swp_permIn dk 0 m t (2 * t + 1) (by omega) (by omega) (by omega) (by omega) (by omega))⟩
          clear h4 hq hl2
          go_wp2_with fail
          refine H4.out.mono ?_
          rintro e w' ⟨rfl, q2, os2, rfl⟩
          have S4 := HP2.out q2 os2
          have m5 := mSwap _ b _ ((swk_cell S4.out (i := 0) hne hbl).trans hc)
          have h5 := wSwap_any g n c t (2 * t + 1) d0 dk w _ HR.out (by have := HN.out; omega) S4.out (by omega) (by omega) (by omega)
          rw [ec] at h5
          have H5 := Lib.hid h5
          clear h5
          generalize grow (wr.drewN q2) os2 = w4 at S4 m5 H5 ⊢
          go_wp2_with fail
          refine H5.out.mono ?_
          rintro e w5 ⟨rfl, S5⟩
          have S6 : Aside (SWK encH 2 w g 0 (swp dk t (2 * t + 1)) w5) := S5
          clear S5
          go_wp2
          go_roundg (m - (2 * t + 1))
          case measure => omega
          case rel => exact ⟨(2 * t + 1), swp dk t (2 * t + 1), by rw [ec], by omega, Nat.le_refl _, by rw [size_swp]; exact hds, S6, HZ⟩
      · have z3 : 2 * (t : Int) + 1 + 1 < (m : Int) := by omega
        have m1 := mLess wr b _ hcr
        have h3 := wLess_any g n c (2 * t + 2) (2 * t + 1) d0 dk w wr HR.out (by have := HN.out; omega) S1.out (by omega) (by omega) (by omega)
        rw [ec, ec2] at h3
        have HP : Hid (∀ q os, Aside (SWK encH 2 w g 0 dk (grow (wr.drewN q) os))) := fun q os => S1.out.grown q os
        cases hl : ltH dk[2 * t + 1]! dk[2 * t + 2]! with
        | false =>
          rw [hl] at h3
          have H3 := Lib.hid h3
          clear h3
          go_wp2_with fail
          refine H3.out.mono ?_
          rintro e w' ⟨rfl, q, os, rfl⟩
          have S2 := HP.out q os
          generalize grow (wr.drewN q) os = w2 at S2 ⊢
          clear m1
          have hq : Far dk m t (2 * t + 1) := Far.left (by omega) hl
          have S3 := S2
          have m4 := mLess w2 b _ ((swk_cell S3.out (i := 0) hne hbl).trans hc)
          have h4 := wLess_any g n c (2 * t + 1) t d0 dk w w2 HR.out (by have := HN.out; omega) S3.out (by omega) (by omega) (by omega)
          rw [ec] at h4
          have HP2 : Hid (∀ q os, Aside (SWK encH 2 w g 0 dk (grow (w2.drewN q) os))) := fun q os => S3.out.grown q os
          cases hl2 : ltH dk[t]! dk[(2 * t + 1)]! with
          | false =>
            rw [hl2] at h4
            have H4 := Lib.hid h4
            have HZ : Hid (Hp dk m) := HK.out.1.stop hq hl2
            clear h4 hq hl2
            go_wp2_with fail
            refine H4.out.mono ?_
            rintro e w' ⟨rfl, q2, os2, rfl⟩
            go_wp2
            go_ret
            exact ⟨⟨_, rfl⟩, dk, HP2.out q2 os2, HK.out.2, HZ.out⟩
          | true =>
            rw [hl2] at h4
            have H4 := Lib.hid h4
            have HZ : Hid (DnBut (swp dk t (2 * t + 1)) m (2 * t + 1) ∧ PermIn 0 m d0 (swp dk t (2 * t + 1))) :=
              ⟨HK.out.1.step hq (by omega) hl2, permIn_trans _ _ _ _ _ HK.out.2 (swp_permIn dk 0 m t (2 * t + 1) (by omega) (by omega) (by omega) (by omega) (by omega))⟩
            clear h4 hq hl2
            go_wp2_with fail
            refine H4.out.mono ?_
            rintro e w' ⟨rfl, q2, os2, rfl⟩
            have S4 := HP2.out q2 os2
            have m5 := mSwap _ b _ ((swk_cell S4.out (i := 0) hne hbl).trans hc)
            have h5 := wSwap_any g n c t (2 * t + 1) d0 dk w _ HR.out (by have := HN.out; omega) S4.out (by omega) (by omega) (by omega)
            rw [ec] at h5
            have H5 := Lib.hid h5
            clear h5
            generalize grow (w2.drewN q2) os2 = w4 at S4 m5 H5 ⊢
            go_wp2_with fail
            refine H5.out.mono ?_
            rintro e w5 ⟨rfl, S5⟩
            have S6 : Aside (SWK encH 2 w g 0 (swp dk t (2 * t + 1)) w5) := S5
            clear S5
            go_wp2
            go_roundg (m - (2 * t + 1))
            case measure => omega
            case rel => exact ⟨(2 * t + 1), swp dk t (2 * t + 1), by rw [ec], by omega, Nat.le_refl _, by rw [size_swp]; exact hds, S6, HZ⟩
        | true =>
          rw [hl] at h3
          have H3 := Lib.hid h3
          clear h3
          go_wp2_with fail
          refine H3.out.mono ?_
          rintro e w' ⟨rfl, q, os, rfl⟩
          have S2 := HP.out q os
          generalize grow (wr.drewN q) os = w2 at S2 ⊢
          clear m1
          have hq : Far dk m t (2 * t + 2) := Far.right (by omega) hl
          have S3 := S2
          have m4 := mLess w2 b _ ((swk_cell S3.out (i := 0) hne hbl).trans hc)
          have h4 := wLess_any g n c (2 * t + 2) t d0 dk w w2 HR.out (by have := HN.out; omega) S3.out (by omega) (by omega) (by omega)
          rw [ec2] at h4
          have HP2 : Hid (∀ q os, Aside (SWK encH 2 w g 0 dk (grow (w2.drewN q) os))) := fun q os => S3.out.grown q os
          cases hl2 : ltH dk[t]! dk[(2 * t + 2)]! with
          | false =>
            rw [hl2] at h4
            have H4 := Lib.hid h4
            have HZ : Hid (Hp dk m) := HK.out.1.stop hq hl2
            clear h4 hq hl2
            go_wp2_with fail
            refine H4.out.mono ?_
            rintro e w' ⟨rfl, q2, os2, rfl⟩
            go_wp2
            go_ret
            exact ⟨⟨_, rfl⟩, dk, HP2.out q2 os2, HK.out.2, HZ.out⟩
          | true =>
            rw [hl2] at h4
            have H4 := Lib.hid h4
            have HZ : Hid (DnBut (swp dk t (2 * t + 2)) m (2 * t + 2) ∧ PermIn 0 m d0 (swp dk t (2 * t + 2))) :=
              ⟨HK.out.1.step hq (by omega) hl2, permIn_trans _ _ _ _ _ HK.out.2 (swp_permIn dk 0 m t (2 * t + 2) (by omega) (by omega) (by omega) (by omega) (by omega))⟩
            clear h4 hq hl2
            go_wp2_with fail
            refine H4.out.mono ?_
            rintro e w' ⟨rfl, q2, os2, rfl⟩
            have S4 := HP2.out q2 os2
            have m5 := mSwap _ b _ ((swk_cell S4.out (i := 0) hne hbl).trans hc)
            have h5 := wSwap_any g n c t (2 * t + 2) d0 dk w _ HR.out (by have := HN.out; omega) S4.out (by omega) (by omega) (by omega)
            rw [ec2] at h5
            have H5 := Lib.hid h5
            clear h5
            generalize grow (w2.drewN q2) os2 = w4 at S4 m5 H5 ⊢
            go_wp2_with fail
            refine H5.out.mono ?_
            rintro e w5 ⟨rfl, S5⟩
            have S6 : Aside (SWK encH 2 w g 0 (swp dk t (2 * t + 2)) w5) := S5
            clear S5
            go_wp2
            go_roundg (m - (2 * t + 2))
            case measure => omega
            case rel => exact ⟨(2 * t + 2), swp dk t (2 * t + 2), by rw [ec2], by omega, Nat.le_refl _, by rw [size_swp]; exact hds, S6, HZ⟩
end Go.Proofs.YtkmngbkghgelfaaGreat
