/- The walks of the program's holdsTogether and unlikeOthers (layer 9). -/
import Derived.Test.YtfokejlancmahaaGreatLa
import Derived.Test.YtfokejlancmahaaGreatKh
import Derived.Test.YtfokejlancmahaaGreatGa
import Derived.Deep.RegionHeld3
namespace Go.Proofs.YtfokejlancmahaaGreat
open Go.RowKit
set_option linter.unusedVariables false
set_option maxRecDepth 100000 in
set_option maxHeartbeats 4000000 in
theorem unlikeOthers_any (A : Option Addr) (c : Nat) (xs : List Int) (n : Nat) (hn : n = xs.length) (a : Int) (w : World) (D : Nat) (hx : Rd .i64 w D A xs) (hl : xs.length ≤ 1000000) (hc : n ≤ c) :
    Calls Tryz.prog 141 #[.slice A n c, .int .i64 a] w fun e w' => e = .returned (.bool (unlikeB xs a)) ∧ ∃ nq, w' = w.drewN nq := by
  subst hn
  have HC := Lib.hid (fun (k nq : Nat) (t : Int) (hk : k ≤ xs.length) => contains_any A c (xs.take k) k (by simp; omega) t (w.drewN nq) D ((hx.take k).below (below_drewN (Below.refl _ _) nq)) (by simp; omega))
  go_enter Tryz.func141, Tryz.ntmps141
  go_wp2
  go_loopw [5, 6, 9] (fun _ _ i wr => ∃ k nq : Nat, k ≤ xs.length ∧ i = .int .i64 k ∧ wr = w.drewN nq ∧ Hid (∀ (m : Nat) (t : Int), m < k → xs[m]? = some t → t ≠ a ∧ ∀ (j : Nat) (u : Int), j < m → xs[j]? = some u → u ≠ t)) (fun _ _ i _ => xs.length - (intOf i).toNat)
  case atStart => exact ⟨0, 0, by omega, rfl, rfl, Lib.hid (fun m t hm => absurd hm (Nat.not_lt_zero _))⟩
  case round =>
    obtain ⟨k, nq, hk, rfl, rfl, HK⟩ := hrel
    by_cases hlt : k < xs.length
    · have e1 : decide ((k : Int) < (xs.length : Int)) = true := decide_eq_true (by omega)
      obtain ⟨b, off, t, rfl, hBb, hcl, hv⟩ := hx.at_ hlt
      have ht : xs[k]? = some t := by rw [← hv.out, List.getElem?_eq_getElem hlt]; rfl
      have HT := Lib.hid ht
      have x1 : (0 : Int) ≤ (k : Int) := by omega
      have x2 : (k : Int) < (xs.length : Int) := by omega
      have x3 : (k : Int) ≤ (c : Int) := by omega
      clear hv ht
      by_cases he : t = a
      · subst he
        have e2 : (t == t) = true := by simp
        have HU := Lib.hid (unlikeB_no1 HT.out rfl)
        go_wp2
        go_ret
        exact ⟨retb HU.out.symm, _, rfl⟩
      · have e2 : (t == a) = false := by simpa using he
        by_cases hm : t ∈ xs.take k
        · have e3 : decide (t ∈ xs.take k) = true := decide_eq_true hm
          have HU := Lib.hid (show unlikeB xs a = false by
            obtain ⟨j, hj, ej⟩ := List.getElem_of_mem hm
            have hj1 : j < k := by rw [List.length_take] at hj; omega
            rw [List.getElem_take] at ej
            exact unlikeB_no2 (by rw [List.getElem?_eq_getElem (by omega), ej]) HT.out hj1)
          clear hm
          go_wp2_with (go_at_call 160; refine (HC.out k nq t hk).mono ?_; rintro e w1 ⟨rfl, m, rfl⟩)
          go_ret
          exact ⟨retb HU.out.symm, nq + m, rfl⟩
        · have e3 : decide (t ∈ xs.take k) = false := decide_eq_false hm
          have HN : Hid (∀ (m : Nat) (t : Int), m < k + 1 → xs[m]? = some t → t ≠ a ∧ ∀ (j : Nat) (u : Int), j < m → xs[j]? = some u → u ≠ t) := fun m u hm2 hu => by
            rcases Nat.lt_or_ge m k with h | h
            · exact HK.out m u h hu
            · obtain rfl : m = k := by omega
              rw [HT.out] at hu
              injection hu with hu
              subst hu
              exact ⟨he, fun j u hj hu q => hm (by subst q; exact List.mem_of_getElem? (i := j) (by rw [List.getElem?_take, if_pos hj]; exact hu))⟩
          clear hm
          go_wp2_with (go_at_call 160; refine (HC.out k nq t hk).mono ?_; rintro e w1 ⟨rfl, m, rfl⟩)
          exact ⟨⟨k + 1, nq + m, by omega, by go_num, rfl, HN⟩, by simp [intOf]; omega⟩
    · obtain rfl : k = xs.length := by omega
      have e1 : decide ((xs.length : Int) < (xs.length : Int)) = false := decide_eq_false (by omega)
      have HU := Lib.hid (unlikeB_yes (fun m t hm => HK.out m t (by rcases Nat.lt_or_ge m xs.length with h | h; exact h; rw [List.getElem?_eq_none h] at hm; cases hm) hm))
      go_wp2
      go_ret
      exact ⟨retb HU.out.symm, _, rfl⟩
set_option maxRecDepth 100000 in
set_option maxHeartbeats 4000000 in
theorem holds_any (A : Option Addr) (c : Nat) (L : List Gn) (s : Int) (w : World) (D : Nat) (hD : D ≤ w.heap.size) (hx : RdG w D A L) (hl : L.length ≤ 20000) (hs : ∀ x ∈ pns L, x.2.2.length ≤ 20000) :
    Calls Tryz.prog 139 #[.agg #[.slice A L.length c, .int .i64 s]] w fun e w' => e = .returned (.bool (holdsB (pns L) s)) ∧ Below w.heap.size w w' := by
  have W0 := Whole.new w 24 #[.slice A L.length c, .int .i64 s]
  have B0 : Below w.heap.size w (w.alloc (.cells #[.slice A L.length c, .int .i64 s] 24)) := below_one (Below.refl _ _) _
  have HX := Lib.hid hx
  have HL := Lib.hid (pns_len L)
  have HSM := Lib.hid hs
  have p0 := W0.cell 0
  have p1 := W0.cell 1
  have HB0 := Lib.hid B0
  clear W0 B0 hx hs
  by_cases hP : L.length ≤ 2048 ∧ 0 ≤ s ∧ (s < (L.length : Int) ∨ s ≤ 0)
  · have f1 : decide ((2048 : Int) < (L.length : Int)) = false := decide_eq_false (by omega)
    have f1n : decide (2048 < L.length) = false := decide_eq_false (by omega)
    have HP := Lib.hid hP
    have e0 : decide (0 ≤ s ∧ s < (if (L.length : Int) < 1 then 1 else (L.length : Int))) = true := decide_eq_true (by split <;> omega)
    have HIP := Lib.hid (fun (W : World) => isPlace_any s (if (L.length : Int) < 1 then 1 else (L.length : Int)) W)
    rw [e0] at HIP
    have HPP := Lib.hid (fun (t : Int) (W : World) => isPlace_any t (L.length : Int) W)
    clear hP e0
    go_enter Tryz.func139, Tryz.ntmps139
    go_wp2_with (go_at_call 159; refine (HIP.out _).mono ?_; rintro e w' ⟨rfl, rfl⟩)
    all_goals
      clear p1 HIP h
      obtain ⟨w1, ew1⟩ : ∃ w1, w.alloc (.cells #[.slice A L.length c, .int .i64 s] 24) = w1 := ⟨_, rfl⟩
      rw [ew1] at HB0 p0 ⊢
      clear ew1
      go_loopw [5, 7, 24] (fun _ _ i wr => ∃ k : Nat, k ≤ L.length ∧ i = .int .i64 k ∧ Hid (Below w.heap.size w wr) ∧ Hid (∀ (j : Nat), j < k → ∀ (m : Nat) (t : Int), (outAt (pns L) j)[m]? = some t → 0 ≤ t ∧ t < (L.length : Int))) (fun _ _ i _ => L.length - (intOf i).toNat)
      case atStart => exact ⟨0, by omega, rfl, HB0, Lib.hid (fun j hj => absurd hj (Nat.not_lt_zero _))⟩
      case round =>
        clear HB0 p0
        obtain ⟨k, hk, rfl, HB, HK⟩ := hrel
        by_cases hlt : k < L.length
        · have e1 : decide ((k : Int) < (L.length : Int)) = true := decide_eq_true (by omega)
          obtain ⟨b, off, id', a1, c1, v, a2, c2, o, rfl, hBb, h1, h2, h3, hr1, hr2, hv⟩ := HX.out.at_ hlt
          have bW : Below D w wr := HB.out.mono hD
          have h1' : wr.cell? ⟨b, off + k * 3, none⟩ = some (.int .u64 id') := (bW.cell (p := ⟨b, off + k * 3, none⟩) hBb).trans h1
          have h2' : wr.cell? ⟨b, off + k * 3 + 1, none⟩ = some (.slice a1 v.length c1) := (bW.cell (p := ⟨b, off + k * 3 + 1, none⟩) hBb).trans h2
          have h3' : wr.cell? ⟨b, off + k * 3 + 2, none⟩ = some (.slice a2 o.length c2) := (bW.cell (p := ⟨b, off + k * 3 + 2, none⟩) hBb).trans h3
          have x1 : (0 : Int) ≤ (k : Int) := by omega
          have x2 : (k : Int) < (L.length : Int) := by omega
          have EO := Lib.hid (show outAt (pns L) k = o by unfold outAt; rw [nAt_get (pns_at hv.out)])
          have hol : o.length ≤ 20000 := HSM.out _ (List.mem_of_getElem? (pns_at hv.out))
          have HB2 := Lib.hid (HB.out.trans ((below_one (Below.refl _ _) (.cells #[.int .u64 id', .slice a1 v.length c1, .slice a2 o.length c2] 73)).mono HB.out.size))
          have HO := Lib.hid (hr2.below (HB2.out.mono hD))
          clear bW h1 h2 h3 hr1 hr2 hv
          go_wp2
          obtain ⟨w2, ew2⟩ : ∃ w2, wr.alloc (.cells #[.int .u64 id', .slice a1 v.length c1, .slice a2 o.length c2] 73) = w2 := ⟨_, rfl⟩
          rw [ew2] at HB2 HO ⊢
          clear ew2 h1' h2' h3' HB
          go_loopw [7, 31] (fun _ i wz => ∃ m mq : Nat, m ≤ o.length ∧ i = .int .i64 m ∧ wz = w2.drewN mq ∧ Hid (∀ (j : Nat) (t : Int), j < m → o[j]? = some t → 0 ≤ t ∧ t < (L.length : Int))) (fun _ i _ => o.length - (intOf i).toNat)
          case atStart => exact ⟨0, 0, by omega, rfl, rfl, Lib.hid (fun j t hj => absurd hj (Nat.not_lt_zero _))⟩
          case round =>
            obtain ⟨m, mq, hm, rfl, rfl, HM⟩ := hrel
            by_cases hmt : m < o.length
            · have g1 : decide ((m : Int) < (o.length : Int)) = true := decide_eq_true (by omega)
              obtain ⟨bo, oo, t, rfl, hBo, hco, hvo⟩ := HO.out.at_ hmt
              have et : o[m]? = some t := by rw [← hvo.out, List.getElem?_eq_getElem hmt]; rfl
              have y1 : (0 : Int) ≤ (m : Int) := by omega
              have y2 : (m : Int) < (o.length : Int) := by omega
              by_cases ht : 0 ≤ t ∧ t < (L.length : Int)
              · have q1 : decide (0 ≤ t ∧ t < (L.length : Int)) = true := decide_eq_true ht
                have HP1 := Lib.hid (fun W => HPP.out t W)
                rw [q1] at HP1
                have HN : Hid (∀ (j : Nat) (t : Int), j < m + 1 → o[j]? = some t → 0 ≤ t ∧ t < (L.length : Int)) := fun j u hj hu => by
                  rcases Nat.lt_or_ge j m with h | h
                  · exact HM.out j u h hu
                  · obtain rfl : j = m := by omega
                    rw [et] at hu
                    simp only [Option.some.injEq] at hu
                    rw [← hu]; exact ht
                clear ht et hvo q1
                go_wp2_with (go_at_call 159; refine (HP1.out _).mono ?_; rintro e w' ⟨rfl, rfl⟩)
                exact ⟨⟨m + 1, mq, by omega, by go_num, rfl, HN⟩, by simp [intOf]; omega⟩
              · have HF := Lib.hid (holds_bad (G := pns L) (s := s) (by rw [HL.out]; exact hlt) (by rw [EO.out]; exact et) (by rw [HL.out]; exact ht))
                have q1 : decide (0 ≤ t ∧ t < (L.length : Int)) = false := decide_eq_false ht
                have HP1 := Lib.hid (fun W => HPP.out t W)
                rw [q1] at HP1
                clear ht et hvo q1
                go_wp2_with (go_at_call 159; refine (HP1.out _).mono ?_; rintro e w' ⟨rfl, rfl⟩)
                go_ret
                exact ⟨retb HF.out.symm, below_drewN HB2.out _⟩
            · obtain rfl : m = o.length := by omega
              have g1 : decide ((o.length : Int) < (o.length : Int)) = false := decide_eq_false (by omega)
              have HN : Hid (∀ (j : Nat), j < k + 1 → ∀ (m : Nat) (t : Int), (outAt (pns L) j)[m]? = some t → 0 ≤ t ∧ t < (L.length : Int)) := fun j hj m t ht => by
                rcases Nat.lt_or_ge j k with h | h
                · exact HK.out j h m t ht
                · obtain rfl : j = k := by omega
                  rw [EO.out] at ht
                  exact HM.out m t (List.getElem?_eq_some_iff.1 ht).1 ht
              have HB3 := Lib.hid (below_drewN HB2.out mq)
              go_wp2
              go_roundw
              case rel => exact ⟨k + 1, by omega, by go_num, HB3, HN⟩
              case measure => simp [intOf]; omega
        · obtain rfl : k = L.length := by omega
          have e1 : decide ((L.length : Int) < (L.length : Int)) = false := decide_eq_false (by omega)
          have HF := Lib.hid (holds_ok (G := pns L) (s := s) (by rw [HL.out]; exact HP.out) (fun i hi m t ht => by rw [HL.out] at hi ⊢; exact HK.out i hi m t ht))
          go_wp2
          go_ret
          exact ⟨retb HF.out.symm, HB.out⟩
  · have HF : Hid (holdsB (pns L) s = false) := Lib.hid (decide_eq_false (fun q => hP (by have h1 := q.1; have h2 := q.2.1; have h3 := q.2.2.1; rw [HL.out] at h1 h3; exact ⟨h1, h2, h3⟩)))
    have HIP := Lib.hid (fun (W : World) => isPlace_any s (if (L.length : Int) < 1 then 1 else (L.length : Int)) W)
    by_cases hc : 2048 < L.length
    · have f1 : decide ((2048 : Int) < (L.length : Int)) = true := decide_eq_true (by omega)
      have f1n : decide (2048 < L.length) = true := decide_eq_true (by omega)
      go_enter Tryz.func139, Tryz.ntmps139
      go_wp2
      go_ret
      exact ⟨retb HF.out.symm, HB0.out⟩
    · have f1 : decide ((2048 : Int) < (L.length : Int)) = false := decide_eq_false (by omega)
      have f1n : decide (2048 < L.length) = false := decide_eq_false (by omega)
      have e0 : decide (0 ≤ s ∧ s < (if (L.length : Int) < 1 then 1 else (L.length : Int))) = false := decide_eq_false (by split <;> omega)
      rw [e0] at HIP
      clear e0 hP
      go_enter Tryz.func139, Tryz.ntmps139
      go_wp2_with (go_at_call 159; refine (HIP.out _).mono ?_; rintro e w' ⟨rfl, rfl⟩)
      all_goals
        go_ret
        exact ⟨retb HF.out.symm, HB0.out⟩
end Go.Proofs.YtfokejlancmahaaGreat
