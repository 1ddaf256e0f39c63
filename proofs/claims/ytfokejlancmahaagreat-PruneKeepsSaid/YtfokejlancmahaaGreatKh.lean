/- The walk of the document's Holds (layer 9). -/
import Derived.Test.YtfokejlancmahaaGreatKg
namespace Go.Proofs.YtfokejlancmahaaGreat
open Go.RowKit
set_option linter.unusedVariables false
theorem holds_bad {G : List Pn} {s t : Int} {i k : Nat} (hi : i < G.length) (hk : (outAt G i)[k]? = some t) (h : ¬ (0 ≤ t ∧ t < (G.length : Int))) : holdsB G s = false := decide_eq_false (fun q => h (q.out hi (List.mem_of_getElem? hk)))
theorem holds_ok {G : List Pn} {s : Int} (h1 : G.length ≤ 2048 ∧ 0 ≤ s ∧ (s < (G.length : Int) ∨ s ≤ 0)) (h : ∀ (i : Nat), i < G.length → ∀ (k : Nat) (t : Int), (outAt G i)[k]? = some t → 0 ≤ t ∧ t < (G.length : Int)) : holdsB G s = true := decide_eq_true ⟨h1.1, h1.2.1, h1.2.2, fun x hx t ht => by
  obtain ⟨i, hi, rfl⟩ := List.getElem_of_mem hx
  obtain ⟨k, hk, rfl⟩ := List.getElem_of_mem ht
  refine h i hi k _ ?_
  have : outAt G i = G[i].2.2 := by unfold outAt; rw [nAt_get (List.getElem?_eq_getElem hi)]
  rw [this]
  exact List.getElem?_eq_getElem hk⟩
set_option maxRecDepth 100000 in
set_option maxHeartbeats 4000000 in
theorem rHolds_any (A : Option Addr) (c : Nat) (L : List Gn) (s : Int) (w : World) (D : Nat) (hD : D ≤ w.heap.size) (hx : RdG w D A L) (hl : L.length ≤ 20000) (hs : ∀ x ∈ pns L, x.2.2.length ≤ 20000) :
    Calls Tryz.prog 96 #[.agg #[.slice A L.length c, .int .i64 s]] w fun e w' => e = .returned (.bool (holdsB (pns L) s)) ∧ Below w.heap.size w w' := by
  have W0 := Whole.new w 24 #[.slice A L.length c, .int .i64 s]
  have B0 : Below w.heap.size w (w.alloc (.cells #[.slice A L.length c, .int .i64 s] 24)) := below_one (Below.refl _ _) _
  have HX := Lib.hid (hx.below (B0.mono hD))
  have HL := Lib.hid (pns_len L)
  have HSM := Lib.hid hs
  have p0 := W0.cell 0
  have p1 := W0.cell 1
  have HB0 := Lib.hid B0
  clear W0 B0 hx hs
  by_cases hP : L.length ≤ 2048 ∧ 0 ≤ s ∧ (s < (L.length : Int) ∨ s ≤ 0)
  · have f1 : decide ((2048 : Int) < (L.length : Int)) = false := decide_eq_false (by omega)
    have f1n : decide (2048 < L.length) = false := decide_eq_false (by omega)
    have f2 : decide (s < 0) = false := decide_eq_false (by omega)
    have f34 : decide ((L.length : Int) ≤ s) = false ∨ (decide ((L.length : Int) ≤ s) = true ∧ decide (0 < s) = false) := by
      by_cases h : s < (L.length : Int)
      · exact .inl (decide_eq_false (by omega))
      · exact .inr ⟨decide_eq_true (by omega), decide_eq_false (by omega)⟩
    have HP := Lib.hid hP
    clear hP
    rcases f34 with f3 | ⟨f3, f4⟩
    all_goals
      go_enter Tryz.func96, Tryz.ntmps96
      go_wp2
      obtain ⟨w1, ew1⟩ : ∃ w1, w.alloc (.cells #[.slice A L.length c, .int .i64 s] 24) = w1 := ⟨_, rfl⟩
      rw [ew1] at HX HB0 p0 ⊢
      obtain ⟨g, eg⟩ : ∃ g, w.heap.size = g := ⟨_, rfl⟩
      rw [eg] at p0 ⊢
      have p0' : w1.cell? ⟨g, 0, none⟩ = some (.slice A L.length c) := p0
      have HG := Lib.hid eg
      clear ew1 eg p0 p1
      go_loopw [4] (fun i wr => ∃ k nq : Nat, k ≤ L.length ∧ i = .int .i64 k ∧ wr = w1.drewN nq ∧ Hid (∀ (j : Nat), j < k → ∀ (m : Nat) (t : Int), (outAt (pns L) j)[m]? = some t → 0 ≤ t ∧ t < (L.length : Int))) (fun i _ => L.length - (intOf i).toNat)
      case atStart => exact ⟨0, 0, by omega, rfl, rfl, Lib.hid (fun j hj => absurd hj (Nat.not_lt_zero _))⟩
      case round =>
        obtain ⟨k, nq, hk, rfl, rfl, HK⟩ := hrel
        by_cases hlt : k < L.length
        · have e1 : decide ((k : Int) < (L.length : Int)) = true := decide_eq_true (by omega)
          obtain ⟨b, off, id', a1, c1, v, a2, c2, o, rfl, hBb, h1, h2, h3, hr1, hr2, hv⟩ := HX.out.at_ hlt
          have x1 : (0 : Int) ≤ (k : Int) := by omega
          have x2 : (k : Int) < (L.length : Int) := by omega
          have EO := Lib.hid (show outAt (pns L) k = o by unfold outAt; rw [nAt_get (pns_at hv.out)])
          have hol : o.length ≤ 20000 := HSM.out _ (List.mem_of_getElem? (pns_at hv.out))
          have HO := Lib.hid hr2
          clear hv hr1 hr2 h1 h2
          go_wp2
          go_loopw [5] (fun i wz => ∃ m mq : Nat, m ≤ o.length ∧ i = .int .i64 m ∧ wz = w1.drewN mq ∧ Hid (∀ (j : Nat) (t : Int), j < m → o[j]? = some t → 0 ≤ t ∧ t < (L.length : Int))) (fun i _ => o.length - (intOf i).toNat)
          case atStart => exact ⟨0, nq, by omega, rfl, rfl, Lib.hid (fun j t hj => absurd hj (Nat.not_lt_zero _))⟩
          case round =>
            obtain ⟨m, mq, hm, rfl, rfl, HM⟩ := hrel
            by_cases hmt : m < o.length
            · have g1 : decide ((m : Int) < (o.length : Int)) = true := decide_eq_true (by omega)
              obtain ⟨bo, oo, t, rfl, hBo, hco, hvo⟩ := HO.out.at_ hmt
              have et : o[m]? = some t := by rw [← hvo.out, List.getElem?_eq_getElem hmt]; rfl
              have y1 : (0 : Int) ≤ (m : Int) := by omega
              have y2 : (m : Int) < (o.length : Int) := by omega
              by_cases ht : 0 ≤ t ∧ t < (L.length : Int)
              · have q1 : decide (t < 0) = false := decide_eq_false (by omega)
                have q2 : decide ((L.length : Int) ≤ t) = false := decide_eq_false (by omega)
                have HN : Hid (∀ (j : Nat) (t : Int), j < m + 1 → o[j]? = some t → 0 ≤ t ∧ t < (L.length : Int)) := fun j u hj hu => by
                  rcases Nat.lt_or_ge j m with h | h
                  · exact HM.out j u h hu
                  · obtain rfl : j = m := by omega
                    rw [et] at hu
                    simp only [Option.some.injEq] at hu
                    rw [← hu]; exact ht
                clear ht et hvo
                go_wp2
                exact ⟨⟨m + 1, mq, by omega, by go_num, rfl, HN⟩, by simp [intOf]; omega⟩
              · have HF := Lib.hid (holds_bad (G := pns L) (s := s) (by rw [HL.out]; exact hlt) (by rw [EO.out]; exact et) (by rw [HL.out]; exact ht))
                have q12 : decide (t < 0) = true ∨ (decide (t < 0) = false ∧ decide ((L.length : Int) ≤ t) = true) := by
                  by_cases h : t < 0
                  · exact .inl (decide_eq_true h)
                  · exact .inr ⟨decide_eq_false h, decide_eq_true (by omega)⟩
                clear ht et hvo
                rcases q12 with q1 | ⟨q1, q2⟩
                all_goals
                  go_wp2
                  go_ret
                  exact ⟨retb HF.out.symm, below_drewN HB0.out _⟩
            · obtain rfl : m = o.length := by omega
              have g1 : decide ((o.length : Int) < (o.length : Int)) = false := decide_eq_false (by omega)
              have HN : Hid (∀ (j : Nat), j < k + 1 → ∀ (m : Nat) (t : Int), (outAt (pns L) j)[m]? = some t → 0 ≤ t ∧ t < (L.length : Int)) := fun j hj m t ht => by
                rcases Nat.lt_or_ge j k with h | h
                · exact HK.out j h m t ht
                · obtain rfl : j = k := by omega
                  rw [EO.out] at ht
                  exact HM.out m t (List.getElem?_eq_some_iff.1 ht).1 ht
              go_wp2
              go_roundw
              case rel => exact ⟨k + 1, _, by omega, by go_num, rfl, HN⟩
              case measure => simp [intOf]; omega
        · obtain rfl : k = L.length := by omega
          have e1 : decide ((L.length : Int) < (L.length : Int)) = false := decide_eq_false (by omega)
          have HF := Lib.hid (holds_ok (G := pns L) (s := s) (by rw [HL.out]; exact HP.out) (fun i hi m t ht => by rw [HL.out] at hi ⊢; exact HK.out i hi m t ht))
          go_wp2
          go_ret
          exact ⟨retb HF.out.symm, below_drewN HB0.out _⟩
  · have HF : Hid (holdsB (pns L) s = false) := Lib.hid (decide_eq_false (fun q => hP (by have h1 := q.1; have h2 := q.2.1; have h3 := q.2.2.1; rw [HL.out] at h1 h3; exact ⟨h1, h2, h3⟩)))
    go_enter Tryz.func96, Tryz.ntmps96
    go_wp2
    all_goals
      first
        | (exfalso; omega)
        | (go_ret; exact ⟨retb HF.out.symm, HB0.out⟩)
end Go.Proofs.YtfokejlancmahaaGreat
