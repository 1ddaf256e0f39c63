/- The walk of SetsHas. -/
import Derived.Test.YtgcclijdkcomiaaDoorLb
namespace Go.Proofs.YtgcclijdkcomiaaDoor
open Go.RowKit
set_option linter.unusedVariables false
theorem in2048 {k : Nat} (h : k < 2048) : inB 2048 (k : Int) = true := by simp [inB]; omega
theorem plus_at (f : Nat → Bool) (k m : Nat) (h : k < 2048) : plus 2048 f (k : Int) m = (f m || decide (m = k)) := by
  unfold plus
  rw [in2048 h, Bool.true_and]
  congr 1
  by_cases e : m = k
  · subst e; simp
  · have : ¬ ((m : Int) = (k : Int)) := by omega
    simp [e, this]
theorem minus_at (f : Nat → Bool) (k m : Nat) : minus f (k : Int) m = (f m && !decide (m = k)) := by
  unfold minus
  congr 2
  by_cases e : m = k
  · subst e; simp
  · have : ¬ ((m : Int) = (k : Int)) := by omega
    simp [e, this]
theorem inI_at (f : Nat → Bool) (k : Nat) (h : k < 2048) : inI 2048 f (k : Int) = f k := by unfold inI; rw [in2048 h, Bool.true_and, Int.toNat_natCast]
set_option maxRecDepth 100000 in
set_option maxHeartbeats 1000000 in
theorem setsHas_far (A B : Option Addr) (a b c d : Nat) (n : Int) (h : 500 < a ∨ 500 < b) (w : World) (hT : Tab w) :
    Calls Tryd.prog 4 #[.slice A a c, .slice B b d, .int .u16 n] w fun e w' => e = .returned (.bool true) ∧ Below w.heap.size w w' := by
  have HA := Lib.hid (alive_any w hT)
  have HT := Lib.hid hT
  clear hT
  by_cases h1 : 500 < a
  · have h1' : decide (500 < (a : Int)) = true := decide_eq_true (by omega)
    clear h
    go_enter Tryd.func4, Tryd.ntmps4
    go_wp2_with fail
    refine HA.out.mono ?_
    rintro e w1 ⟨rfl, hB⟩
    have H2 := Lib.hid (alive_any w1 (HT.out.below hB HT.out.pos))
    go_wp2_with fail
    refine H2.out.mono ?_
    rintro e w2 ⟨rfl, hB2⟩
    go_wp2
    go_ret
    exact ⟨rfl, hB.trans (hB2.mono hB.size)⟩
  · have h1' : decide (500 < (a : Int)) = false := decide_eq_false (by omega)
    have h2' : decide (500 < (b : Int)) = true := decide_eq_true (by omega)
    clear h h1
    go_enter Tryd.func4, Tryd.ntmps4
    go_wp2_with fail
    refine HA.out.mono ?_
    rintro e w1 ⟨rfl, hB⟩
    have H2 := Lib.hid (alive_any w1 (HT.out.below hB HT.out.pos))
    go_wp2_with fail
    refine H2.out.mono ?_
    rintro e w2 ⟨rfl, hB2⟩
    go_wp2
    go_ret
    exact ⟨rfl, hB.trans (hB2.mono hB.size)⟩
set_option maxRecDepth 100000 in
set_option maxHeartbeats 2000000 in
theorem setsHas_yes (A B : Option Addr) (c d : Nat) (xs ys : List Int) (n : Nat) (hn : n ≤ 65535) (w : World) (hx : Rd .u16 w w.heap.size A xs) (hy : Rd .u16 w w.heap.size B ys) (ha : xs.length ≤ 500) (hb : ys.length ≤ 500)
    (wx : ∀ v ∈ xs, 0 ≤ v ∧ v ≤ 65535) (wy : ∀ v ∈ ys, 0 ≤ v ∧ v ≤ 65535) (hT : Tab w) :
    Calls Tryd.prog 4 #[.slice A xs.length c, .slice B ys.length d, .int .u16 n] w fun e w' => e = .returned (.bool true) ∧ Below w.heap.size w w' := by
  obtain ⟨nn, hnn, hn2⟩ : ∃ q : Nat, (n : Int) % 2048 = (q : Int) ∧ q < 2048 := ⟨n % 2048, by omega, by omega⟩
  have h0 := Lib.hid hT.pos
  have HA := Lib.hid (alive_any w hT)
  have HX := Lib.hid (⟨hx, wx⟩ : _ ∧ _)
  have HY := Lib.hid (⟨hy, wy⟩ : _ ∧ _)
  have HT := Lib.hid hT
  clear hT hx hy wx wy
  have h1' : decide (500 < (xs.length : Int)) = false := decide_eq_false (by omega)
  have h2' : decide (500 < (ys.length : Int)) = false := decide_eq_false (by omega)
  go_enter Tryd.func4, Tryd.ntmps4
  go_wp2_with fail
  refine HA.out.mono ?_
  rintro e w1 ⟨rfl, hB⟩
  have HO := Lib.hid (of_any none 0 [] w1 (fun h => by simp at h) (by simp) (HT.out.below hB HT.out.pos))
  go_wp2_with fail
  refine HO.out.mono ?_
  intro e w2 h2
  obtain ⟨b, g, rfl, L0⟩ := h2
  have L : Hid (Live w w2 b g 2048 f0) := ⟨hB.trans (L0.bel.mono hB.size), L0.set, Nat.le_trans hB.size L0.hb, Nat.le_trans hB.size L0.hg, L0.tab⟩
  clear L0 hB HO HA
  go_wp2
  go_loopw [8, 9, 10, 11] (fun want i _ _ wr => ∃ (k : Nat) (F : Nat → Bool), k ≤ xs.length ∧ i = .int .i64 k ∧ want = .bool (F nn) ∧ Hid (Live w wr b g 2048 F)) (fun _ i _ _ _ => xs.length - (intOf i).toNat)
  case atStart => exact ⟨0, f0, Nat.zero_le _, rfl, rfl, L⟩
  case round =>
    clear L
    obtain ⟨j, F, hj, rfl, rfl, L⟩ := hrel
    by_cases hlt : j < xs.length
    · obtain ⟨gb, off, v, rfl, hgb, hc, hv⟩ := (Rd.live HX.out.1 L.out).at_ hlt
      have hv16 : 0 ≤ v ∧ v ≤ 65535 := by
        have := hv.out
        rw [List.getElem?_eq_getElem hlt] at this
        exact HX.out.2 v (by rw [← this]; exact List.getElem_mem hlt)
      obtain ⟨hv0, hv1⟩ := hv16
      obtain ⟨k, hk, hk2⟩ : ∃ q : Nat, v % 2048 = (q : Int) ∧ q < 2048 := ⟨(v % 2048).toNat, by omega, by omega⟩
      have hkn : (k : Int) ≤ 2047 := by omega
      clear hv HX
      have hw : Hid (plus 2048 (plus 2048 F k) k nn = (F nn || decide (nn = k))) := by rw [Hid, plus_at _ _ _ hk2, plus_at _ _ _ hk2]; cases F nn <;> cases decide (nn = k) <;> rfl
      have H1 := Lib.hid (hasL L.out k _ (inI_at F k hk2))
      have e3 : (inB 2048 (k : Int) && !(plus 2048 F k) (k : Int).toNat) = false := by rw [in2048 hk2, Int.toNat_natCast, plus_at _ _ _ hk2]; simp
      have e2 : (inB 2048 (k : Int) && !F (k : Int).toNat) = !F k := by rw [in2048 hk2, Int.toNat_natCast, Bool.true_and]
      have e4 : inI 2048 (plus 2048 (plus 2048 F k) k) (k : Int) = true := by rw [inI_at _ _ hk2, plus_at _ _ _ hk2]; simp
      have E := Lib.hid (⟨e2, e3, e4⟩ : _ ∧ _ ∧ _)
      clear e2 e3 e4 L
      have he : Hid (decide (nn = k) = ((k : Int) == (nn : Int))) := by
        by_cases e : k = nn
        · subst e; simp [Hid]
        · have e1 : ¬ nn = k := fun e' => e e'.symm
          have e2 : ¬ ((k : Int) = (nn : Int)) := by omega
          simp [Hid, e1, e2]
      rw [he.out] at hw
      clear he
      revert hw H1 E
      generalize hr : F k = r
      generalize hq : F nn = q
      generalize hz : ((k : Int) == (nn : Int)) = z
      have HZ := Lib.hid hz
      have HR := Lib.hid hr
      have HQ := Lib.hid hq
      clear hr hq
      intro hw H1 E
      cases r <;> cases q <;> cases z
      all_goals
        go_wp2_with fail
        refine H1.out.mono ?_
        rintro e w3 ⟨rfl, L, _⟩
        have H2 := Lib.hid (addL L h0.out k _ E.out.1)
        clear L
        go_wp2_with fail
        refine H2.out.mono ?_
        rintro e w4 ⟨rfl, L, _⟩
        have H3 := Lib.hid (addL L h0.out k _ E.out.2.1)
        clear L
        go_wp2_with fail
        refine H3.out.mono ?_
        rintro e w5 ⟨rfl, L, _⟩
        have H4 := Lib.hid (hasL L k _ E.out.2.2)
        clear L
        go_wp2_with fail
        refine H4.out.mono ?_
        rintro e w6 ⟨rfl, L, _⟩
        have L := Lib.hid L
        go_wp2
        go_roundw
        case rel => exact ⟨j + 1, _, by omega, by go_num, by rw [hw.out]; rfl, L⟩
        case measure => simp [intOf]; omega
    · go_wp2
      clear hlt hj HX
      go_loopw [8, 12, 13, 14] (fun want i _ _ wr => ∃ (k : Nat) (F : Nat → Bool), k ≤ ys.length ∧ i = .int .i64 k ∧ want = .bool (F nn) ∧ Hid (Live w wr b g 2048 F)) (fun _ i _ _ _ => ys.length - (intOf i).toNat)
      case atStart => exact ⟨0, F, Nat.zero_le _, rfl, rfl, L⟩
      case round =>
        clear L
        obtain ⟨j, F, hj, rfl, rfl, L⟩ := hrel
        by_cases hlt : j < ys.length
        · obtain ⟨gb, off, v, rfl, hgb, hc, hv⟩ := (Rd.live HY.out.1 L.out).at_ hlt
          have hv16 : 0 ≤ v ∧ v ≤ 65535 := by
            have := hv.out
            rw [List.getElem?_eq_getElem hlt] at this
            exact HY.out.2 v (by rw [← this]; exact List.getElem_mem hlt)
          obtain ⟨hv0, hv1⟩ := hv16
          obtain ⟨k, hk, hk2⟩ : ∃ q : Nat, v % 2048 = (q : Int) ∧ q < 2048 := ⟨(v % 2048).toNat, by omega, by omega⟩
          have hkn : (k : Int) ≤ 2047 := by omega
          clear hv HY
          have hw : Hid (minus (minus F k) k nn = (F nn && !decide (nn = k))) := by rw [Hid, minus_at, minus_at]; cases F nn <;> cases decide (nn = k) <;> rfl
          have H1 := Lib.hid (hasL L.out k _ (inI_at F k hk2))
          have e3 : inI 2048 (minus F k) (k : Int) = false := by rw [inI_at _ _ hk2, minus_at]; simp
          have e4 : inI 2048 (minus (minus F k) k) (k : Int) = false := by rw [inI_at _ _ hk2, minus_at]; simp
          have E := Lib.hid (⟨inI_at F k hk2, e3, e4⟩ : _ ∧ _ ∧ _)
          clear e3 e4 L
          have he : Hid ((!decide (nn = k)) = ((k : Int) != (nn : Int))) := by
            by_cases e : k = nn
            · subst e; simp [Hid]
            · have e1 : ¬ nn = k := fun e' => e e'.symm
              have e2 : ¬ ((k : Int) = (nn : Int)) := by omega
              simp [Hid, e1, e2]
          rw [he.out] at hw
          clear he
          revert hw H1 E
          generalize hr : F k = r
          generalize hq : F nn = q
          generalize hz : ((k : Int) != (nn : Int)) = z
          have HR := Lib.hid hr
          have HQ := Lib.hid hq
          clear hr hq
          intro hw H1 E
          cases r <;> cases q <;> cases z
          all_goals
            go_wp2_with fail
            refine H1.out.mono ?_
            rintro e w3 ⟨rfl, L, _⟩
            have H2 := Lib.hid (dropL L h0.out k _ E.out.1)
            clear L
            go_wp2_with fail
            refine H2.out.mono ?_
            rintro e w4 ⟨rfl, L, _⟩
            have H3 := Lib.hid (dropL L h0.out k _ E.out.2.1)
            clear L
            go_wp2_with fail
            refine H3.out.mono ?_
            rintro e w5 ⟨rfl, L, _⟩
            have H4 := Lib.hid (hasL L k _ E.out.2.2)
            clear L
            go_wp2_with fail
            refine H4.out.mono ?_
            rintro e w6 ⟨rfl, L, _⟩
            have L := Lib.hid L
            go_wp2
            go_roundw
            case rel => exact ⟨j + 1, _, by omega, by go_num, by rw [hw.out]; rfl, L⟩
            case measure => simp [intOf]; omega
        · have H1 := Lib.hid (hasL L.out nn _ (inI_at F nn hn2))
          revert H1
          generalize F nn = q
          intro H1
          cases q
          all_goals
            go_wp2_with fail
            refine H1.out.mono ?_
            rintro e w3 ⟨rfl, L, _⟩
            have L := Lib.hid L
            go_wp2
            go_ret
            exact ⟨rfl, L.out.bel⟩
end Go.Proofs.YtgcclijdkcomiaaDoor
