/- The walks of the program's placesWithout and follow. -/
import Derived.Test.YtkmngbkghgelfaaLb
import Derived.Test.YtkmngbkghgelfaaLe
namespace Go.Proofs.Ytkmngbkghgelfaa
open Go.RowKit
set_option linter.unusedVariables false
/-- Where each place comes to, reckoned as far as place j; -1 where it is gone. -/
def mvA (n : Nat) (P : List Int) (j : Nat) : List Int := (List.range n).map fun i => if goneAt P i then -1 else if i < j then ((toN P i : Nat) : Int) else 0
theorem mvA_len (n : Nat) (P : List Int) (j : Nat) : (mvA n P j).length = n := by simp [mvA]
theorem mvA_at {n : Nat} {P : List Int} {j i : Nat} (h : i < n) : hAt (mvA n P j) i = if goneAt P i then -1 else if i < j then ((toN P i : Nat) : Int) else 0 := by
  unfold hAt mvA; simp [h]
theorem mvA_zero (n : Nat) : mvA n [] 0 = List.replicate n 0 := by
  apply List.ext_getElem?
  intro i
  by_cases h : i < n <;> simp [mvA, goneAt, h]
theorem goneAt_snoc (P : List Int) (p i : Nat) : goneAt (P ++ [(p : Int)]) i = (goneAt P i || decide (i = p)) := by
  unfold goneAt
  have e : ((i : Int) = (p : Int)) ↔ i = p := by omega
  rw [← Bool.decide_or, decide_eq_decide, List.mem_append, List.mem_singleton, e]
theorem mvA_drop {n : Nat} {P : List Int} {p : Nat} (h : p < n) : (mvA n P 0).set p (-1) = mvA n (P ++ [(p : Int)]) 0 := by
  apply List.ext_getElem?
  intro i
  by_cases hp : p = i
  · subst hp; simp [mvA, goneAt_snoc, h]
  · rw [List.getElem?_set_ne hp]
    by_cases h1 : i < n
    · have : ¬ (i = p) := fun e => hp e.symm
      simp [mvA, goneAt_snoc, h1, this]
    · simp [mvA, h1]
theorem mvA_yes {n : Nat} {P : List Int} {j : Nat} (hg : goneAt P j = true) : mvA n P (j + 1) = mvA n P j := by
  unfold mvA
  refine List.map_congr_left (fun i hi => ?_)
  by_cases h : i = j
  · subst h; simp [hg]
  · have : (i < j + 1) ↔ (i < j) := by omega
    simp only [this]
theorem mvA_no {n : Nat} {P : List Int} {j : Nat} (hj : j < n) (hg : goneAt P j = false) : (mvA n P j).set j ((toN P j : Nat) : Int) = mvA n P (j + 1) := by
  apply List.ext_getElem?
  intro i
  by_cases hp : j = i
  · subst hp; simp [mvA, hj, hg]
  · rw [List.getElem?_set_ne hp]
    by_cases h1 : i < n
    · have : (i < j + 1) ↔ (i < j) := by omega
      simp [mvA, h1, this]
    · simp [mvA, h1]
/-- Where the places come to, or that they may not be dropped. -/
def PWAns (w : World) (n : Nat) (P : List Int) (e : Ending) (w' : World) : Prop :=
  (OkTo n P ∧ ∃ g, e = .returned (.tuple #[.slice (some ⟨g, 0, none⟩) n n, .bool true]) ∧ w.heap.size ≤ g ∧ Whole w' g 3 (cellsI (mvA n P n)) ∧ Below w.heap.size w w') ∨
  (¬ OkTo n P ∧ e = .returned (.tuple #[.slice none 0 0, .bool false]) ∧ Below w.heap.size w w')
set_option maxRecDepth 100000 in
set_option maxHeartbeats 4000000 in
theorem placesWithout_any (B : Option Addr) (d : Nat) (P : List Int) (q n : Nat) (hq : q = P.length) (w : World) (hp : Rd .i64 w w.heap.size B P) (hP : P.length ≤ 100000000) (hn : n ≤ 2048) :
    Calls Try.prog 22 #[.slice B q d, .int .i64 (n : Int)] w (PWAns w n P) := by
  subst hq
  have HP := Lib.hid hp
  have hmk : ∀ W : World, (Instr.makeSlice 29 (.int .i64 (n : Int)) (.int .i64 (n : Int))).run Try.prog W = .ok (.slice (some ⟨W.heap.size, 0, none⟩) n n) (W.alloc (.cells (cellsI (mvA n [] 0)) 3)) := fun W => by
    have := run_make_row' (P := Try.prog) 29 3 (.int .i64 0) 8 Try.underlying29 Try.info3 (by rfl) .i64 .i64 n (by omega) (by omega) W
    rw [cellsI_made, ← mvA_zero] at this
    exact this
  have HIP := Lib.hid (fun (t : Int) (W : World) => isPlace_any t (n : Int) W)
  have HW0 := Lib.hid (Whole.new w 3 (cellsI (mvA n [] 0)))
  have HB0 := Lib.hid (below_one (Below.refl w.heap.size w) (.cells (cellsI (mvA n [] 0)) 3))
  clear hp
  go_enter Try.func22, Try.ntmps22
  go_wp2
  obtain ⟨w1, ew1⟩ : ∃ w1, w.alloc (.cells (cellsI (mvA n [] 0)) 3) = w1 := ⟨_, rfl⟩
  obtain ⟨g, eg⟩ : ∃ g, w.heap.size = g := ⟨_, rfl⟩
  have HG := Lib.hid eg
  rw [ew1, eg] at HW0
  rw [ew1] at HB0
  rw [ew1, eg]
  clear ew1 eg hmk
  go_loopw [8, 16] (fun _ i wr => ∃ k : Nat, k ≤ P.length ∧ i = .int .i64 k ∧ Hid (Whole wr g 3 (cellsI (mvA n (P.take k) 0))) ∧ Hid (Below w.heap.size w wr) ∧ Hid (OkTo n (P.take k))) (fun _ i _ => P.length - (intOf i).toNat)
  case atStart => exact ⟨0, by omega, rfl, HW0, HB0, OkTo.nil n⟩
  case round =>
    clear HW0 HB0
    obtain ⟨k, hk, rfl, HW, HB, HOK⟩ := hrel
    by_cases hlt : k < P.length
    · have e1 : decide ((k : Int) < (P.length : Int)) = true := decide_eq_true (by omega)
      obtain ⟨b, off, p, rfl, hBb, hc, hv⟩ := HP.out.at_ hlt
      have ep : P[k]? = some p := by rw [← hv.out, List.getElem?_eq_getElem hlt]; rfl
      have hc' : wr.cell? ⟨b, off + k, none⟩ = some (.int .i64 p) := (HB.out.cell (p := ⟨b, off + k, none⟩) hBb).trans hc
      have x1 : (0 : Int) ≤ (k : Int) := by omega
      have x2 : (k : Int) < (P.length : Int) := by omega
      have EP := Lib.hid ep
      clear hc hv
      by_cases hpl : 0 ≤ p ∧ p < (n : Int)
      · have q1 : decide (0 ≤ p ∧ p < (n : Int)) = true := decide_eq_true hpl
        have HP1 := Lib.hid (fun W => HIP.out p W)
        rw [q1] at HP1
        obtain ⟨pN, rfl⟩ := Int.eq_ofNat_of_zero_le hpl.1
        have hpN : pN < n := by omega
        have x3 : (0 : Int) ≤ (pN : Int) := by omega
        have x4 : (pN : Int) < (n : Int) := by omega
        have cm : wr.cell? ⟨g, pN, none⟩ = some (.int .i64 (hAt (mvA n (P.take k) 0) pN)) := (HW.out.cell pN).trans (cellsI_at (by rw [mvA_len]; exact hpN))
        have fm := HW.out.frozen pN
        have etk : P.take (k + 1) = P.take k ++ [(pN : Int)] := by rw [List.take_add_one, ep]; rfl
        by_cases hgone : goneAt (P.take k) pN = true
        · have hm : hAt (mvA n (P.take k) 0) pN = -1 := by rw [mvA_at hpN, if_pos hgone]
          rw [hm] at cm
          have HF := Lib.hid (okTo_twice (n := n) ep hgone)
          clear ep q1 hpl hm hgone
          go_wp2_with (go_at_call 37; refine (HP1.out _).mono ?_; rintro e w' ⟨rfl, rfl⟩)
          go_ret2
          exact .inr ⟨HF.out, rfl, HB.out⟩
        · have hgf : goneAt (P.take k) pN = false := by simpa using hgone
          have hm : hAt (mvA n (P.take k) 0) pN = 0 := by rw [mvA_at hpN, hgf]; simp
          rw [hm] at cm
          have HW2 := HW.out.set pN (.int .i64 (-1))
          rw [cellsI_set, mvA_drop hpN, ← etk] at HW2
          have HN2 := Lib.hid HW2
          have HB2 := Lib.hid (HB.out.setCell (p := ⟨g, pN, none⟩) (by rw [← HG.out]; exact Nat.le_refl _) (.int .i64 (-1)))
          have HK2 : Hid (OkTo n (P.take (k + 1))) := Lib.hid (by rw [etk]; exact HOK.out.snoc hpN hgf)
          clear ep q1 hpl hm hgone hgf etk HW2
          go_wp2_with (go_at_call 37; refine (HP1.out _).mono ?_; rintro e w' ⟨rfl, rfl⟩)
          exact ⟨⟨k + 1, by omega, by go_num, HN2, HB2, HK2⟩, by simp [intOf]; omega⟩
      · have q1 : decide (0 ≤ p ∧ p < (n : Int)) = false := decide_eq_false hpl
        have HP1 := Lib.hid (fun W => HIP.out p W)
        rw [q1] at HP1
        have HF := Lib.hid (okTo_range ep hpl)
        clear ep q1 hpl
        go_wp2_with (go_at_call 37; refine (HP1.out _).mono ?_; rintro e w' ⟨rfl, rfl⟩)
        go_ret2
        exact .inr ⟨HF.out, rfl, HB.out⟩
    · obtain rfl : k = P.length := by omega
      have e1 : decide ((P.length : Int) < (P.length : Int)) = false := decide_eq_false (by omega)
      rw [List.take_length] at HW HOK
      go_wp2
      go_loopw [9, 10, 11, 37] (fun l _ _ i wz => ∃ j : Nat, j ≤ n ∧ i = .int .i64 j ∧ l = .int .i64 ((toN P j : Nat) : Int) ∧ Hid (Whole wz g 3 (cellsI (mvA n P j))) ∧ Hid (Below w.heap.size w wz)) (fun _ _ _ i _ => n - (intOf i).toNat)
      case atStart => exact ⟨0, Nat.zero_le _, rfl, rfl, HW, HB⟩
      case round =>
        clear HW HB
        obtain ⟨j, hj, rfl, rfl, HW, HB⟩ := hrel
        by_cases hlt : j < n
        · have g1 : decide ((j : Int) < (n : Int)) = true := decide_eq_true (by omega)
          have y1 : (0 : Int) ≤ (j : Int) := by omega
          have y2 : (j : Int) < (n : Int) := by omega
          have cm : wr.cell? ⟨g, j, none⟩ = some (.int .i64 (hAt (mvA n P j) j)) := (HW.out.cell j).trans (cellsI_at (by rw [mvA_len]; exact hlt))
          have fm := HW.out.frozen j
          have htn := toN_le P j
          by_cases hgone : goneAt P j = true
          · have hm : hAt (mvA n P j) j = -1 := by rw [mvA_at hlt, if_pos hgone]
            rw [hm] at cm
            have E1 := Lib.hid (toN_yes hgone)
            have HW2 : Hid (Whole wr g 3 (cellsI (mvA n P (j + 1)))) := Lib.hid (by rw [mvA_yes hgone]; exact HW.out)
            clear hm hgone
            go_wp2
            go_roundw
            case rel => exact ⟨j + 1, by omega, by go_num, by rw [E1.out], HW2, HB⟩
            case measure => simp [intOf]; omega
          · have hgf : goneAt P j = false := by simpa using hgone
            have hm : hAt (mvA n P j) j = 0 := by rw [mvA_at hlt, hgf]; simp
            rw [hm] at cm
            have E1 := Lib.hid (toN_no hgf)
            have HW2 := HW.out.set j (.int .i64 ((toN P j : Nat) : Int))
            rw [cellsI_set, mvA_no hlt hgf] at HW2
            have HN2 := Lib.hid HW2
            have HB2 := Lib.hid (HB.out.setCell (p := ⟨g, j, none⟩) (by rw [← HG.out]; exact Nat.le_refl _) (.int .i64 ((toN P j : Nat) : Int)))
            obtain ⟨tj, etj⟩ : ∃ tj, toN P j = tj := ⟨_, rfl⟩
            rw [etj] at HN2 HB2 E1 htn ⊢
            clear hm hgone hgf HW2 etj
            go_wp2
            go_roundw
            case rel => exact ⟨j + 1, by omega, by go_num, by rw [E1.out]; go_num, HN2, HB2⟩
            case measure => simp [intOf]; omega
        · obtain rfl : j = n := by omega
          have g1 : decide ((j : Int) < (j : Int)) = false := decide_eq_false (by omega)
          go_wp2
          go_ret2
          exact .inl ⟨HOK.out, g, rfl, Nat.le_of_eq HG.out, HW.out, HB.out⟩
end Go.Proofs.Ytkmngbkghgelfaa
