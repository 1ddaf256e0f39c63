/- The walk of the program's follow. -/
import Derived.Test.YtkmngbkghgelfaaLh
namespace Go.Proofs.Ytkmngbkghgelfaa
open Go.RowKit
set_option linter.unusedVariables false
set_option maxRecDepth 100000 in
set_option maxHeartbeats 4000000 in
theorem follow_any (B : Option Addr) (d : Nat) (o P : List Int) (q n g : Nat) (hq : q = o.length) (w : World) (D : Nat) (hD : D ≤ w.heap.size) (hp : Rd .i64 w D B o) (ho : o.length ≤ 1000000) (hm : Whole w g 3 (cellsI (mvA n P n))) (hn : n ≤ 2048) (hr : ∀ p ∈ o, 0 ≤ p ∧ p < (n : Int)) :
    Calls Try.prog 24 #[.slice B q d, .slice (some ⟨g, 0, none⟩) n n] w fun e w' => ∃ V c, e = .returned (.slice V (keepO P o).length c) ∧ w'.ownsRow w.heap.size 3 1 (.slice V (keepO P o).length c) (keepO P o).length ((keepO P o).map (Value.int .i64)) ∧ Below w.heap.size w w' := by
  subst hq
  have HP := Lib.hid hp
  have HM := Lib.hid hm
  have HR := Lib.hid hr
  obtain ⟨i0, hi, hz0, hz1, hz2⟩ := info_parts Try.info3
  have C0 : Hid (w.ownsRow w.heap.size 3 1 (.slice none 0 0) (keepO P (o.take 0)).length ((keepO P (o.take 0)).map (Value.int .i64))) := Lib.hid (own_nil_row _ _ _)
  have C1 : Hid (Below w.heap.size w w) := Lib.hid (Below.refl _ _)
  clear hp hm hr
  go_enter Try.func24, Try.ntmps24
  go_wp2
  go_loopw [5, 7, 10] (fun l _ i wr => ∃ (k : Nat) (VA : Option Addr) (vc : Nat), k ≤ o.length ∧ i = .int .i64 k ∧ l = .slice VA (keepO P (o.take k)).length vc ∧ Hid (wr.ownsRow w.heap.size 3 1 (.slice VA (keepO P (o.take k)).length vc) (keepO P (o.take k)).length ((keepO P (o.take k)).map (Value.int .i64))) ∧ Hid (Below w.heap.size w wr)) (fun _ _ i _ => o.length - (intOf i).toNat)
  case atStart => exact ⟨0, none, 0, by omega, rfl, rfl, C0, C1⟩
  case round =>
    clear C0 C1
    obtain ⟨k, VA, vc, hk, rfl, rfl, HO, HB⟩ := hrel
    have hsz := HB.out.size
    by_cases hlt : k < o.length
    · have e1 : decide ((k : Int) < (o.length : Int)) = true := decide_eq_true (by omega)
      obtain ⟨b, off, p, rfl, hBb, hc, hv⟩ := HP.out.at_ hlt
      have ep : o[k]? = some p := by rw [← hv.out, List.getElem?_eq_getElem hlt]; rfl
      have hpr := HR.out p (List.mem_of_getElem? ep)
      obtain ⟨pN, rfl⟩ := Int.eq_ofNat_of_zero_le hpr.1
      have hpN : pN < n := by omega
      have hc' : wr.cell? ⟨b, off + k, none⟩ = some (.int .i64 (pN : Int)) := ((HB.out.mono hD).cell (p := ⟨b, off + k, none⟩) hBb).trans hc
      have x1 : (0 : Int) ≤ (k : Int) := by omega
      have x2 : (k : Int) < (o.length : Int) := by omega
      have x3 : (0 : Int) ≤ (pN : Int) := by omega
      have x4 : (pN : Int) < (n : Int) := by omega
      have cm : wr.cell? ⟨g, pN, none⟩ = some (.int .i64 (hAt (mvA n P n) pN)) := ((HM.out.below HB.out HM.out.lt).cell pN).trans (cellsI_at (by rw [mvA_len]; exact hpN))
      have hln : (keepO P (o.take k)).length ≤ k := by have := keepO_len P (o.take k); rw [List.length_take] at this; omega
      clear hc hv hpr
      by_cases hgone : goneAt P pN = true
      · have hm : hAt (mvA n P n) pN = -1 := by rw [mvA_at hpN, if_pos hgone]
        rw [hm] at cm
        have HS := Lib.hid (keepO_yes ep hgone)
        clear ep hm hgone
        go_wp2
        go_roundw
        case rel => exact ⟨k + 1, VA, vc, by omega, by go_num, by rw [HS.out], by rw [HS.out]; exact HO, HB⟩
        case measure => simp [intOf]; omega
      · have hgf : goneAt P pN = false := by simpa using hgone
        have hm : hAt (mvA n P n) pN = ((toN P pN : Nat) : Int) := by rw [mvA_at hpN, hgf]; simp [hpN]
        rw [hm] at cm
        have HS := Lib.hid (keepO_no ep hgf)
        obtain ⟨tp, etp⟩ : ∃ tp, toN P pN = tp := ⟨_, rfl⟩
        rw [etp] at cm HS
        have e2 : (((tp : Nat) : Int) != -1) = true := by rw [bne_iff_ne]; omega
        obtain ⟨RK, eRK⟩ : ∃ RK, keepO P (o.take k) = RK := ⟨_, rfl⟩
        rw [eRK] at HO HS hln ⊢
        clear ep hm hgone hgf etp eRK
        go_wp2_with (at_builtin; refine wpList_append_own _ rfl _ _ 29 rfl w.heap.size 3 i0 (.int .i64 0) 1 8 Try.underlying29 hi hz0 hz1 hz2 rfl (by decide) _ _ _ rfl (HO.out.alloc _) ⟨wr.heap.size, 0, none⟩ 1 1 [.int .i64 (tp : Int)] rfl rfl (cell_one_new _ _ _) (by simp [Value.oneCell']) (by show RK.length + 1 ≤ 9223372036854775807; omega) (by omega) (by rw [World.size_alloc]; omega) ?_; intro v' w3 hown' hgrow _)
        obtain ⟨V4, m4, c4, rfl⟩ := own_form hown'
        obtain rfl := own_len hown'
        have b3 := Lib.hid ((HB.out.alloc hsz (.cells #[.int .i64 (tp : Int)] 3)).grown hgrow (by rw [World.size_alloc]; omega) (fun r hr => (HO.out.lt r hr).1))
        have hq : RK.length + 1 = (keepO P (o.take (k + 1))).length := by rw [HS.out]; simp
        have HR2 : Hid (w3.ownsRow w.heap.size 3 1 (.slice V4 (keepO P (o.take (k + 1))).length c4) (keepO P (o.take (k + 1))).length ((keepO P (o.take (k + 1))).map (Value.int .i64))) := Lib.hid (by
          rw [← hq, HS.out, List.map_append]; exact hown')
        clear hown' hgrow
        go_roundw
        case rel => exact ⟨k + 1, V4, c4, by omega, by go_num, by rw [hq], HR2, b3⟩
        case measure => simp [intOf]; omega
    · obtain rfl : k = o.length := by omega
      have e1 : decide ((o.length : Int) < (o.length : Int)) = false := decide_eq_false (by omega)
      rw [List.take_length] at HO ⊢
      go_wp2
      go_ret
      exact ⟨VA, vc, rfl, HO.out, HB.out⟩
end Go.Proofs.Ytkmngbkghgelfaa
