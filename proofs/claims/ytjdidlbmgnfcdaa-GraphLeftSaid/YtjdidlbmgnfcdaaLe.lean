/- The walks of the program's Hops and Reached. -/
import Derived.Test.YtjdidlbmgnfcdaaLd
import Derived.Test.YtjdidlbmgnfcdaaLc
import Derived.Test.YtjdidlbmgnfcdaaLb
import Derived.Test.YtjdidlbmgnfcdaaKj
import Derived.Test.YtjdidlbmgnfcdaaKr
namespace Go.Proofs.Ytjdidlbmgnfcdaa
open Go.RowKit
set_option linter.unusedVariables false
set_option maxRecDepth 100000 in
set_option maxHeartbeats 4000000 in
theorem hops_any (A : Option Addr) (c : Nat) (L : List Gn) (s : Int) (w : World) (hx : GArg w A L) :
    Calls Try.prog 26 #[.agg #[.slice A L.length c, .int .i64 s]] w (IAns w (hopsA (pns L) s) (errG (holdsB (pns L) s))) := by
  have hs : ∀ x ∈ pns L, x.2.2.length ≤ 20000 := fun x h => (hx.sm.at_ h).2
  have hl : L.length ≤ 20000 := by have := hx.sm.len; rwa [pns_len] at this
  have HX := Lib.hid hx
  have HSM := Lib.hid hs
  have HL := Lib.hid (pns_len L)
  clear hx hs
  have HO := Lib.hid (fun W (h : Below w.heap.size w W) => holds_any A c L s W _ h.size (HX.out.rd.below h) hl HSM.out)
  cases hh : holdsB (pns L) s with
  | false =>
    rw [hh] at HO
    have E := Lib.hid (show hopsA (pns L) s = [] by unfold hopsA; rw [hh]; rfl)
    rw [E.out]
    clear hh
    go_enter Try.func26, Try.ntmps26
    go_wp2_with (go_at_call 28; refine (HO.out _ (below_one (Below.refl _ _) _)).mono ?_; rintro e w1 ⟨rfl, b1⟩; have z0 := (Whole.new w 24 #[.slice A L.length c, .int .i64 s]).below b1 (Whole.new w 24 #[.slice A L.length c, .int .i64 s]).lt; have zc0 : w1.cell? ⟨w.heap.size, 0, none⟩ = some (.slice A L.length c) := z0.cell 0; have zc1 : w1.cell? ⟨w.heap.size, 1, none⟩ = some (.int .i64 s) := z0.cell 1; have b1 := (below_one (Below.refl w.heap.size w) (.cells #[.slice A L.length c, .int .i64 s] 24)).trans (b1.mono (by rw [World.size_alloc]; omega)))
    go_ret2
    exact IAns.nil _ _ b1
  | true =>
    rw [hh] at HO
    have E := Lib.hid (show hopsA (pns L) s = hopsL (pns L) s by unfold hopsA; rw [hh]; rfl)
    have HLN := Lib.hid (show (hopsL (pns L) s).length = L.length by rw [hopsL_len, pns_len])
    rw [E.out]
    have HH := Lib.hid hh
    clear hh
    by_cases h0 : L.length = 0
    · have e2 : ((L.length : Int) == 0) = true := beq_iff_eq.2 (by omega)
      have HE : Hid (hopsL (pns L) s = []) := Lib.hid (List.length_eq_zero_iff.1 (by rw [HLN.out]; exact h0))
      rw [HE.out]
      clear h0
      go_enter Try.func26, Try.ntmps26
      go_wp2_with (go_at_call 28; refine (HO.out _ (below_one (Below.refl _ _) _)).mono ?_; rintro e w1 ⟨rfl, b1⟩; have z0 := (Whole.new w 24 #[.slice A L.length c, .int .i64 s]).below b1 (Whole.new w 24 #[.slice A L.length c, .int .i64 s]).lt; have zc0 : w1.cell? ⟨w.heap.size, 0, none⟩ = some (.slice A L.length c) := z0.cell 0; have zc1 : w1.cell? ⟨w.heap.size, 1, none⟩ = some (.int .i64 s) := z0.cell 1; have b1 := (below_one (Below.refl w.heap.size w) (.cells #[.slice A L.length c, .int .i64 s] 24)).trans (b1.mono (by rw [World.size_alloc]; omega)))
      go_ret2
      exact IAns.nil _ _ b1
    · have e2 : ((L.length : Int) == 0) = false := by rw [beq_eq_false_iff_ne]; omega
      have hst := (holdsB_yes HH.out).start (by rw [HL.out]; omega)
      obtain ⟨sN, rfl⟩ := Int.eq_ofNat_of_zero_le hst.1
      have HT := Lib.hid (fun W (h : Below w.heap.size w W) => steps_any repeat_any A c L sN W _ h.size (HX.out.rd.below h) HH.out (by omega) HSM.out)
      clear hst h0
      go_enter Try.func26, Try.ntmps26
      go_wp2_with (first
        | (go_at_call 28; refine (HO.out _ (below_one (Below.refl _ _) _)).mono ?_; rintro e w1 ⟨rfl, b1⟩; have z0 := (Whole.new w 24 #[.slice A L.length c, .int .i64 (sN : Int)]).below b1 (Whole.new w 24 #[.slice A L.length c, .int .i64 (sN : Int)]).lt; have zc0 : w1.cell? ⟨w.heap.size, 0, none⟩ = some (.slice A L.length c) := z0.cell 0; have zc1 : w1.cell? ⟨w.heap.size, 1, none⟩ = some (.int .i64 (sN : Int)) := z0.cell 1; have b1 := (below_one (Below.refl w.heap.size w) (.cells #[.slice A L.length c, .int .i64 (sN : Int)] 24)).trans (b1.mono (by rw [World.size_alloc]; omega)))
        | (go_at_call 45; refine (HT.out _ b1).mono ?_; rintro e w2 ⟨g1, rfl, h1, hH, b2⟩))
      go_ret2
      have hsz : (cellsI (hopsL (pns L) (sN : Int))).size = L.length := by unfold cellsI; simp [HLN.out]
      have ho := whole_rowK (n := L.length) (base := w.heap.size) hH hsz (Nat.le_refl _) (by omega) (Nat.le_trans b1.size h1)
      have e2 : (cellsI (hopsL (pns L) (sN : Int))).toList.take L.length = (hopsL (pns L) (sN : Int)).map (Value.int .i64) := by
        unfold cellsI
        rw [List.take_of_length_le (by simp [HLN.out])]
      rw [e2] at ho
      exact ⟨some ⟨g1, 0, none⟩, L.length, by rw [HLN.out]; rfl, by rw [HLN.out]; exact ho, b1.trans (b2.mono b1.size)⟩
theorem hopsA_at {G : List Pn} {s : Int} {k : Nat} (h : k < (hopsA G s).length) : hAt (hopsA G s) k = hopI G s.toNat k := by
  unfold hopsA at h ⊢
  split at h
  · rename_i hh
    rw [if_pos hh]
    rw [hopsL_len] at h
    unfold hAt; rw [hopsL_at h]; rfl
  · simp at h
theorem reachedA_K (G : List Pn) (s : Int) : reachedA G s = reachK G s (hopsA G s).length := by
  unfold reachedA hopsA
  split
  · rw [hopsL_len]; rfl
  · rfl
theorem hopsA_le (G : List Pn) (s : Int) : (hopsA G s).length ≤ G.length := by
  unfold hopsA; split
  · rw [hopsL_len]; exact Nat.le_refl _
  · simp
theorem errG_wf (b : Bool) : errG b = 0 ∨ errG b = 1 := by cases b <;> simp [errG]
set_option maxRecDepth 100000 in
set_option maxHeartbeats 4000000 in
theorem reached_any (A : Option Addr) (c : Nat) (L : List Gn) (s : Int) (w : World) (hx : GArg w A L) :
    Calls Try.prog 24 #[.agg #[.slice A L.length c, .int .i64 s]] w (IAns w (reachedA (pns L) s) (errG (holdsB (pns L) s))) := by
  have hl : (hopsA (pns L) s).length ≤ 20000 := by have := hx.sm.len; have := hopsA_le (pns L) s; omega
  have b0 : Below w.heap.size w (w.alloc (.cells #[.slice A L.length c, .int .i64 s] 24)) := below_one (Below.refl _ _) _
  have H := Lib.hid (hops_any A c L s (w.alloc (.cells #[.slice A L.length c, .int .i64 s] 24)) (hx.below b0))
  have HB0 := Lib.hid b0
  have HK := Lib.hid (reachedA_K (pns L) s)
  have HA := Lib.hid (fun k => hopsA_at (G := pns L) (s := s) (k := k))
  rw [HK.out]
  obtain ⟨E, eE⟩ : ∃ E, errG (holdsB (pns L) s) = E := ⟨_, rfl⟩
  rw [eE] at H ⊢
  obtain ⟨HP, eH⟩ : ∃ HP, hopsA (pns L) s = HP := ⟨_, rfl⟩
  rw [eH] at H HA hl
  rw [eH]
  obtain ⟨i0, hi, hz0, hz1, hz2⟩ := info_parts Try.info3
  clear hx b0 eE eH HK
  go_enter Try.func24, Try.ntmps24
  go_wp2_with (go_at_call 26; refine H.out.mono ?_; rintro e w2 ⟨V, vc, rfl, hown, b2⟩)
  have HB2 := Lib.hid (HB0.out.trans (b2.mono HB0.out.size))
  have HO := Lib.hid hown
  have C0 : Hid (w2.ownsRow w2.heap.size 3 1 (.slice none 0 0) (reachK (pns L) s 0).length ((reachK (pns L) s 0).map (Value.int .i64))) := Lib.hid (own_nil_row _ _ _)
  have C1 : Hid (Below w2.heap.size w2 w2) := Lib.hid (Below.refl _ _)
  clear b2 hown HB0
  go_loopw [6, 7, 8, 16] (fun l _ _ i wr => ∃ (k : Nat) (VA : Option Addr) (vc : Nat), k ≤ HP.length ∧ i = .int .i64 k ∧ l = .slice VA (reachK (pns L) s k).length vc ∧ Hid (wr.ownsRow w2.heap.size 3 1 (.slice VA (reachK (pns L) s k).length vc) (reachK (pns L) s k).length ((reachK (pns L) s k).map (Value.int .i64))) ∧ Hid (Below w2.heap.size w2 wr)) (fun _ _ _ i _ => HP.length - (intOf i).toNat)
  case atStart => exact ⟨0, none, 0, by omega, rfl, rfl, C0, C1⟩
  case round =>
    clear C0 C1
    obtain ⟨k, VA, vc, hk, rfl, rfl, HR, HB⟩ := hrel
    have hsz := HB.out.size
    by_cases hlt : k < HP.length
    · have e1 : decide ((k : Int) < (HP.length : Int)) = true := decide_eq_true (by omega)
      obtain ⟨b, off, t, rfl, hBb, hc, hv⟩ := (own_rdK HO.out).at_ hlt
      have et : t = hopI (pns L) s.toNat k := by rw [← HA.out k hlt]; unfold hAt; rw [← hv.out, List.getElem?_eq_getElem hlt]; rfl
      have hc' : wr.cell? ⟨b, off + k, none⟩ = some (.int .i64 t) := (HB.out.cell (p := ⟨b, off + k, none⟩) hBb).trans hc
      have x1 : (0 : Int) ≤ (k : Int) := by omega
      have x2 : (k : Int) < (HP.length : Int) := by omega
      have hge := hop_ge (pns L) s.toNat k
      rw [← et] at hge
      clear hc hv
      by_cases hp : 0 ≤ t
      · have HS := Lib.hid (reachK_yes (G := pns L) (s := s) (k := k) (by rw [← et]; exact hp))
        have hln := reachK_len (pns L) s k
        have e2 : (t != -1) = true := by simp; omega
        obtain ⟨RK, eRK⟩ : ∃ RK, reachK (pns L) s k = RK := ⟨_, rfl⟩
        rw [eRK] at HR HS hln ⊢
        clear hp eRK et hge
        go_wp2_with (at_builtin; refine wpList_append_own _ rfl _ _ 27 rfl w2.heap.size 3 i0 (.int .i64 0) 1 8 Try.underlying27 hi hz0 hz1 hz2 rfl (by decide) _ _ _ rfl (HR.out.alloc _) ⟨wr.heap.size, 0, none⟩ 1 1 [.int .i64 (k : Int)] rfl rfl (cell_one_new _ _ _) (by simp [Value.oneCell']) (by show RK.length + 1 ≤ 9223372036854775807; omega) (by omega) (by rw [World.size_alloc]; omega) ?_; intro v' w3 hown' hgrow _)
        obtain ⟨V4, m4, c4, rfl⟩ := own_form hown'
        obtain rfl := own_len hown'
        have b3 := Lib.hid ((HB.out.alloc hsz (.cells #[.int .i64 (k : Int)] 3)).grown hgrow (by rw [World.size_alloc]; omega) (fun r hr => (HR.out.lt r hr).1))
        have hq : RK.length + 1 = (reachK (pns L) s (k + 1)).length := by rw [HS.out]; simp
        have HR2 : Hid (w3.ownsRow w2.heap.size 3 1 (.slice V4 (reachK (pns L) s (k + 1)).length c4) (reachK (pns L) s (k + 1)).length ((reachK (pns L) s (k + 1)).map (Value.int .i64))) := Lib.hid (by
          rw [← hq, HS.out, List.map_append]; exact hown')
        clear hown' hgrow
        go_roundw
        case rel => exact ⟨k + 1, V4, c4, by omega, by go_num, by rw [hq], HR2, b3⟩
        case measure => simp [intOf]; omega
      · have HS := Lib.hid (reachK_no (G := pns L) (s := s) (k := k) (by rw [← et]; exact hp))
        have e2 : (t != -1) = false := by simp; omega
        clear hp et hge
        go_wp2
        go_roundw
        case rel => exact ⟨k + 1, VA, vc, by omega, by go_num, by rw [HS.out], by rw [HS.out]; exact HR, HB⟩
        case measure => simp [intOf]; omega
    · obtain rfl : k = HP.length := by omega
      have e1 : decide ((HP.length : Int) < (HP.length : Int)) = false := decide_eq_false (by omega)
      go_wp2
      go_ret2
      exact ⟨VA, vc, rfl, own_base HR.out HB2.out.size, HB2.out.trans (HB.out.mono HB2.out.size)⟩
end Go.Proofs.Ytjdidlbmgnfcdaa
