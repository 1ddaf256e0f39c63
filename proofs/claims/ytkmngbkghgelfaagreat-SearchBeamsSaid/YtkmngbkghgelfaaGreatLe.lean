/- The walks of the program's Hops and Reached. -/
import Derived.Test.YtkmngbkghgelfaaGreatLd
import Derived.Test.YtkmngbkghgelfaaGreatLb
import Derived.Test.YtkmngbkghgelfaaGreatKj
import Derived.Test.YtkmngbkghgelfaaGreatKr
namespace Go.Proofs.YtkmngbkghgelfaaGreat
open Go.RowKit
set_option linter.unusedVariables false
set_option maxRecDepth 100000 in
set_option maxHeartbeats 4000000 in
theorem hops_any (A : Option Addr) (c : Nat) (L : List Gn) (s : Int) (w : World) (hx : GArg w A L) :
    Calls Tryz.prog 75 #[.agg #[.slice A L.length c, .int .i64 s]] w (IAns w (hopsA (pns L) s) (errG (holdsB (pns L) s))) := by
  have hs : ∀ x ∈ pns L, x.2.2.length ≤ 20000 := fun x h => (hx.sm.at_ h).2
  have hl : L.length ≤ 20000 := by have := hx.sm.len; rwa [pns_len] at this
  have HX := Lib.hid hx
  have HSM := Lib.hid hs
  have HL := Lib.hid (pns_len L)
  clear hx hs
  have HO := Lib.hid (fun W (h : Below w.heap.size w W) => holds_any A c L s W _ h.size (HX.out.rd.below h) hl HSM.out)
  cases hh : holdsB (pns L) s with
  | false =>
    rw [hh] at HO
    have E := Lib.hid (show hopsA (pns L) s = [] by unfold hopsA; rw [hh]; rfl)
    rw [E.out]
    clear hh
    go_enter Tryz.func75, Tryz.ntmps75
    go_wp2_with (go_at_call 118; refine (HO.out _ (below_one (Below.refl _ _) _)).mono ?_; rintro e w1 ⟨rfl, b1⟩; have z0 := (Whole.new w 24 #[.slice A L.length c, .int .i64 s]).below b1 (Whole.new w 24 #[.slice A L.length c, .int .i64 s]).lt; have zc0 : w1.cell? ⟨w.heap.size, 0, none⟩ = some (.slice A L.length c) := z0.cell 0; have zc1 : w1.cell? ⟨w.heap.size, 1, none⟩ = some (.int .i64 s) := z0.cell 1; have b1 := (below_one (Below.refl w.heap.size w) (.cells #[.slice A L.length c, .int .i64 s] 24)).trans (b1.mono (by rw [World.size_alloc]; omega)))
    go_ret2
    exact IAns.nil _ _ b1
  | true =>
    rw [hh] at HO
    have E := Lib.hid (show hopsA (pns L) s = hopsL (pns L) s by unfold hopsA; rw [hh]; rfl)
    have HLN := Lib.hid (show (hopsL (pns L) s).length = L.length by rw [hopsL_len, pns_len])
    rw [E.out]
    have HH := Lib.hid hh
    clear hh
    by_cases h0 : L.length = 0
    · have e2 : ((L.length : Int) == 0) = true := beq_iff_eq.2 (by omega)
      have HE : Hid (hopsL (pns L) s = []) := Lib.hid (List.length_eq_zero_iff.1 (by rw [HLN.out]; exact h0))
      rw [HE.out]
      clear h0
      go_enter Tryz.func75, Tryz.ntmps75
      go_wp2_with (go_at_call 118; refine (HO.out _ (below_one (Below.refl _ _) _)).mono ?_; rintro e w1 ⟨rfl, b1⟩; have z0 := (Whole.new w 24 #[.slice A L.length c, .int .i64 s]).below b1 (Whole.new w 24 #[.slice A L.length c, .int .i64 s]).lt; have zc0 : w1.cell? ⟨w.heap.size, 0, none⟩ = some (.slice A L.length c) := z0.cell 0; have zc1 : w1.cell? ⟨w.heap.size, 1, none⟩ = some (.int .i64 s) := z0.cell 1; have b1 := (below_one (Below.refl w.heap.size w) (.cells #[.slice A L.length c, .int .i64 s] 24)).trans (b1.mono (by rw [World.size_alloc]; omega)))
      go_ret2
      exact IAns.nil _ _ b1
    · have e2 : ((L.length : Int) == 0) = false := by rw [beq_eq_false_iff_ne]; omega
      have hst := (holdsB_yes HH.out).start (by rw [HL.out]; omega)
      obtain ⟨sN, rfl⟩ := Int.eq_ofNat_of_zero_le hst.1
      have HT := Lib.hid (fun W (h : Below w.heap.size w W) => steps_any repeat_any A c L sN W _ h.size (HX.out.rd.below h) HH.out (by omega) HSM.out)
      clear hst h0
      go_enter Tryz.func75, Tryz.ntmps75
      go_wp2_with (first
        | (go_at_call 118; refine (HO.out _ (below_one (Below.refl _ _) _)).mono ?_; rintro e w1 ⟨rfl, b1⟩; have z0 := (Whole.new w 24 #[.slice A L.length c, .int .i64 (sN : Int)]).below b1 (Whole.new w 24 #[.slice A L.length c, .int .i64 (sN : Int)]).lt; have zc0 : w1.cell? ⟨w.heap.size, 0, none⟩ = some (.slice A L.length c) := z0.cell 0; have zc1 : w1.cell? ⟨w.heap.size, 1, none⟩ = some (.int .i64 (sN : Int)) := z0.cell 1; have b1 := (below_one (Below.refl w.heap.size w) (.cells #[.slice A L.length c, .int .i64 (sN : Int)] 24)).trans (b1.mono (by rw [World.size_alloc]; omega)))
        | (go_at_call 119; refine (HT.out _ b1).mono ?_; rintro e w2 ⟨g1, rfl, h1, hH, b2⟩))
      go_ret2
      have hsz : (cellsI (hopsL (pns L) (sN : Int))).size = L.length := by unfold cellsI; simp [HLN.out]
      have ho := whole_rowK (n := L.length) (base := w.heap.size) hH hsz (Nat.le_refl _) (by omega) (Nat.le_trans b1.size h1)
      have e2 : (cellsI (hopsL (pns L) (sN : Int))).toList.take L.length = (hopsL (pns L) (sN : Int)).map (Value.int .i64) := by
        unfold cellsI
        rw [List.take_of_length_le (by simp [HLN.out])]
      rw [e2] at ho
      exact ⟨some ⟨g1, 0, none⟩, L.length, by rw [HLN.out]; rfl, by rw [HLN.out]; exact ho, b1.trans (b2.mono b1.size)⟩
theorem hopsA_at {G : List Pn} {s : Int} {k : Nat} (h : k < (hopsA G s).length) : hAt (hopsA G s) k = hopI G s.toNat k := by
  unfold hopsA at h ⊢
  split at h
  · rename_i hh
    rw [if_pos hh]
    rw [hopsL_len] at h
    unfold hAt; rw [hopsL_at h]; rfl
  · simp at h
theorem reachedA_K (G : List Pn) (s : Int) : reachedA G s = reachK G s (hopsA G s).length := by
  unfold reachedA hopsA
  split
  · rw [hopsL_len]; rfl
  · rfl
theorem hopsA_le (G : List Pn) (s : Int) : (hopsA G s).length ≤ G.length := by
  unfold hopsA; split
  · rw [hopsL_len]; exact Nat.le_refl _
  · simp
theorem errG_wf (b : Bool) : errG b = 0 ∨ errG b = 1 := by cases b <;> simp [errG]
end Go.Proofs.YtkmngbkghgelfaaGreat
