/- Hops of a graph that has one neighbour more; a patched twin. -/
import Derived.Test.YtjihnkoimbcfnaaLe
import Derived.Test.YtjihnkoimbcfnaaJa
import Derived.Test.YtjihnkoimbcfnaaKf
namespace Go.Proofs.Ytjihnkoimbcfnaa
open Go.RowKit
set_option linter.unusedVariables false
set_option maxRecDepth 100000 in
set_option maxHeartbeats 4000000 in
theorem hops_any2 (A : Option Addr) (c : Nat) (L : List Gn) (s : Int) (w : World) (hx : RdG w w.heap.size A L) (hs : ∀ x ∈ pns L, x.2.2.length ≤ 20000) (hl : L.length ≤ 20000) :
    Calls Try.prog 21 #[.agg #[.slice A L.length c, .int .i64 s]] w (IAns w (hopsA (pns L) s) (errG (holdsB (pns L) s))) := by
  have HX := Lib.hid hx
  have HSM := Lib.hid hs
  have HL := Lib.hid (pns_len L)
  clear hx hs
  have HO := Lib.hid (fun W (h : Below w.heap.size w W) => holds_any A c L s W _ h.size (HX.out.below h) hl HSM.out)
  cases hh : holdsB (pns L) s with
  | false =>
    rw [hh] at HO
    have E := Lib.hid (show hopsA (pns L) s = [] by unfold hopsA; rw [hh]; rfl)
    rw [E.out]
    clear hh
    go_enter Try.func21, Try.ntmps21
    go_wp2_with (go_at_call 38; refine (HO.out _ (below_one (Below.refl _ _) _)).mono ?_; rintro e w1 ⟨rfl, b1⟩; have z0 := (Whole.new w 24 #[.slice A L.length c, .int .i64 s]).below b1 (Whole.new w 24 #[.slice A L.length c, .int .i64 s]).lt; have zc0 : w1.cell? ⟨w.heap.size, 0, none⟩ = some (.slice A L.length c) := z0.cell 0; have zc1 : w1.cell? ⟨w.heap.size, 1, none⟩ = some (.int .i64 s) := z0.cell 1; have b1 := (below_one (Below.refl w.heap.size w) (.cells #[.slice A L.length c, .int .i64 s] 24)).trans (b1.mono (by rw [World.size_alloc]; omega)))
    go_ret2
    exact IAns.nil _ _ b1
  | true =>
    rw [hh] at HO
    have E := Lib.hid (show hopsA (pns L) s = hopsL (pns L) s by unfold hopsA; rw [hh]; rfl)
    have HLN := Lib.hid (show (hopsL (pns L) s).length = L.length by rw [hopsL_len, pns_len])
    rw [E.out]
    have HH := Lib.hid hh
    clear hh
    by_cases h0 : L.length = 0
    · have e2 : ((L.length : Int) == 0) = true := beq_iff_eq.2 (by omega)
      have HE : Hid (hopsL (pns L) s = []) := Lib.hid (List.length_eq_zero_iff.1 (by rw [HLN.out]; exact h0))
      rw [HE.out]
      clear h0
      go_enter Try.func21, Try.ntmps21
      go_wp2_with (go_at_call 38; refine (HO.out _ (below_one (Below.refl _ _) _)).mono ?_; rintro e w1 ⟨rfl, b1⟩; have z0 := (Whole.new w 24 #[.slice A L.length c, .int .i64 s]).below b1 (Whole.new w 24 #[.slice A L.length c, .int .i64 s]).lt; have zc0 : w1.cell? ⟨w.heap.size, 0, none⟩ = some (.slice A L.length c) := z0.cell 0; have zc1 : w1.cell? ⟨w.heap.size, 1, none⟩ = some (.int .i64 s) := z0.cell 1; have b1 := (below_one (Below.refl w.heap.size w) (.cells #[.slice A L.length c, .int .i64 s] 24)).trans (b1.mono (by rw [World.size_alloc]; omega)))
      go_ret2
      exact IAns.nil _ _ b1
    · have e2 : ((L.length : Int) == 0) = false := by rw [beq_eq_false_iff_ne]; omega
      have hst := (holdsB_yes HH.out).start (by rw [HL.out]; omega)
      obtain ⟨sN, rfl⟩ := Int.eq_ofNat_of_zero_le hst.1
      have HT := Lib.hid (fun W (h : Below w.heap.size w W) => steps_any repeat_any A c L sN W _ h.size (HX.out.below h) HH.out (by omega) HSM.out)
      clear hst h0
      go_enter Try.func21, Try.ntmps21
      go_wp2_with (first
        | (go_at_call 38; refine (HO.out _ (below_one (Below.refl _ _) _)).mono ?_; rintro e w1 ⟨rfl, b1⟩; have z0 := (Whole.new w 24 #[.slice A L.length c, .int .i64 (sN : Int)]).below b1 (Whole.new w 24 #[.slice A L.length c, .int .i64 (sN : Int)]).lt; have zc0 : w1.cell? ⟨w.heap.size, 0, none⟩ = some (.slice A L.length c) := z0.cell 0; have zc1 : w1.cell? ⟨w.heap.size, 1, none⟩ = some (.int .i64 (sN : Int)) := z0.cell 1; have b1 := (below_one (Below.refl w.heap.size w) (.cells #[.slice A L.length c, .int .i64 (sN : Int)] 24)).trans (b1.mono (by rw [World.size_alloc]; omega)))
        | (go_at_call 44; refine (HT.out _ b1).mono ?_; rintro e w2 ⟨g1, rfl, h1, hH, b2⟩))
      go_ret2
      have hsz : (cellsI (hopsL (pns L) (sN : Int))).size = L.length := by unfold cellsI; simp [HLN.out]
      have ho := whole_rowK (n := L.length) (base := w.heap.size) hH hsz (Nat.le_refl _) (by omega) (Nat.le_trans b1.size h1)
      have e2 : (cellsI (hopsL (pns L) (sN : Int))).toList.take L.length = (hopsL (pns L) (sN : Int)).map (Value.int .i64) := by
        unfold cellsI
        rw [List.take_of_length_le (by simp [HLN.out])]
      rw [e2] at ho
      exact ⟨some ⟨g1, 0, none⟩, L.length, by rw [HLN.out]; rfl, by rw [HLN.out]; exact ho, b1.trans (b2.mono b1.size)⟩
theorem RdG.patch {w W : World} {B D gt i : Nat} {T : List Gn} {x' : Gn} (h : RdG w B (some ⟨gt, 0, none⟩) T) (hi : i < T.length) (hD : gt < D)
    (hc : ∀ p, p ≠ i * 3 → p ≠ i * 3 + 1 → p ≠ i * 3 + 2 → W.cell? ⟨gt, p, none⟩ = w.cell? ⟨gt, p, none⟩)
    (h0 : W.cell? ⟨gt, i * 3, none⟩ = some (.int .u64 x'.1)) (h1 : W.cell? ⟨gt, i * 3 + 1, none⟩ = some (.slice x'.2.1.1 x'.2.1.2.2.length x'.2.1.2.1)) (h2 : W.cell? ⟨gt, i * 3 + 2, none⟩ = some (.slice x'.2.2.1 x'.2.2.2.2.length x'.2.2.2.1))
    (hr : ∀ j x, j ≠ i → T[j]? = some x → Rd .i8 W D x.2.1.1 x.2.1.2.2 ∧ Rd .i64 W D x.2.2.1 x.2.2.2.2) (hr' : Rd .i8 W D x'.2.1.1 x'.2.1.2.2 ∧ Rd .i64 W D x'.2.2.1 x'.2.2.2.2) :
    RdG W D (some ⟨gt, 0, none⟩) (T.set i x') := fun _ => by
  obtain ⟨b, off, hA, _, hcs⟩ := h (by omega)
  injection hA with hA
  injection hA with q1 q2
  subst q1
  subst q2
  refine ⟨gt, 0, rfl, hD, fun j hj => ?_⟩
  rw [List.length_set] at hj
  rw [Nat.zero_add]
  by_cases hji : j = i
  · subst hji
    rw [List.getElem?_set_self hi]
    exact ⟨h0, h1, h2, hr'⟩
  · rw [List.getElem?_set_ne (fun e => hji e.symm)]
    obtain ⟨k0, k1, k2, _, _⟩ := hcs j hj
    rw [Nat.zero_add] at k0 k1 k2
    have := hr j _ hji (show T[j]? = some (T[j]?.getD gNil) by simp [List.getElem?_eq_getElem hj])
    exact ⟨(hc _ (by omega) (by omega) (by omega)).trans k0, (hc _ (by omega) (by omega) (by omega)).trans k1, (hc _ (by omega) (by omega) (by omega)).trans k2, this⟩
theorem KTw.other {k : IntKind} {t : TypeId} {w : World} {base b : Nat} {x : Vc} (h : KTw k t w base x) (hne : x.1 ≠ some ⟨b, 0, none⟩) (i : Nat) (u : Value) : KTw k t (w.setCell ⟨b, i, none⟩ u) base x := by
  obtain ⟨h1, ⟨g, hg⟩, h3⟩ := h
  refine ⟨h1, ⟨g, hg⟩, own_turn h3 ((Turn.refl [b] w).setCell (p := ⟨b, i, none⟩) (.inl (by simp)) u) (fun g' hg' hm => ?_)⟩
  rw [List.mem_singleton] at hm
  subst hm
  rw [hg] at hg' hne
  injection hg' with e
  exact hne (by rw [← e])
theorem KTw.whole {w : World} {base : Nat} {x : Vc} (h : KTw .i64 3 w base x) : ∃ g, x.1 = some ⟨g, 0, none⟩ ∧ base ≤ g ∧ Whole w g 3 (cellsI (x.2.2 ++ [77])) := by
  obtain ⟨h1, ⟨g, hg⟩, h3⟩ := h
  rw [hg] at h3
  rcases h3.2 with ⟨h0, _⟩ | ⟨g', cap, cur, e, hb, hh, hc1, hc2, hsz, htk⟩
  · cases h0
  · injection e with e1 e2 e3
    injection e1 with e1
    injection e1 with e1
    subst e1
    refine ⟨g, hg, hb, ?_⟩
    have : cur = cellsI (x.2.2 ++ [77]) := by
      apply Array.ext'
      unfold cellsI
      rw [List.take_of_length_le (by rw [Array.length_toList]; omega)] at htk
      rw [htk]
    rw [this] at hh
    exact hh
end Go.Proofs.Ytjihnkoimbcfnaa
