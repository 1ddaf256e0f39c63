/- The walk of the document's Mean (layer 3). -/
import Derived.Test.YtcakmcegcbameaaGreatNc
import Derived.Deep.QuietTactic
import Derived.BigQuiet
namespace Go.Proofs.YtcakmcegcbameaaGreat
open Go.RowKit
set_option linter.unusedVariables false
/-- The document's quotient, by its own rule. -/
theorem refQuo_pos (s c : Int) (hs : 0 ≤ s) (hs2 : s ≤ 128 * c) (hc : 1 ≤ c) (hc2 : c ≤ 2048) (w : World) : Calls Tryz.prog 77 #[.int .i64 s, .int .i64 c] w fun e w' => e = .returned (.int .i8 (IntKind.i8.wrap ((2 * s + c) / (2 * c)))) ∧ w = w' := by
  have h1 : ¬ s < 0 := by omega
  have h2 : (2 * c == 0) = false := by simp; omega
  have h3 : 0 ≤ (2 * s + c) / (2 * c) := Int.ediv_nonneg (by omega) (by omega)
  have h4 : (2 * s + c) / (2 * c) ≤ 2 * s + c := Int.ediv_le_self _ (by omega)
  go_enter Tryz.func77, Tryz.ntmps77
  go_wp2
  go_ret
  exact ⟨rfl, rfl⟩
theorem i8_wrap (v : Int) : IntKind.i8.wrap v = if 128 ≤ v % 256 then v % 256 - 256 else v % 256 := by
  simp [IntKind.wrap, IntKind.bits, IntKind.signed]
theorem wrap8 (q : Int) (h : -128 ≤ q ∧ q ≤ 127) : IntKind.i8.wrap q = q := by rw [i8_wrap]; split <;> omega
theorem wrap8_neg (q : Int) (h : 0 ≤ q ∧ q ≤ 128) : IntKind.i8.wrap (-(IntKind.i8.wrap q)) = -q := by
  rw [i8_wrap q]
  split
  · obtain rfl : q = 128 := by omega
    decide
  · rw [show q % 256 = q by omega, wrap8 _ (by omega)]
theorem refQuo_any (s c : Int) (hc : 1 ≤ c) (hc2 : c ≤ 2048) (hs : -128 * c ≤ s ∧ s ≤ 127 * c) (w : World) : Calls Tryz.prog 77 #[.int .i64 s, .int .i64 c] w fun e w' => e = .returned (.int .i8 (quo s c)) ∧ w = w' := by
  have hq := quo_half hc hs
  by_cases h : s < 0
  · have H := Lib.hid (refQuo_pos (-s) c (by omega) (by omega) hc hc2 w)
    have e : quo s c = -((2 * -s + c) / (2 * c)) := if_pos h
    rw [e] at hq
    have E := Lib.hid e
    have hq0 : 0 ≤ (2 * -s + c) / (2 * c) := Int.ediv_nonneg (by omega) (by omega)
    obtain ⟨q, eq⟩ : ∃ q, (2 * -s + c) / (2 * c) = q := ⟨_, rfl⟩
    rw [eq] at hq hq0 E H
    have E2 := wrap8_neg q (by omega)
    clear eq e
    obtain ⟨p, ep⟩ : ∃ p, IntKind.i8.wrap q = p := ⟨_, rfl⟩
    rw [ep] at H E2
    clear ep
    go_enter Tryz.func77, Tryz.ntmps77
    go_wp2_with fail
    refine H.out.mono ?_
    rintro e w' ⟨rfl, rfl⟩
    go_wp2
    go_ret
    exact ⟨ret1 (by rw [E.out]), rfl⟩
  · have e : quo s c = (2 * s + c) / (2 * c) := if_neg h
    have := refQuo_pos s c (by omega) (by omega) hc hc2 w
    rw [← e, wrap8 _ hq] at this
    exact this
theorem refMean_no (A : Option Addr) (c : Nat) (L : List Vc) (n : Nat) (hn : n = L.length) (w : World) (B : Nat) (hx : RdV w B A L) (hl : L.length ≤ 140737488355328) (h : mayB (vecs L) = false) :
    Calls Tryz.prog 25 #[.slice A n c] w fun e w' => e = .returned (.tuple #[.slice none 0 0, .int .i64 1]) ∧ ∃ nq, w' = w.drewN nq := by
  have H := Lib.hid (together_any A c L n hn w B hx hl)
  rw [h] at H
  clear hx hn h
  go_enter Tryz.func25, Tryz.ntmps25
  go_wp2_with fail
  refine H.out.mono ?_
  rintro e w' ⟨rfl, nq, rfl⟩
  go_wp2
  go_ret2
  exact ⟨rfl, _, rfl⟩
theorem meanL_take {vs : List (List Int)} {p : Nat} (h : p < dimOf vs) : (meanL vs).take (p + 1) = (meanL vs).take p ++ [quo (sumP vs p) vs.length] := by
  have hl : p < (meanL vs).length := by rw [meanL_len]; exact h
  rw [List.take_add_one, List.getElem?_eq_getElem hl]
  simp [meanL]
set_option maxRecDepth 100000 in
set_option maxHeartbeats 2000000 in
theorem refMean_yes (A : Option Addr) (c : Nat) (L : List Vc) (n : Nat) (hn : n = L.length) (w : World) (hx : RdV w w.heap.size A L) (h : mayB (vecs L) = true) (hb : B8 (vecs L)) :
    Calls Tryz.prog 25 #[.slice A n c] w fun e w' => ∃ v, e = .returned (.tuple #[v, .int .i64 0]) ∧ w'.ownsRow w.heap.size 75 1 v (dimOf (vecs L)) ((meanL (vecs L)).map (Value.int .i8)) ∧ Below w.heap.size w w' := by
  subst hn
  have hm := mayB_yes h
  have hm1 := hm.1
  have hm2 := hm.2.1
  rw [vecs_len] at hm1 hm2
  have hd2 := hm.2.2.2.1
  have HM := Lib.hid hm.2.2.2.2
  have H := Lib.hid (together_any A c L _ rfl w _ hx (by omega))
  rw [h] at H
  have HB := Lib.hid hb
  obtain ⟨b0, off0, a0, c0, v0, rfl, hB0, hck0, hrd0, hv0⟩ := hx.at_ (i := 0) (by omega)
  have D0 := dim0 hv0.out
  rw [Nat.add_zero] at hck0
  obtain ⟨d, hd⟩ : ∃ d, dimOf (vecs L) = d := ⟨_, rfl⟩
  rw [hd] at D0 hd2 HM ⊢
  have hvd : v0.length = d := D0.symm
  rw [hvd] at hck0
  have hs : ∀ p, -128 * (L.length : Int) ≤ sumP (vecs L) p ∧ sumP (vecs L) p ≤ 127 * (L.length : Int) := fun p => by
    have := sumP_bd (vecs L) hb p
    rw [vecs_len] at this; exact this
  have HS := Lib.hid hs
  have HD := Lib.hid hd
  obtain ⟨i0, hi, hz0, hz1, hz2⟩ := info_parts Tryz.info75
  clear hm h hb hrd0 hv0 D0 hs hd hvd
  go_enter Tryz.func25, Tryz.ntmps25
  go_wp2_with fail
  refine H.out.mono ?_
  rintro e w' ⟨rfl, nq, rfl⟩
  have bel0 : Below w.heap.size w (w.drewN nq) := below_drewN (Below.refl _ _) nq
  have szw : (w.drewN nq).heap.size = w.heap.size := rfl
  obtain ⟨W0, eW⟩ : ∃ W0, w.drewN nq = W0 := ⟨_, rfl⟩
  rw [eW] at bel0 szw ⊢
  clear eW H
  go_wp2
  have own0 : W0.ownsRow w.heap.size 75 1 (.slice none 0 0) 0 (((meanL (vecs L)).take 0).map (Value.int .i8)) := own_nil_row W0 _ 75
  go_loopw [4, 5] (fun v i wr => ∃ p : Nat, p ≤ d ∧ i = .int .i64 p ∧ wr.ownsRow w.heap.size 75 1 v p (((meanL (vecs L)).take p).map (Value.int .i8)) ∧ Below w.heap.size w wr) (fun _ i _ => d - (intOf i).toNat)
  case atStart => exact ⟨0, by omega, rfl, own0, bel0⟩
  case round =>
    clear own0 bel0
    obtain ⟨p, hp, rfl, hown, hB⟩ := hrel
    have q0 : wr.cell? ⟨b0, off0, none⟩ = some (.slice a0 d c0) := (hB.cell (p := ⟨b0, off0, none⟩) hB0).trans hck0
    obtain ⟨A', m', c', rfl⟩ := own_form hown
    by_cases hlt : p < d
    · have hz := hB.size
      go_wp2
      go_loop [6, 7] (fun s i => ∃ k : Nat, k ≤ L.length ∧ i = .int .i64 k ∧ s = .int .i64 (sumP ((vecs L).take k) p)) (fun _ i => L.length - (intOf i).toNat)
      case atStart => exact ⟨0, by omega, rfl, by simp [sumP]⟩
      case round =>
        obtain ⟨k, hk, rfl, rfl⟩ := hrel
        by_cases hlt2 : k < L.length
        · obtain ⟨b, off, a1, c1, v1, hA, hBk, hck, hrd, hv1⟩ := hx.at_ hlt2
          simp only [Option.some.injEq, Addr.mk.injEq, and_true] at hA
          obtain ⟨rfl, rfl⟩ := hA
          have hp1 : p < v1.length := by have := HM.out k (by rw [vecs_len]; exact hlt2); rw [vecs_at hv1.out] at this; rw [show v1.length = d from this]; exact hlt
          obtain ⟨b', off', x, rfl, hB', hcx, hvx⟩ := hrd.at_ hp1
          have hbx : -128 ≤ x ∧ x ≤ 127 := by rw [← hvx.out]; exact getD_bd (b8_at HB.out (vecs_at hv1.out)) p
          have r1 : wr.cell? ⟨b0, off0 + k, none⟩ = some (.slice (some ⟨b', off', none⟩) v1.length c1) := (hB.cell (p := ⟨b0, off0 + k, none⟩) hBk).trans hck
          have r2 : wr.cell? ⟨b', off' + p, none⟩ = some (.int .i8 x) := (hB.cell (p := ⟨b', off' + p, none⟩) hB').trans hcx
          have HST := Lib.hid (sumP_take (vecs L) p k v1 x (vecs_at hv1.out) hvx.out)
          have hs := sumP_bd _ (b8_take HB.out k) p
          rw [List.length_take] at hs
          have hs' : -128 * 2048 ≤ sumP ((vecs L).take k) p ∧ sumP ((vecs L).take k) p ≤ 127 * 2048 := by omega
          obtain ⟨S, eS⟩ : ∃ S, sumP ((vecs L).take k) p = S := ⟨_, rfl⟩
          rw [eS] at hs' HST ⊢
          clear hs hvx hv1 hck hcx eS hrd
          go_wp2
          go_round
          case rel => exact ⟨k + 1, by omega, by go_num, by rw [HST.out]⟩
          case measure => simp [intOf]; omega
        · obtain rfl : k = L.length := by omega
          have e : (vecs L).take L.length = vecs L := List.take_of_length_le (by rw [vecs_len]; omega)
          rw [e]
          clear e
          have HQ := Lib.hid (fun W => refQuo_any (sumP (vecs L) p) L.length (by omega) (by omega) (HS.out p) W)
          have hr : ((meanL (vecs L)).take p).map (Value.int .i8) ++ [.int .i8 (quo (sumP (vecs L) p) L.length)] = ((meanL (vecs L)).take (p + 1)).map (Value.int .i8) := by
            rw [meanL_take (by rw [HD.out]; exact hlt), List.map_append, vecs_len]; rfl
          have HR := Lib.hid hr
          obtain ⟨Q, eQ⟩ : ∃ Q, quo (sumP (vecs L) p) L.length = Q := ⟨_, rfl⟩
          rw [eQ] at HR HQ
          obtain ⟨S, eS⟩ : ∃ S, sumP (vecs L) p = S := ⟨_, rfl⟩
          rw [eS] at HQ ⊢
          clear eQ eS hr
          go_wp2_with (first
            | (go_at_call 77; refine (HQ.out _).mono ?_; rintro e w' ⟨rfl, rfl⟩)
            | (at_builtin; refine wpList_append_own _ rfl _ _ 54 rfl w.heap.size 75 i0 (.int .i8 0) 1 1 Tryz.underlying54 hi hz0 hz1 hz2 rfl (by decide) _ _ _ rfl (hown.alloc _) ⟨wr.heap.size, 0, none⟩ 1 1 [.int .i8 Q] rfl rfl (cell_one_new _ _ _) (by simp [Value.oneCell']) (by show p + 1 ≤ 9223372036854775807; omega) (by omega) (by simp; omega) ?_; intro v' w1 hown' hgrow _))
          rw [HR.out] at hown'
          have hB2 := (hB.alloc hz (.cells #[.int .i8 Q] 75)).grown hgrow (by simp; omega) (fun r hr => (hown.lt r hr).1)
          go_roundw
          case rel => exact ⟨p + 1, by omega, by go_num, hown', hB2⟩
          case measure => simp [intOf]; omega
    · obtain rfl : p = d := by omega
      have e : (meanL (vecs L)).take p = meanL (vecs L) := List.take_of_length_le (by rw [meanL_len, HD.out]; omega)
      rw [e] at hown
      go_wp2
      go_ret2
      exact ⟨_, rfl, hown, hB⟩
end Go.Proofs.YtcakmcegcbameaaGreat
