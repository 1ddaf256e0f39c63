/- The walks of package means: step, Step. -/
import Derived.Test.YtcakmcegcbameaaMe
namespace Go.Proofs.Ytcakmcegcbameaa
open Go.RowKit Go.Maps
set_option linter.unusedVariables false
theorem orMean_next {ms vs : List (List Int)} {k : Nat} {v : List Int} (h : vAt ms k = v) : orMean (groupL ms vs k) v = nextM ms vs k := by
  unfold orMean nextM; rw [h]
set_option maxRecDepth 100000 in
set_option maxHeartbeats 4000000 in
theorem step_any (A : Option Addr) (c : Nat) (L : List Vc) (B : Option Addr) (d : Nat) (M : List Vc) (w : World) (hx : RdV w w.heap.size A L) (hy : RdV w w.heap.size B M) (hm : mayM (vecs L) (vecs M) = true) (hb : B8 (vecs L)) (hb2 : B8 (vecs M)) :
    Calls Try.prog 30 #[.slice A L.length c, .slice B M.length d] w fun e w' => ∃ A' c' L', e = .returned (.slice A' (L' : List Vc).length c') ∧ OwnV w' w.heap.size A' c' L' ∧ ApartL L' ∧ vecs L' = stepL (vecs L) (vecs M) ∧ Below w.heap.size w w' := by
  have hM := mayM_yes hm
  have hl1 : L.length ≤ 64 := by have := hM.1; rw [vecs_len] at this; exact this
  have HMM := Lib.hid hm
  have HB := Lib.hid hb
  have HB2 := Lib.hid hb2
  have GA := Lib.hid (gather_any A c L B d M w hx hy hm hb hb2)
  have HD1 : Hid (∀ u ∈ vecs L, 1 ≤ u.length ∧ u.length ≤ 64) := fun u hu => by
    have h1 := mayB_yes hM.2.1
    rw [mayB_len hM.2.1 u hu]
    exact ⟨h1.2.2.1, h1.2.2.2.1⟩
  obtain ⟨R, eR⟩ : ∃ R, stepL (vecs L) (vecs M) = R := ⟨_, rfl⟩
  rw [eR]
  have ER := Lib.hid eR
  obtain ⟨i1, hi1, hy0, hy1, hy2⟩ := info_parts Try.info23v
  clear hM hm hb hb2 hy eR
  go_enter Try.func30, Try.ntmps30
  go_wp2_with (first
    | (go_at_call 40; refine GA.out.mono ?_; rintro e w1 ⟨rfl, ⟨G, hG, hA⟩, hD⟩)
    | (at_make; refine wpList_make_full _ rfl _ _ 22 rfl w.heap.size 23 i1 (.slice none 0 0) 1 Try.underlying22 hi1 hy0 hy1 _ _ _ _ L.length rfl rfl rfl rfl (by rw [hy2]; omega) (by unfold maxLen; omega) hD.size ?_; intro w2 hown hgrow))
  have hF0 := Fil.made hown
  have hB0 : Below w1.heap.size w1 w2 := (Below.refl _ _).grown hgrow (Nat.le_refl _) (by simp)
  have HA := Lib.hid hA
  clear GA hown hgrow hi1 hy0 hy1 hy2 hA
  go_loopw [17] (fun i wr => ∃ (k : Nat) (T : List Vc), T.length = k ∧ i = .int .i64 k ∧ Fil w.heap.size wr w1.heap.size L.length T ∧ Hid (vecs T = R.take k) ∧ Below w1.heap.size w1 wr) (fun i _ => L.length - (intOf i).toNat)
  case atStart => exact ⟨0, [], rfl, rfl, hF0, rfl, hB0⟩
  case round =>
    clear hF0 hB0
    obtain ⟨k, T, rfl, rfl, hF, hR, hB⟩ := hrel
    by_cases hlt : T.length < L.length
    · have hBw : Below w.heap.size w wr := hD.trans (hB.mono hD.size)
      obtain ⟨b, off, a1, c1, v1, rfl, hBk, hck0, hrd, hv1⟩ := hx.at_ hlt
      have hck : wr.cell? ⟨b, off + T.length, none⟩ = some (.slice a1 v1.length c1) := (hBw.cell (p := ⟨b, off + T.length, none⟩) hBk).trans hck0
      obtain ⟨sv, hS⟩ := hG.below hB
      have hlk := hS.map.look Try.intIsg Try.mapIsg (zeroVg _) (show T.length < 9223372036854775808 by omega)
      have hoz := hS.own T.length
      obtain ⟨A2, m2, c2, e2⟩ := own_form hoz
      rw [e2] at hlk hoz
      obtain rfl := own_len hoz
      have hvs := HA.out.is T.length
      have hGR : RdV wr wr.heap.size A2 (G T.length) := row_rdV hoz (fun x hx => ((HA.out.rd T.length x hx).below hBw).more hBw.size)
      have hdv := HD1.out v1 (List.mem_of_getElem? (vecs_at hv1.out))
      have MO := meanOr_any A2 c2 (G T.length) _ rfl a1 c1 v1 wr hGR (fun hne => by rw [hvs] at hne ⊢; exact (group_may HMM.out hne).1) (by rw [hvs]; exact fun v hv => HB2.out v (group_mem hv).1) ((hrd.below hBw).more hBw.size) hdv.1 hdv.2
      rw [hvs, orMean_next (vecs_vAt hv1.out)] at MO
      have HMO := Lib.hid MO
      have HSN : Hid (R.take (T.length + 1) = R.take T.length ++ [nextM (vecs L) (vecs M) T.length]) := by
        rw [← ER.out]; exact stepL_take _ _ (by rw [vecs_len]; exact hlt)
      obtain ⟨u, eu⟩ : ∃ u, nextM (vecs L) (vecs M) T.length = u := ⟨_, rfl⟩
      rw [eu] at HMO HSN
      have hbase := hBw.size
      clear hck0 hrd hv1 hS hoz hvs hGR hdv MO eu e2
      go_wp2_with (first
        | (at_lookup; refine wpList_look _ rfl _ _ 67 rfl _ _ _ rfl rfl hlk ?_)
        | (go_at_call 41; refine HMO.out.mono ?_; rintro e w3 ⟨xa, xc, rfl, ho, hD3⟩
           have hc := (hF.below hD3).cell hlt
           have hf := (hF.below hD3).row.frozenAt T.length
           have hN := Lib.hid (hF.put hlt hD3 hbase ho)
           have hBN := Lib.hid ((hB.trans (hD3.mono hB.size)).setCell (p := ⟨w1.heap.size, T.length, none⟩) (Nat.le_refl _) (.slice xa u.length xc))))
      go_roundw
      case rel => exact ⟨T.length + 1, T ++ [(xa, xc, u)], by simp, by go_num, hN.out, Lib.hid (by rw [vecs_snoc, hR.out, HSN.out]), hBN.out⟩
      case measure => simp [intOf]; omega
    · have hle : T.length = L.length := by have := hF.len; omega
      have hfin : vecs T = R := by
        rw [hR.out, List.take_of_length_le (by rw [← ER.out, stepL_len, vecs_len]; omega)]
      have HFIN := Lib.hid hfin
      have HO := Lib.hid (hF.done hle)
      have HAP := Lib.hid hF.apart
      have HBW := Lib.hid (hD.trans (hB.mono hD.size))
      have HLE := Lib.hid hle
      clear hfin hle hF
      go_wp2
      go_ret
      exact ⟨some ⟨w1.heap.size, 0, none⟩, L.length, T, congrArg (fun n => Ending.returned (.slice (some ⟨w1.heap.size, 0, none⟩) n L.length)) HLE.out.symm, HO.out, HAP.out, HFIN.out, HBW.out⟩
set_option maxRecDepth 100000 in
set_option maxHeartbeats 1000000 in
theorem step_spec : StepSpec := by
  intro A c L B d M w hx hy
  have HA := Lib.hid (mayBeM_any A c L _ rfl w _ hx.rd (by have := hx.len; omega))
  cases hl : likeB (vecs L) 64 with
  | false =>
    have E : mayM (vecs L) (vecs M) = false := mayM_no1 hl
    have E2 : stepA (vecs L) (vecs M) = [] := by unfold stepA; rw [E]; rfl
    rw [E, E2]
    rw [hl] at HA
    clear hl E E2 hx hy
    go_enter Try.func19, Try.ntmps19
    go_wp2_with (go_at_call 25; refine HA.out.mono ?_; rintro e w' ⟨rfl, rfl⟩)
    go_ret2
    exact ⟨none, 0, [], rfl, OwnV.nil _ _, ApartL.nil, rfl, Below.refl _ _⟩
  | true =>
    have h1 := likeB_yes hl
    rw [vecs_len] at h1
    have HG := Lib.hid (goWith_any A c L _ rfl B d M _ rfl w _ hx.rd hy.rd h1.1 (by have := hx.len; omega) (by have := hy.len; omega))
    rw [hl] at HA
    rw [mayM_two hl]
    cases hg : withB (vecs L) (vecs M) with
    | false =>
      have E2 : stepA (vecs L) (vecs M) = [] := by unfold stepA; rw [mayM_two hl, hg]; rfl
      rw [E2]
      rw [hg] at HG
      clear hl E2 hx hy h1
      go_enter Try.func19, Try.ntmps19
      go_wp2_with (first | (go_at_call 25; refine HA.out.mono ?_; rintro e w' ⟨rfl, rfl⟩) | (go_at_call 29; refine HG.out.mono ?_; rintro e w' ⟨rfl, rfl⟩))
      go_ret2
      exact ⟨none, 0, [], rfl, OwnV.nil _ _, ApartL.nil, rfl, Below.refl _ _⟩
    | true =>
      have hm : mayM (vecs L) (vecs M) = true := by rw [mayM_two hl, hg]
      have E2 : stepA (vecs L) (vecs M) = stepL (vecs L) (vecs M) := by unfold stepA; rw [hm]; rfl
      have ST := Lib.hid (step_any A c L B d M w hx.rd hy.rd hm hx.b8 hy.b8)
      rw [E2]
      rw [hg] at HG
      obtain ⟨R, eR⟩ : ∃ R, stepL (vecs L) (vecs M) = R := ⟨_, rfl⟩
      rw [eR] at ST ⊢
      clear hl E2 hx hy h1 hm eR hg
      go_enter Try.func19, Try.ntmps19
      go_wp2_with (first
        | (go_at_call 25; refine HA.out.mono ?_; rintro e w' ⟨rfl, rfl⟩)
        | (go_at_call 29; refine HG.out.mono ?_; rintro e w' ⟨rfl, rfl⟩)
        | (go_at_call 30; refine ST.out.mono ?_; rintro e w' ⟨A', c', L', rfl, ho, hp, hv, hB⟩))
      go_ret2
      exact ⟨A', c', L', rfl, ho, hp, hv, hB⟩
end Go.Proofs.Ytcakmcegcbameaa
