/- Several texts in one. -/
import Derived.Test.YthbimjkcpmffcaaGreatMe
import Derived.Test.YthbimjkcpmffcaaGreatDg
import Derived.Deep.QuietTactic
import Derived.BigQuiet
/- The walks of package means: step, Step. -/
namespace Go.Proofs.YthbimjkcpmffcaaGreat
open Go.RowKit Go.Maps
set_option linter.unusedVariables false
theorem orMean_next {ms vs : List (List Int)} {k : Nat} {v : List Int} (h : vAt ms k = v) : orMean (groupL ms vs k) v = nextM ms vs k := by
  unfold orMean nextM; rw [h]
set_option maxRecDepth 100000 in
set_option maxHeartbeats 4000000 in
theorem step_any (A : Option Addr) (c : Nat) (L : List Vc) (B : Option Addr) (d : Nat) (M : List Vc) (w : World) (hx : RdV w w.heap.size A L) (hy : RdV w w.heap.size B M) (hm : mayM (vecs L) (vecs M) = true) (hb : B8 (vecs L)) (hb2 : B8 (vecs M)) :
    Calls Tryz.prog 137 #[.slice A L.length c, .slice B M.length d] w fun e w' => ∃ A' c' L', e = .returned (.slice A' (L' : List Vc).length c') ∧ OwnV w' w.heap.size A' c' L' ∧ ApartL L' ∧ vecs L' = stepL (vecs L) (vecs M) ∧ Below w.heap.size w w' := by
  have hM := mayM_yes hm
  have hl1 : L.length ≤ 64 := by have := hM.1; rw [vecs_len] at this; exact this
  have HMM := Lib.hid hm
  have HB := Lib.hid hb
  have HB2 := Lib.hid hb2
  have GA := Lib.hid (gather_any A c L B d M w hx hy hm hb hb2)
  have HD1 : Hid (∀ u ∈ vecs L, 1 ≤ u.length ∧ u.length ≤ 64) := fun u hu => by
    have h1 := mayB_yes hM.2.1
    rw [mayB_len hM.2.1 u hu]
    exact ⟨h1.2.2.1, h1.2.2.2.1⟩
  obtain ⟨R, eR⟩ : ∃ R, stepL (vecs L) (vecs M) = R := ⟨_, rfl⟩
  rw [eR]
  have ER := Lib.hid eR
  obtain ⟨i1, hi1, hy0, hy1, hy2⟩ := info_parts Tryz.info25v
  clear hM hm hb hb2 hy eR
  go_enter Tryz.func137, Tryz.ntmps137
  go_wp2_with (first
    | (go_at_call 147; refine GA.out.mono ?_; rintro e w1 ⟨rfl, ⟨G, hG, hA⟩, hD⟩)
    | (at_make; refine wpList_make_full _ rfl _ _ 62 rfl w.heap.size 25 i1 (.slice none 0 0) 1 Tryz.underlying62 hi1 hy0 hy1 _ _ _ _ L.length rfl rfl rfl rfl (by rw [hy2]; omega) (by unfold maxLen; omega) hD.size ?_; intro w2 hown hgrow))
  have hF0 := Fil.made hown
  have hB0 : Below w1.heap.size w1 w2 := (Below.refl _ _).grown hgrow (Nat.le_refl _) (by simp)
  have HA := Lib.hid hA
  clear GA hown hgrow hi1 hy0 hy1 hy2 hA
  go_loopw [17] (fun i wr => ∃ (k : Nat) (T : List Vc), T.length = k ∧ i = .int .i64 k ∧ Fil w.heap.size wr w1.heap.size L.length T ∧ Hid (vecs T = R.take k) ∧ Below w1.heap.size w1 wr) (fun i _ => L.length - (intOf i).toNat)
  case atStart => exact ⟨0, [], rfl, rfl, hF0, rfl, hB0⟩
  case round =>
    clear hF0 hB0
    obtain ⟨k, T, rfl, rfl, hF, hR, hB⟩ := hrel
    by_cases hlt : T.length < L.length
    · have hBw : Below w.heap.size w wr := hD.trans (hB.mono hD.size)
      obtain ⟨b, off, a1, c1, v1, rfl, hBk, hck0, hrd, hv1⟩ := hx.at_ hlt
      have hck : wr.cell? ⟨b, off + T.length, none⟩ = some (.slice a1 v1.length c1) := (hBw.cell (p := ⟨b, off + T.length, none⟩) hBk).trans hck0
      obtain ⟨sv, hS⟩ := hG.below hB
      have hlk := hS.map.look Tryz.intIsg Tryz.mapIsg (zeroVg _) (show T.length < 9223372036854775808 by omega)
      have hoz := hS.own T.length
      obtain ⟨A2, m2, c2, e2⟩ := own_form hoz
      rw [e2] at hlk hoz
      obtain rfl := own_len hoz
      have hvs := HA.out.is T.length
      have hGR : RdV wr wr.heap.size A2 (G T.length) := row_rdV hoz (fun x hx => ((HA.out.rd T.length x hx).below hBw).more hBw.size)
      have hdv := HD1.out v1 (List.mem_of_getElem? (vecs_at hv1.out))
      have MO := meanOr_any A2 c2 (G T.length) _ rfl a1 c1 v1 wr hGR (fun hne => by rw [hvs] at hne ⊢; exact (group_may HMM.out hne).1) (by rw [hvs]; exact fun v hv => HB2.out v (group_mem hv).1) ((hrd.below hBw).more hBw.size) hdv.1 hdv.2
      rw [hvs, orMean_next (vecs_vAt hv1.out)] at MO
      have HMO := Lib.hid MO
      have HSN : Hid (R.take (T.length + 1) = R.take T.length ++ [nextM (vecs L) (vecs M) T.length]) := by
        rw [← ER.out]; exact stepL_take _ _ (by rw [vecs_len]; exact hlt)
      obtain ⟨u, eu⟩ : ∃ u, nextM (vecs L) (vecs M) T.length = u := ⟨_, rfl⟩
      rw [eu] at HMO HSN
      have hbase := hBw.size
      clear hck0 hrd hv1 hS hoz hvs hGR hdv MO eu e2
      go_wp2_with (first
        | (at_lookup; refine wpList_look _ rfl _ _ 194 rfl _ _ _ rfl rfl hlk ?_)
        | (go_at_call 148; refine HMO.out.mono ?_; rintro e w3 ⟨xa, xc, rfl, ho, hD3⟩
           have hc := (hF.below hD3).cell hlt
           have hf := (hF.below hD3).row.frozenAt T.length
           have hN := Lib.hid (hF.put hlt hD3 hbase ho)
           have hBN := Lib.hid ((hB.trans (hD3.mono hB.size)).setCell (p := ⟨w1.heap.size, T.length, none⟩) (Nat.le_refl _) (.slice xa u.length xc))))
      go_roundw
      case rel => exact ⟨T.length + 1, T ++ [(xa, xc, u)], by simp, by go_num, hN.out, Lib.hid (by rw [vecs_snoc, hR.out, HSN.out]), hBN.out⟩
      case measure => simp [intOf]; omega
    · have hle : T.length = L.length := by have := hF.len; omega
      have hfin : vecs T = R := by
        rw [hR.out, List.take_of_length_le (by rw [← ER.out, stepL_len, vecs_len]; omega)]
      have HFIN := Lib.hid hfin
      have HO := Lib.hid (hF.done hle)
      have HAP := Lib.hid hF.apart
      have HBW := Lib.hid (hD.trans (hB.mono hD.size))
      have HLE := Lib.hid hle
      clear hfin hle hF
      go_wp2
      go_ret
      exact ⟨some ⟨w1.heap.size, 0, none⟩, L.length, T, congrArg (fun n => Ending.returned (.slice (some ⟨w1.heap.size, 0, none⟩) n L.length)) HLE.out.symm, HO.out, HAP.out, HFIN.out, HBW.out⟩
end Go.Proofs.YthbimjkcpmffcaaGreat
/- The walks of package means: slices.Equal of vectors, same, copiesAt. -/
namespace Go.Proofs.YthbimjkcpmffcaaGreat
open Go.RowKit Go.Maps
set_option linter.unusedVariables false
set_option maxHeartbeats 1000000 in
theorem equal8_any (A B : Option Addr) (c d : Nat) (xs ys : List Int) (w : World) (D : Nat) (hx : Rd .i8 w D A xs) (hy : Rd .i8 w D B ys) (hxl : xs.length ≤ 140737488355328) (hyl : ys.length ≤ 140737488355328) :
    Calls Tryz.prog 149 #[.slice A xs.length c, .slice B ys.length d] w fun e w' => e = .returned (.bool (eqB xs ys)) ∧ ∃ nq, w' = w.drewN nq := by
  by_cases hl : ys.length = xs.length
  · have HL := Lib.hid hl
    rw [hl]
    clear hl
    go_enter Tryz.func149, Tryz.ntmps149
    go_wp2
    go_loopw [13] (fun i wr => ∃ k nq : Nat, k ≤ xs.length ∧ i = .int .i64 k ∧ wr = w.drewN nq ∧ Hid (∀ j, j < k → xs[j]? = ys[j]?)) (fun i _ => xs.length - (intOf i).toNat)
    case atStart => exact ⟨0, 0, by omega, rfl, rfl, (fun j hj => absurd hj (Nat.not_lt_zero _) : ∀ j, j < 0 → xs[j]? = ys[j]?)⟩
    case round =>
      obtain ⟨k, nq, hk, rfl, rfl, HK⟩ := hrel
      by_cases hlt : k < xs.length
      · have hlt' : k < ys.length := by have := HL.out; omega
        obtain ⟨b, off, x, rfl, hbs, hcx, hvx⟩ := hx.at_ hlt
        obtain ⟨b', off', y, rfl, hbs', hcy, hvy⟩ := hy.at_ (i := k) hlt'
        have h1 : (0 : Int) ≤ (k : Int) := by omega
        have h2 : (k : Int) < (xs.length : Int) := by omega
        have ex : xs[k]? = some x := by rw [← hvx.out, List.getElem?_eq_getElem hlt]; rfl
        have ey : ys[k]? = some y := by rw [← hvy.out, List.getElem?_eq_getElem hlt']; rfl
        by_cases he : x = y
        · subst he
          have HN : Hid (∀ j, j < k + 1 → xs[j]? = ys[j]?) := fun j hj => by
            rcases Nat.lt_or_ge j k with h | h
            · exact HK.out j h
            · obtain rfl : j = k := by omega
              rw [ex, ey]
          clear ex ey hvx hvy
          have ne : (x != x) = false := by simp
          go_wp2
          go_quiet (fail)
          go_wp2
          go_roundw
          case rel => exact ⟨k + 1, _, by omega, by go_num, rfl, HN⟩
          case measure => simp [intOf]; omega
        · have E := Lib.hid (show eqB xs ys = false from decide_eq_false (fun h => he (by rw [h, ey] at ex; simpa using ex.symm)))
          have ne : (x != y) = true := by simpa using he
          clear ex ey hvx hvy he
          go_wp2
          go_quiet (fail)
          go_wp2
          go_ret
          exact ⟨retb E.out.symm, _, drewN_drewN' _ _ _⟩
      · have E := Lib.hid (show eqB xs ys = true from decide_eq_true (take_ext HL.out (fun j hj => HK.out j (by omega))))
        go_wp2
        go_ret
        exact ⟨retb E.out.symm, nq, rfl⟩
  · have ne : ((xs.length : Int) != (ys.length : Int)) = true := by simp; omega
    have E := Lib.hid (show eqB xs ys = false from decide_eq_false (fun h => hl (by rw [h])))
    clear hl
    go_enter Tryz.func149, Tryz.ntmps149
    go_wp2
    go_ret
    exact ⟨retb E.out.symm, 0, rfl⟩
set_option maxRecDepth 100000 in
set_option maxHeartbeats 1000000 in
theorem sameM_any (A : Option Addr) (c : Nat) (L : List Vc) (n : Nat) (hn : n = L.length) (B : Option Addr) (d : Nat) (M : List Vc) (m : Nat) (hm : m = M.length) (w : World) (D : Nat) (hx : RdV w D A L) (hy : RdV w D B M) (hlen : L.length = M.length) (hl : L.length ≤ 140737488355328) (hl2 : M.length ≤ 140737488355328) (hv : ∀ v ∈ vecs L, v.length ≤ 140737488355328) (hv2 : ∀ v ∈ vecs M, v.length ≤ 140737488355328) :
    Calls Tryz.prog 138 #[.slice A n c, .slice B m d] w fun e w' => e = .returned (.bool (decide (vecs L = vecs M))) ∧ ∃ nq, w' = w.drewN nq := by
  subst hn hm
  have ne : ((L.length : Int) != (M.length : Int)) = false := by simp; omega
  have HL := Lib.hid hlen
  have HV := Lib.hid hv
  have HV2 := Lib.hid hv2
  clear hlen hv hv2
  go_enter Tryz.func138, Tryz.ntmps138
  go_wp2
  go_loopw [8] (fun i wr => ∃ k nq : Nat, k ≤ L.length ∧ i = .int .i64 k ∧ Hid (wr = w.drewN nq) ∧ Hid (∀ j, j < k → vAt (vecs L) j = vAt (vecs M) j)) (fun i _ => L.length - (intOf i).toNat)
  case atStart => exact ⟨0, 0, by omega, rfl, rfl, (fun j hj => absurd hj (Nat.not_lt_zero _) : ∀ j, j < 0 → vAt (vecs L) j = vAt (vecs M) j)⟩
  case round =>
    obtain ⟨k, nq0, hk, rfl, hwr, HK⟩ := hrel
    by_cases hlt : k < L.length
    · have hlt2 : k < M.length := by have := HL.out; omega
      have hx' : RdV wr D A L := by rw [hwr.out]; exact hx.below (below_drewN (Below.refl D w) nq0)
      have hy' : RdV wr D B M := by rw [hwr.out]; exact hy.below (below_drewN (Below.refl D w) nq0)
      obtain ⟨b, off, a1, c1, v1, rfl, hBk, hck, hrd, hv1⟩ := hx'.at_ hlt
      obtain ⟨b', off', a2, c2, v2, rfl, hBk', hck', hrd', hv2⟩ := hy'.at_ hlt2
      have SE := Lib.hid (fun q => equal8_any a1 a2 c1 c2 v1 v2 (wr.drewN q) D (hrd.below (below_drewN (Below.refl D wr) q)) (hrd'.below (below_drewN (Below.refl D wr) q)) (HV.out v1 (List.mem_of_getElem? (vecs_at hv1.out))) (HV2.out v2 (List.mem_of_getElem? (vecs_at hv2.out))))
      have g1 : (0 : Int) ≤ (k : Int) := by omega
      have g2 : (k : Int) < (L.length : Int) := by omega
      have g3 : (k : Int) < (M.length : Int) := by omega
      clear hx' hy' hrd hrd'
      by_cases he : v1 = v2
      · have eb : eqB v1 v2 = true := decide_eq_true he
        rw [eb] at SE
        have HN : Hid (∀ j, j < k + 1 → vAt (vecs L) j = vAt (vecs M) j) := Lib.hid (fun j hj => by
          rcases Nat.lt_or_ge j k with h | h
          · exact HK.out j h
          · obtain rfl : j = k := by omega
            rw [vecs_vAt hv1.out, vecs_vAt hv2.out]; exact he)
        clear he eb hv1 hv2 HK
        go_wp2
        go_quiet ((go_at_call 149; with_reducible exact Calls.quiet_of (SE.out _)))
        go_wp2
        go_roundw
        case rel => exact ⟨k + 1, _, by omega, by go_num, Lib.hid (by rw [hwr.out, World.drewN_drewN]), HN⟩
        case measure => simp [intOf]; omega
      · have eb : eqB v1 v2 = false := decide_eq_false he
        rw [eb] at SE
        have E : Hid (decide (vecs L = vecs M) = false) := Lib.hid (decide_eq_false (fun h => he (by
          have h1 := vecs_vAt hv1.out
          rw [h, vecs_vAt hv2.out] at h1
          exact h1.symm)))
        clear he eb hv1 hv2 HK
        go_wp2
        go_quiet ((go_at_call 149; with_reducible exact Calls.quiet_of (SE.out _)))
        go_wp2
        go_ret
        exact ⟨retb E.out.symm, _, by rw [hwr.out, World.drewN_drewN]⟩
    · obtain rfl : k = L.length := by omega
      have E : Hid (decide (vecs L = vecs M) = true) := Lib.hid (decide_eq_true (vecs_ext HL.out.symm HK.out))
      clear HK
      go_wp2
      go_ret
      exact ⟨retb E.out.symm, nq0, hwr.out⟩
set_option maxRecDepth 100000 in
set_option maxHeartbeats 4000000 in
/-- Copies of the vectors at some places. -/
theorem copiesAt_any (A : Option Addr) (c : Nat) (L : List Vc) (B : Option Addr) (d : Nat) (ps : List Nat) (w : World) (hx : RdV w w.heap.size A L) (hy : Rd .i64 w w.heap.size B (ints ps)) (hp : ∀ p ∈ ps, p < L.length) (hl : ps.length ≤ 64) (hL : L.length ≤ 2048) (hd : ∀ u ∈ vecs L, 1 ≤ u.length ∧ u.length ≤ 64) :
    Calls Tryz.prog 124 #[.slice A L.length c, .slice B ps.length d] w fun e w' => ∃ A' c' L', e = .returned (.slice A' (L' : List Vc).length c') ∧ OwnV w' w.heap.size A' c' L' ∧ ApartL L' ∧ vecs L' = ps.map (vAt (vecs L)) ∧ Below w.heap.size w w' := by
  have HD := Lib.hid hd
  have HP := Lib.hid hp
  obtain ⟨R, eR⟩ : ∃ R, ps.map (vAt (vecs L)) = R := ⟨_, rfl⟩
  rw [eR]
  have ER := Lib.hid eR
  obtain ⟨i1, hi1, hy0, hy1, hy2⟩ := info_parts Tryz.info25v
  clear hd hp eR
  go_enter Tryz.func124, Tryz.ntmps124
  go_wp2_with (at_make; refine wpList_make_full _ rfl _ _ 62 rfl w.heap.size 25 i1 (.slice none 0 0) 1 Tryz.underlying62 hi1 hy0 hy1 _ _ _ _ ps.length rfl rfl rfl rfl (by rw [hy2]; omega) (by unfold maxLen; omega) (Nat.le_refl _) ?_; intro w2 hown hgrow)
  have hF0 := Fil.made hown
  have hB0 : Below w.heap.size w w2 := (Below.refl _ _).grown hgrow (Nat.le_refl _) (by simp)
  clear hown hgrow hi1 hy0 hy1 hy2
  go_loopw [13] (fun i wr => ∃ (k : Nat) (T : List Vc), T.length = k ∧ i = .int .i64 k ∧ Fil w.heap.size wr w.heap.size ps.length T ∧ Hid (vecs T = R.take k) ∧ Below w.heap.size w wr) (fun i _ => ps.length - (intOf i).toNat)
  case atStart => exact ⟨0, [], rfl, rfl, hF0, rfl, hB0⟩
  case round =>
    clear hF0 hB0
    obtain ⟨k, T, rfl, rfl, hF, hR, hB⟩ := hrel
    by_cases hlt : T.length < ps.length
    · obtain ⟨b2, off2, p0, rfl, hB2, hcp, hvp⟩ := (hy.below hB).at_ (i := T.length) (by rw [ints_len]; exact hlt)
      rw [ints_at] at hvp
      obtain ⟨p, ep⟩ : ∃ p, ps[T.length]?.getD 0 = p := ⟨_, rfl⟩
      rw [ep] at hvp
      have hp0 : p0 = (p : Int) := hvp.out.symm
      subst hp0
      have hpl : p < L.length := by
        rw [List.getElem?_eq_getElem hlt, Option.getD_some] at ep
        rw [← ep]; exact HP.out _ (List.getElem_mem _)
      obtain ⟨b, off, a1, c1, v1, rfl, hBk, hck, hrd, hv1⟩ := (hx.below hB).at_ hpl
      have hdv := HD.out v1 (List.mem_of_getElem? (vecs_at hv1.out))
      have CL := Lib.hid (clone8_any a1 c1 v1 wr (hrd.more hB.size) hdv.1 hdv.2)
      have HSN : Hid (R.take (T.length + 1) = R.take T.length ++ [v1]) := by
        rw [← ER.out, List.take_add_one, List.getElem?_map, List.getElem?_eq_getElem hlt]
        rw [List.getElem?_eq_getElem hlt, Option.getD_some] at ep
        rw [ep, Option.map_some, vecs_vAt hv1.out]
        rfl
      have hbase := hB.size
      clear hdv hrd hv1 ep hvp
      go_wp2_with (go_at_call 135; refine CL.out.mono ?_; rintro e w3 ⟨xa, xc, rfl, ho, hD3⟩
                   have hc := (hF.below hD3).cell hlt
                   have hf := (hF.below hD3).row.frozenAt T.length
                   have hN := Lib.hid (hF.put hlt hD3 hbase ho)
                   have hBN := Lib.hid ((hB.trans (hD3.mono hB.size)).setCell (p := ⟨w.heap.size, T.length, none⟩) (Nat.le_refl _) (.slice xa v1.length xc)))
      go_roundw
      case rel => exact ⟨T.length + 1, T ++ [(xa, xc, v1)], by simp, by go_num, hN.out, Lib.hid (by rw [vecs_snoc, hR.out, HSN.out]), hBN.out⟩
      case measure => simp [intOf]; omega
    · have hle : T.length = ps.length := by have := hF.len; omega
      have hfin : vecs T = R := by
        rw [hR.out, List.take_of_length_le (by rw [← ER.out, List.length_map]; omega)]
      have HFIN := Lib.hid hfin
      have HO := Lib.hid (hF.done hle)
      have HAP := Lib.hid hF.apart
      have HLE := Lib.hid hle
      clear hfin hle hF
      go_wp2
      go_ret
      exact ⟨some ⟨w.heap.size, 0, none⟩, ps.length, T, congrArg (fun n => Ending.returned (.slice (some ⟨w.heap.size, 0, none⟩) n ps.length)) HLE.out.symm, HO.out, HAP.out, HFIN.out, hB⟩
end Go.Proofs.YthbimjkcpmffcaaGreat
