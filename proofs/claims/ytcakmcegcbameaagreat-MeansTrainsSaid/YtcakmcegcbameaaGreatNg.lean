/- The walk of the document's Step (layer 7). -/
import Derived.Test.YtcakmcegcbameaaGreatNa
import Derived.Test.YtcakmcegcbameaaGreatNe
namespace Go.Proofs.YtcakmcegcbameaaGreat
open Go.RowKit
set_option linter.unusedVariables false
theorem rStep_no (A : Option Addr) (c : Nat) (L : List Vc) (n : Nat) (hn : n = L.length) (B : Option Addr) (d : Nat) (M : List Vc) (m : Nat) (hm : m = M.length) (w : World) (D : Nat) (hx : RdV w D A L) (hy : RdV w D B M) (hl : L.length ≤ 140737488355328) (hl2 : M.length ≤ 140737488355328) (h : mayM (vecs L) (vecs M) = false) :
    Calls Tryz.prog 9 #[.slice A n c, .slice B m d] w fun e w' => e = .returned (.tuple #[.slice none 0 0, .int .i64 1]) ∧ ∃ nq, w' = w.drewN nq := by
  have H := Lib.hid (may_any A c L n hn B d M m hm w D hx hy hl hl2)
  rw [h] at H
  clear hx hy hn hm h
  go_enter Tryz.func9, Tryz.ntmps9
  go_wp2_with fail
  refine H.out.mono ?_
  rintro e w' ⟨rfl, nq, rfl⟩
  go_wp2
  go_ret2
  exact ⟨rfl, _, rfl⟩
set_option maxRecDepth 100000 in
set_option maxHeartbeats 4000000 in
theorem rStep_yes (A : Option Addr) (c : Nat) (L : List Vc) (n : Nat) (hn : n = L.length) (B : Option Addr) (d : Nat) (M : List Vc) (m : Nat) (hm : m = M.length) (w : World) (hx : RdV w w.heap.size A L) (hy : RdV w w.heap.size B M) (h : mayM (vecs L) (vecs M) = true) (hb : B8 (vecs L)) (hb2 : B8 (vecs M)) :
    Calls Tryz.prog 9 #[.slice A n c, .slice B m d] w fun e w' => ∃ A' c' L', e = .returned (.tuple #[.slice A' L'.length c', .int .i64 0]) ∧ OwnV w' w.heap.size A' c' L' ∧ vecs L' = stepL (vecs L) (vecs M) ∧ Below w.heap.size w w' := by
  subst hn hm
  have hM := mayM_yes h
  have hl1 : L.length ≤ 64 := by have := hM.1; rw [vecs_len] at this; exact this
  have hl2 : M.length ≤ 2048 := by have := hM.2.2.1; rw [vecs_len] at this; exact this
  have hmb := mayB_yes hM.2.1
  have hl0 : 1 ≤ L.length := by have := hmb.1; rw [vecs_len] at this; exact this
  have HD := Lib.hid hmb.2.2.2.1
  have HL := Lib.hid (mayB_len hM.2.1)
  have HV := Lib.hid (mayM_len h)
  have H := Lib.hid (may_any A c L _ rfl B d M _ rfl w _ hx hy (by omega) (by omega))
  rw [h] at H
  have HM := Lib.hid h
  have HB := Lib.hid hb
  have HB2 := Lib.hid hb2
  obtain ⟨R, eR⟩ : ∃ R, stepL (vecs L) (vecs M) = R := ⟨_, rfl⟩
  rw [eR]
  have ER := Lib.hid eR
  obtain ⟨i0, hi, hz0, hz1, hz2⟩ := info_parts Tryz.info75
  obtain ⟨i1, hi1, hy0, hy1, hy2⟩ := info_parts Tryz.info54v
  clear h hb hb2 eR hM hmb
  go_enter Tryz.func9, Tryz.ntmps9
  go_wp2_with fail
  refine H.out.mono ?_
  rintro e w' ⟨rfl, nq, rfl⟩
  have bel0 : Below w.heap.size w (w.drewN nq) := below_drewN (Below.refl _ _) nq
  obtain ⟨W0, eW⟩ : ∃ W0, w.drewN nq = W0 := ⟨_, rfl⟩
  rw [eW] at bel0 ⊢
  clear eW H
  go_wp2
  go_loopw [6, 7] (fun v i wr => ∃ k : Nat, k ≤ L.length ∧ i = .int .i64 k ∧ ∃ A' c' L', v = .slice A' (L' : List Vc).length c' ∧ OwnV wr w.heap.size A' c' L' ∧ Hid (vecs L' = R.take k) ∧ Below w.heap.size w wr) (fun _ i _ => L.length - (intOf i).toNat)
  case atStart => exact ⟨0, by omega, rfl, none, 0, [], rfl, OwnV.nil _ _, rfl, bel0⟩
  case round =>
    clear bel0
    obtain ⟨k, hk, rfl, A', c', L', rfl, hO, hR, hB⟩ := hrel
    by_cases hlt : k < L.length
    · have own0 : wr.ownsRow wr.heap.size 54 1 (.slice none 0 0) ([] : List Vc).length (cellsV []) := own_nil_row wr _ 54
      go_wp2
      obtain ⟨wo, hwo⟩ : ∃ wo, wo = wr := ⟨_, rfl⟩
      rw [← hwo] at own0 hO hB ⊢
      clear hwo
      go_loopw [8, 9] (fun v i w2 => ∃ q : Nat, q ≤ M.length ∧ i = .int .i64 q ∧ ∃ G : List Vc, w2.ownsRow wo.heap.size 54 1 v G.length (cellsV G) ∧ Hid (vecs G = groupL (vecs L) ((vecs M).take q) k) ∧ Hid (∀ x ∈ G, Rd .i8 w w.heap.size x.1 x.2.2) ∧ G.length ≤ q ∧ Below wo.heap.size wo w2) (fun _ i _ => M.length - (intOf i).toNat)
      case atStart => exact ⟨0, by omega, rfl, [], own0, rfl, (fun x hx => by simp at hx : ∀ x ∈ ([] : List Vc), Rd .i8 w w.heap.size x.1 x.2.2), by simp, Below.refl _ _⟩
      case round =>
        clear own0
        obtain ⟨q, hq, rfl, G, hown, hG, hGr, hGl, hB2⟩ := hrel
        have hBw := hB.trans (hB2.mono hB.size)
        by_cases hlt2 : q < M.length
        · obtain ⟨b, off, a1, c1, v1, rfl, hBk, hck, hrd, hv1⟩ := hy.at_ hlt2
          have r1 : wr.cell? ⟨b, off + q, none⟩ = some (.slice a1 v1.length c1) := (hBw.cell (p := ⟨b, off + q, none⟩) hBk).trans hck
          have hvd : v1.length ≤ 64 := by rw [HV.out v1 (List.mem_of_getElem? (vecs_at hv1.out))]; exact HD.out
          have NE := Lib.hid (nearest_any A c L _ rfl a1 c1 v1 _ rfl wr w.heap.size (hx.below hBw) (hrd.below hBw) hl0 (by omega) hvd (fun u hu => by rw [HL.out u hu, HV.out v1 (List.mem_of_getElem? (vecs_at hv1.out))]) HB.out (b8_at HB2.out (vecs_at hv1.out)))
          have GS := Lib.hid (group_snoc (vecs L) ((vecs M).take q) v1 k)
          have TV := Lib.hid (take_vecs hv1.out)
          have RD := Lib.hid hrd
          obtain ⟨A2, m2, c2, rfl⟩ := own_form hown
          obtain rfl := own_len hown
          obtain ⟨z, ez⟩ : ∃ z, nearestI (vecs L) v1 = z := ⟨_, rfl⟩
          rw [ez] at NE GS
          have hz := hB2.size
          clear ez hck hrd hv1 hvd
          by_cases hzk : z = k
          · have e1 : ((z : Int) == (k : Int)) = true := by simp; omega
            rw [if_pos hzk] at GS
            clear hzk
            go_wp2_with (first
              | (go_at_call 24; refine NE.out.mono ?_; rintro e w' ⟨rfl, nq, hw'⟩
                 have hD : Below wr.heap.size wr w' := by rw [hw']; exact below_drewN (Below.refl _ _) nq
                 have hown2 := own_below hown hD
                 have r2 := (hD.cell (p := ⟨b, off + q, none⟩) (Nat.lt_of_lt_of_le hBk hBw.size)).trans r1
                 have hB3 := hB2.trans (hD.mono hB2.size)
                 clear hw')
              | (at_builtin; refine wpList_append_own _ rfl _ _ 22 rfl wo.heap.size 54 i1 (.slice none 0 0) 1 24 Tryz.underlying22 hi1 hy0 hy1 hy2 rfl (by decide) _ _ _ rfl (hown2.alloc _) ⟨w'.heap.size, 0, none⟩ 1 1 [.slice a1 v1.length c1] rfl rfl (cell_one_new _ _ _) (by simp [Value.oneCell']) (by show G.length + 1 ≤ 9223372036854775807; omega) (by omega) (by simp; have := hD.size; omega) ?_; intro v' w1 hown' hgrow _))
            have hB4 := (hB3.alloc (by have := hD.size; omega) (.cells #[.slice a1 v1.length c1] 54)).grown hgrow (by have := hD.size; simp; omega) (fun r hr => (hown2.lt r hr).1)
            have hown3 : w1.ownsRow wo.heap.size 54 1 v' (G ++ [(a1, c1, v1)]).length (cellsV (G ++ [(a1, c1, v1)])) := by
              have := cellsV_snoc G (a1, c1, v1)
              rw [← this, List.length_append]; exact hown'
            go_roundw
            case rel => exact ⟨q + 1, by omega, by go_num, G ++ [(a1, c1, v1)], hown3, Lib.hid (by rw [TV.out, GS.out, vecs_snoc, hG.out]), Lib.hid (fun x hx => by
              rcases List.mem_append.1 hx with h1 | h1
              · exact hGr.out x h1
              · rw [List.mem_singleton] at h1; subst h1; exact RD.out), by simp; omega, hB4⟩
            case measure => simp [intOf]; omega
          · have e1 : ((z : Int) == (k : Int)) = false := by simp; omega
            rw [if_neg hzk] at GS
            clear hzk
            go_wp2_with (go_at_call 24; refine NE.out.mono ?_; rintro e w' ⟨rfl, nq, hw'⟩; have hD : Below wr.heap.size wr w' := by { rw [hw']; exact below_drewN (Below.refl _ _) nq }; have hown2 := own_below hown hD; have hB3 := hB2.trans (hD.mono hB2.size); clear hw')
            go_roundw
            case rel => exact ⟨q + 1, by omega, by go_num, G, hown2, Lib.hid (by rw [TV.out, GS.out, hG.out]), hGr, by omega, hB3⟩
            case measure => simp [intOf]; omega
        · obtain rfl : q = M.length := by omega
          have HG : vecs G = groupL (vecs L) (vecs M) k := by
            have := hG.out
            rw [List.take_of_length_le (by rw [vecs_len]; exact Nat.le_refl _)] at this
            exact this
          obtain ⟨A2, m2, c2, rfl⟩ := own_form hown
          obtain rfl := own_len hown
          have hO2 := hO.below hB2
          have hGR : RdV wr wr.heap.size A2 G := row_rdV hown (fun x hx => ((hGr.out x hx).below hBw).more hBw.size)
          have hsz := hB.size
          have hsz2 := hB2.size
          have hL'k : L'.length = k := by
            have := congrArg List.length hR.out
            rw [vecs_len, List.length_take, ← ER.out, stepL_len, vecs_len] at this
            omega
          have hL64 : L'.length ≤ 64 := by omega
          have HLK := Lib.hid hL'k
          clear hL'k
          have HSN : Hid (R.take (k + 1) = R.take k ++ [nextM (vecs L) (vecs M) k]) := by
            rw [← ER.out]; exact stepL_take _ _ (by rw [vecs_len]; exact hlt)
          by_cases hg : groupL (vecs L) (vecs M) k = []
          · obtain ⟨b, off, a1, c1, v1, rfl, hBk, hck, hrd, hv1⟩ := hx.at_ hlt
            have ME := Lib.hid (refMean_no A2 c2 G _ rfl wr wr.heap.size hGR (by omega) (by rw [HG, hg]; exact mayB_nil))
            have HN : Hid (nextM (vecs L) (vecs M) k = v1) := by
              unfold nextM; rw [if_pos hg]; exact vecs_vAt hv1.out
            have hvl : v1.length ≤ 64 := by rw [HL.out v1 (List.mem_of_getElem? (vecs_at hv1.out))]; exact HD.out
            have r1 : wr.cell? ⟨b, off + k, none⟩ = some (.slice a1 v1.length c1) := (hBw.cell (p := ⟨b, off + k, none⟩) hBk).trans hck
            have RD := Lib.hid (hrd.below hBw)
            have hv0 : 1 ≤ v1.length := by
              rw [HL.out v1 (List.mem_of_getElem? (vecs_at hv1.out))]
              exact (mayB_yes (mayM_yes HM.out).2.1).2.2.1
            clear hown hGR hGr hG hO hg hck hrd hv1
            go_wp2_with (first
              | (go_at_call 25; refine ME.out.mono ?_; rintro e w' ⟨rfl, nq, hw'⟩
                 have hD : Below wr.heap.size wr w' := by rw [hw']; exact below_drewN (Below.refl _ _) nq
                 have r2 := (hD.cell (p := ⟨b, off + k, none⟩) (Nat.lt_of_lt_of_le hBk hBw.size)).trans r1
                 have hs' := hD.size
                 have r3 : (w'.alloc (.cells #[] 75)).cell? ⟨b, off + k, none⟩ = some (.slice a1 v1.length c1) := (World.cell?_alloc_lt w' _ ⟨b, off + k, none⟩ (by show b < w'.heap.size; omega)).trans r2
                 have owne : (w'.alloc (.cells #[] 75)).ownsRow w.heap.size 75 1 (.slice (some ⟨w'.heap.size, 0, none⟩) 0 0) 0 (([] : List Int).map (Value.int .i8)) := World.ownsRow_lit (base := w.heap.size) (e := 75) (size := 1) w' #[] 0 (by omega) (by decide) rfl
                 have hrd2 : Rd .i8 (w'.alloc (.cells #[] 75)) w.heap.size a1 v1 := RD.out.below ((hD.mono (by omega)).alloc (by omega) _)
                 clear hw')
              | (at_builtin; refine wpList_app _ rfl _ _ 54 rfl w.heap.size 75 i0 (.int .i8 0) 1 Tryz.underlying54 hi hz0 hz1 hz2 rfl .i8 (.slice (some ⟨w'.heap.size, 0, none⟩) 0 0) 0 [] rfl owne a1 v1.length c1 v1 w.heap.size rfl rfl hrd2 (fun e => by obtain ⟨b', off', hA, _⟩ := hrd2 (by omega); rw [e] at hA; cases hA) (by show 0 + v1.length ≤ 9223372036854775807; omega) (by omega) (by simp; omega) ?_; intro v' w1 hown' hgrow
                 rw [Nat.zero_add, List.nil_append] at hown'
                 obtain ⟨xa, xm, xc, rfl⟩ := own_form hown'
                 obtain rfl := own_len hown'
                 have hb5 : Below w'.heap.size w' w1 := ((Below.refl _ _).alloc (Nat.le_refl _) _).grown hgrow (by simp) (fun r hr => by
                   have : w'.heap.size = r := by simpa [Value.ownBlock] using hr
                   omega)
                 have hO3 := (hO2.below hD).below hb5
                 have hb6 : Below wr.heap.size wr w1 := hD.trans (hb5.mono hs')
                 have hs6 := hb6.size)
              | (at_builtin; refine wpList_append_own _ rfl _ _ 22 rfl w.heap.size 54 i1 (.slice none 0 0) 1 24 Tryz.underlying22 hi1 hy0 hy1 hy2 rfl (by decide) _ _ _ rfl (hO3.1.alloc _) ⟨w1.heap.size, 0, none⟩ 1 1 [.slice xa v1.length xc] rfl rfl (cell_one_new _ _ _) (by simp [Value.oneCell']) (by show L'.length + 1 ≤ 9223372036854775807; omega) (by omega) (by simp; omega) ?_; intro v3 w3 hown3 hgrow3 _))
            have hx1 : VOwn w1 w.heap.size (xa, xc, v1) := hown'
            obtain ⟨A5, c5, rfl, hO5⟩ := hO3.snoc hx1 hown3 hgrow3
            have hB7 : Below w.heap.size w w3 := ((hBw.trans (hb6.mono hBw.size)).alloc (by omega) _).grown hgrow3 (by simp; omega) (fun r hr => (hO3.1.lt r hr).1)
            go_roundw
            case rel => exact ⟨k + 1, by omega, by go_num, A5, c5, L' ++ [(xa, xc, v1)], rfl, hO5, Lib.hid (by rw [vecs_snoc, hR.out, HSN.out, HN.out]), hB7⟩
            case measure => simp [intOf]; omega
          · have hgm := group_may HM.out hg
            have ME := refMean_yes A2 c2 G _ rfl wr hGR (by rw [HG]; exact hgm.1) (by rw [HG]; exact fun v hv => HB2.out v (group_mem hv).1)
            have HN : Hid (nextM (vecs L) (vecs M) k = meanL (vecs G)) := by
              unfold nextM; rw [if_neg hg, HG]; rfl
            rw [← meanL_len] at ME
            have ME' := Lib.hid ME
            clear ME hown hGR hGr hG hO hg HG hgm
            obtain ⟨xs, exs⟩ : ∃ xs, meanL (vecs G) = xs := ⟨_, rfl⟩
            rw [exs] at HN ME'
            clear exs
            go_wp2_with (first
              | (go_at_call 25; refine ME'.out.mono ?_; rintro e w1 ⟨v', rfl, hown', hb6⟩
                 obtain ⟨xa, xm, xc, rfl⟩ := own_form hown'
                 obtain rfl := own_len hown'
                 have hO3 := hO2.below hb6
                 have hs6 := hb6.size)
              | (at_builtin; refine wpList_append_own _ rfl _ _ 22 rfl w.heap.size 54 i1 (.slice none 0 0) 1 24 Tryz.underlying22 hi1 hy0 hy1 hy2 rfl (by decide) _ _ _ rfl (hO3.1.alloc _) ⟨w1.heap.size, 0, none⟩ 1 1 [.slice xa xs.length xc] rfl rfl (cell_one_new _ _ _) (by simp [Value.oneCell']) (by show L'.length + 1 ≤ 9223372036854775807; omega) (by omega) (by simp; omega) ?_; intro v3 w3 hown3 hgrow3 _))
            have hx1 : VOwn w1 w.heap.size (xa, xc, xs) := own_base hown' (by omega)
            obtain ⟨A5, c5, rfl, hO5⟩ := hO3.snoc hx1 hown3 hgrow3
            have hB7 : Below w.heap.size w w3 := ((hBw.trans (hb6.mono hBw.size)).alloc (by omega) _).grown hgrow3 (by simp; omega) (fun r hr => (hO3.1.lt r hr).1)
            go_roundw
            case rel => exact ⟨k + 1, by omega, by go_num, A5, c5, L' ++ [(xa, xc, xs)], rfl, hO5, Lib.hid (by rw [vecs_snoc, hR.out, HSN.out, HN.out]), hB7⟩
            case measure => simp [intOf]; omega
    · obtain rfl : k = L.length := by omega
      have hfin : vecs L' = R := by
        rw [hR.out, List.take_of_length_le (by rw [← ER.out, stepL_len, vecs_len]; exact Nat.le_refl _)]
      have HFIN := Lib.hid hfin
      clear hfin
      go_wp2
      go_ret2
      exact ⟨A', c', L', rfl, hO, HFIN.out, hB⟩
end Go.Proofs.YtcakmcegcbameaaGreat
