/- Several texts in one. -/
import Derived.Test.YthbimjkcpmffcaaGreatNf
import Derived.Deep.QuietTactic
import Derived.BigQuiet
import Derived.Test.YthbimjkcpmffcaaGreatNa
import Derived.Test.YthbimjkcpmffcaaGreatEb
import Derived.Test.YthbimjkcpmffcaaGreatNp
/- The walk of the document's Mean (layer 3). -/
namespace Go.Proofs.YthbimjkcpmffcaaGreat
open Go.RowKit
set_option linter.unusedVariables false
/-- The document's quotient, by its own rule. -/
theorem refQuo_pos (s c : Int) (hs : 0 ≤ s) (hs2 : s ≤ 128 * c) (hc : 1 ≤ c) (hc2 : c ≤ 2048) (w : World) : Calls Tryz.prog 151 #[.int .i64 s, .int .i64 c] w fun e w' => e = .returned (.int .i8 (IntKind.i8.wrap ((2 * s + c) / (2 * c)))) ∧ w = w' := by
  have h1 : ¬ s < 0 := by omega
  have h2 : (2 * c == 0) = false := by simp; omega
  have h3 : 0 ≤ (2 * s + c) / (2 * c) := Int.ediv_nonneg (by omega) (by omega)
  have h4 : (2 * s + c) / (2 * c) ≤ 2 * s + c := Int.ediv_le_self _ (by omega)
  go_enter Tryz.func151, Tryz.ntmps151
  go_wp2
  go_ret
  exact ⟨rfl, rfl⟩
theorem i8_wrap (v : Int) : IntKind.i8.wrap v = if 128 ≤ v % 256 then v % 256 - 256 else v % 256 := by
  simp [IntKind.wrap, IntKind.bits, IntKind.signed]
theorem wrap8 (q : Int) (h : -128 ≤ q ∧ q ≤ 127) : IntKind.i8.wrap q = q := by rw [i8_wrap]; split <;> omega
theorem wrap8_neg (q : Int) (h : 0 ≤ q ∧ q ≤ 128) : IntKind.i8.wrap (-(IntKind.i8.wrap q)) = -q := by
  rw [i8_wrap q]
  split
  · obtain rfl : q = 128 := by omega
    decide
  · rw [show q % 256 = q by omega, wrap8 _ (by omega)]
theorem refQuo_any (s c : Int) (hc : 1 ≤ c) (hc2 : c ≤ 2048) (hs : -128 * c ≤ s ∧ s ≤ 127 * c) (w : World) : Calls Tryz.prog 151 #[.int .i64 s, .int .i64 c] w fun e w' => e = .returned (.int .i8 (quo s c)) ∧ w = w' := by
  have hq := quo_half hc hs
  by_cases h : s < 0
  · have H := Lib.hid (refQuo_pos (-s) c (by omega) (by omega) hc hc2 w)
    have e : quo s c = -((2 * -s + c) / (2 * c)) := if_pos h
    rw [e] at hq
    have E := Lib.hid e
    have hq0 : 0 ≤ (2 * -s + c) / (2 * c) := Int.ediv_nonneg (by omega) (by omega)
    obtain ⟨q, eq⟩ : ∃ q, (2 * -s + c) / (2 * c) = q := ⟨_, rfl⟩
    rw [eq] at hq hq0 E H
    have E2 := wrap8_neg q (by omega)
    clear eq e
    obtain ⟨p, ep⟩ : ∃ p, IntKind.i8.wrap q = p := ⟨_, rfl⟩
    rw [ep] at H E2
    clear ep
    go_enter Tryz.func151, Tryz.ntmps151
    go_wp2_with fail
    refine H.out.mono ?_
    rintro e w' ⟨rfl, rfl⟩
    go_wp2
    go_ret
    exact ⟨ret1 (by rw [E.out]), rfl⟩
  · have e : quo s c = (2 * s + c) / (2 * c) := if_neg h
    have := refQuo_pos s c (by omega) (by omega) hc hc2 w
    rw [← e, wrap8 _ hq] at this
    exact this
theorem refMean_no (A : Option Addr) (c : Nat) (L : List Vc) (n : Nat) (hn : n = L.length) (w : World) (B : Nat) (hx : RdV w B A L) (hl : L.length ≤ 140737488355328) (h : mayB (vecs L) = false) :
    Calls Tryz.prog 140 #[.slice A n c] w fun e w' => e = .returned (.tuple #[.slice none 0 0, .int .i64 1]) ∧ ∃ nq, w' = w.drewN nq := by
  have H := Lib.hid (together_any A c L n hn w B hx hl)
  rw [h] at H
  clear hx hn h
  go_enter Tryz.func140, Tryz.ntmps140
  go_wp2_with fail
  refine H.out.mono ?_
  rintro e w' ⟨rfl, nq, rfl⟩
  go_wp2
  go_ret2
  exact ⟨rfl, _, rfl⟩
theorem meanL_take {vs : List (List Int)} {p : Nat} (h : p < dimOf vs) : (meanL vs).take (p + 1) = (meanL vs).take p ++ [quo (sumP vs p) vs.length] := by
  have hl : p < (meanL vs).length := by rw [meanL_len]; exact h
  rw [List.take_add_one, List.getElem?_eq_getElem hl]
  simp [meanL]
set_option maxRecDepth 100000 in
set_option maxHeartbeats 2000000 in
theorem refMean_yes (A : Option Addr) (c : Nat) (L : List Vc) (n : Nat) (hn : n = L.length) (w : World) (hx : RdV w w.heap.size A L) (h : mayB (vecs L) = true) (hb : B8 (vecs L)) :
    Calls Tryz.prog 140 #[.slice A n c] w fun e w' => ∃ v, e = .returned (.tuple #[v, .int .i64 0]) ∧ w'.ownsRow w.heap.size 74 1 v (dimOf (vecs L)) ((meanL (vecs L)).map (Value.int .i8)) ∧ Below w.heap.size w w' := by
  subst hn
  have hm := mayB_yes h
  have hm1 := hm.1
  have hm2 := hm.2.1
  rw [vecs_len] at hm1 hm2
  have hd2 := hm.2.2.2.1
  have HM := Lib.hid hm.2.2.2.2
  have H := Lib.hid (together_any A c L _ rfl w _ hx (by omega))
  rw [h] at H
  have HB := Lib.hid hb
  obtain ⟨b0, off0, a0, c0, v0, rfl, hB0, hck0, hrd0, hv0⟩ := hx.at_ (i := 0) (by omega)
  have D0 := dim0 hv0.out
  rw [Nat.add_zero] at hck0
  obtain ⟨d, hd⟩ : ∃ d, dimOf (vecs L) = d := ⟨_, rfl⟩
  rw [hd] at D0 hd2 HM ⊢
  have hvd : v0.length = d := D0.symm
  rw [hvd] at hck0
  have hs : ∀ p, -128 * (L.length : Int) ≤ sumP (vecs L) p ∧ sumP (vecs L) p ≤ 127 * (L.length : Int) := fun p => by
    have := sumP_bd (vecs L) hb p
    rw [vecs_len] at this; exact this
  have HS := Lib.hid hs
  have HD := Lib.hid hd
  obtain ⟨i0, hi, hz0, hz1, hz2⟩ := info_parts Tryz.info74
  clear hm h hb hrd0 hv0 D0 hs hd hvd
  go_enter Tryz.func140, Tryz.ntmps140
  go_wp2_with fail
  refine H.out.mono ?_
  rintro e w' ⟨rfl, nq, rfl⟩
  have bel0 : Below w.heap.size w (w.drewN nq) := below_drewN (Below.refl _ _) nq
  have szw : (w.drewN nq).heap.size = w.heap.size := rfl
  obtain ⟨W0, eW⟩ : ∃ W0, w.drewN nq = W0 := ⟨_, rfl⟩
  rw [eW] at bel0 szw ⊢
  clear eW H
  go_wp2
  have own0 : W0.ownsRow w.heap.size 74 1 (.slice none 0 0) 0 (((meanL (vecs L)).take 0).map (Value.int .i8)) := own_nil_row W0 _ 74
  go_loopw [4, 5] (fun v i wr => ∃ p : Nat, p ≤ d ∧ i = .int .i64 p ∧ wr.ownsRow w.heap.size 74 1 v p (((meanL (vecs L)).take p).map (Value.int .i8)) ∧ Below w.heap.size w wr) (fun _ i _ => d - (intOf i).toNat)
  case atStart => exact ⟨0, by omega, rfl, own0, bel0⟩
  case round =>
    clear own0 bel0
    obtain ⟨p, hp, rfl, hown, hB⟩ := hrel
    have q0 : wr.cell? ⟨b0, off0, none⟩ = some (.slice a0 d c0) := (hB.cell (p := ⟨b0, off0, none⟩) hB0).trans hck0
    obtain ⟨A', m', c', rfl⟩ := own_form hown
    by_cases hlt : p < d
    · have hz := hB.size
      go_wp2
      go_loop [6, 7] (fun s i => ∃ k : Nat, k ≤ L.length ∧ i = .int .i64 k ∧ s = .int .i64 (sumP ((vecs L).take k) p)) (fun _ i => L.length - (intOf i).toNat)
      case atStart => exact ⟨0, by omega, rfl, by simp [sumP]⟩
      case round =>
        obtain ⟨k, hk, rfl, rfl⟩ := hrel
        by_cases hlt2 : k < L.length
        · obtain ⟨b, off, a1, c1, v1, hA, hBk, hck, hrd, hv1⟩ := hx.at_ hlt2
          simp only [Option.some.injEq, Addr.mk.injEq, and_true] at hA
          obtain ⟨rfl, rfl⟩ := hA
          have hp1 : p < v1.length := by have := HM.out k (by rw [vecs_len]; exact hlt2); rw [vecs_at hv1.out] at this; rw [show v1.length = d from this]; exact hlt
          obtain ⟨b', off', x, rfl, hB', hcx, hvx⟩ := hrd.at_ hp1
          have hbx : -128 ≤ x ∧ x ≤ 127 := by rw [← hvx.out]; exact getD_bd (b8_at HB.out (vecs_at hv1.out)) p
          have r1 : wr.cell? ⟨b0, off0 + k, none⟩ = some (.slice (some ⟨b', off', none⟩) v1.length c1) := (hB.cell (p := ⟨b0, off0 + k, none⟩) hBk).trans hck
          have r2 : wr.cell? ⟨b', off' + p, none⟩ = some (.int .i8 x) := (hB.cell (p := ⟨b', off' + p, none⟩) hB').trans hcx
          have HST := Lib.hid (sumP_take (vecs L) p k v1 x (vecs_at hv1.out) hvx.out)
          have hs := sumP_bd _ (b8_take HB.out k) p
          rw [List.length_take] at hs
          have hs' : -128 * 2048 ≤ sumP ((vecs L).take k) p ∧ sumP ((vecs L).take k) p ≤ 127 * 2048 := by omega
          obtain ⟨S, eS⟩ : ∃ S, sumP ((vecs L).take k) p = S := ⟨_, rfl⟩
          rw [eS] at hs' HST ⊢
          clear hs hvx hv1 hck hcx eS hrd
          go_wp2
          go_round
          case rel => exact ⟨k + 1, by omega, by go_num, by rw [HST.out]⟩
          case measure => simp [intOf]; omega
        · obtain rfl : k = L.length := by omega
          have e : (vecs L).take L.length = vecs L := List.take_of_length_le (by rw [vecs_len]; omega)
          rw [e]
          clear e
          have HQ := Lib.hid (fun W => refQuo_any (sumP (vecs L) p) L.length (by omega) (by omega) (HS.out p) W)
          have hr : ((meanL (vecs L)).take p).map (Value.int .i8) ++ [.int .i8 (quo (sumP (vecs L) p) L.length)] = ((meanL (vecs L)).take (p + 1)).map (Value.int .i8) := by
            rw [meanL_take (by rw [HD.out]; exact hlt), List.map_append, vecs_len]; rfl
          have HR := Lib.hid hr
          obtain ⟨Q, eQ⟩ : ∃ Q, quo (sumP (vecs L) p) L.length = Q := ⟨_, rfl⟩
          rw [eQ] at HR HQ
          obtain ⟨S, eS⟩ : ∃ S, sumP (vecs L) p = S := ⟨_, rfl⟩
          rw [eS] at HQ ⊢
          clear eQ eS hr
          go_wp2_with (first
            | (go_at_call 151; refine (HQ.out _).mono ?_; rintro e w' ⟨rfl, rfl⟩)
            | (at_builtin; refine wpList_append_own _ rfl _ _ 25 rfl w.heap.size 74 i0 (.int .i8 0) 1 1 Tryz.underlying25 hi hz0 hz1 hz2 rfl (by decide) _ _ _ rfl (hown.alloc _) ⟨wr.heap.size, 0, none⟩ 1 1 [.int .i8 Q] rfl rfl (cell_one_new _ _ _) (by simp [Value.oneCell']) (by show p + 1 ≤ 9223372036854775807; omega) (by omega) (by simp; omega) ?_; intro v' w1 hown' hgrow _))
          rw [HR.out] at hown'
          have hB2 := (hB.alloc hz (.cells #[.int .i8 Q] 74)).grown hgrow (by simp; omega) (fun r hr => (hown.lt r hr).1)
          go_roundw
          case rel => exact ⟨p + 1, by omega, by go_num, hown', hB2⟩
          case measure => simp [intOf]; omega
    · obtain rfl : p = d := by omega
      have e : (meanL (vecs L)).take p = meanL (vecs L) := List.take_of_length_le (by rw [meanL_len, HD.out]; omega)
      rw [e] at hown
      go_wp2
      go_ret2
      exact ⟨_, rfl, hown, hB⟩
end Go.Proofs.YthbimjkcpmffcaaGreat
/- The walk of the document's Step (layer 7). -/
namespace Go.Proofs.YthbimjkcpmffcaaGreat
open Go.RowKit
set_option linter.unusedVariables false
theorem rStep_no (A : Option Addr) (c : Nat) (L : List Vc) (n : Nat) (hn : n = L.length) (B : Option Addr) (d : Nat) (M : List Vc) (m : Nat) (hm : m = M.length) (w : World) (D : Nat) (hx : RdV w D A L) (hy : RdV w D B M) (hl : L.length ≤ 140737488355328) (hl2 : M.length ≤ 140737488355328) (h : mayM (vecs L) (vecs M) = false) :
    Calls Tryz.prog 127 #[.slice A n c, .slice B m d] w fun e w' => e = .returned (.tuple #[.slice none 0 0, .int .i64 1]) ∧ ∃ nq, w' = w.drewN nq := by
  have H := Lib.hid (may_any A c L n hn B d M m hm w D hx hy hl hl2)
  rw [h] at H
  clear hx hy hn hm h
  go_enter Tryz.func127, Tryz.ntmps127
  go_wp2_with fail
  refine H.out.mono ?_
  rintro e w' ⟨rfl, nq, rfl⟩
  go_wp2
  go_ret2
  exact ⟨rfl, _, rfl⟩
set_option maxRecDepth 100000 in
set_option maxHeartbeats 4000000 in
theorem rStep_yes (A : Option Addr) (c : Nat) (L : List Vc) (n : Nat) (hn : n = L.length) (B : Option Addr) (d : Nat) (M : List Vc) (m : Nat) (hm : m = M.length) (w : World) (hx : RdV w w.heap.size A L) (hy : RdV w w.heap.size B M) (h : mayM (vecs L) (vecs M) = true) (hb : B8 (vecs L)) (hb2 : B8 (vecs M)) :
    Calls Tryz.prog 127 #[.slice A n c, .slice B m d] w fun e w' => ∃ A' c' L', e = .returned (.tuple #[.slice A' L'.length c', .int .i64 0]) ∧ OwnV w' w.heap.size A' c' L' ∧ vecs L' = stepL (vecs L) (vecs M) ∧ Below w.heap.size w w' := by
  subst hn hm
  have hM := mayM_yes h
  have hl1 : L.length ≤ 64 := by have := hM.1; rw [vecs_len] at this; exact this
  have hl2 : M.length ≤ 2048 := by have := hM.2.2.1; rw [vecs_len] at this; exact this
  have hmb := mayB_yes hM.2.1
  have hl0 : 1 ≤ L.length := by have := hmb.1; rw [vecs_len] at this; exact this
  have HD := Lib.hid hmb.2.2.2.1
  have HL := Lib.hid (mayB_len hM.2.1)
  have HV := Lib.hid (mayM_len h)
  have H := Lib.hid (may_any A c L _ rfl B d M _ rfl w _ hx hy (by omega) (by omega))
  rw [h] at H
  have HM := Lib.hid h
  have HB := Lib.hid hb
  have HB2 := Lib.hid hb2
  obtain ⟨R, eR⟩ : ∃ R, stepL (vecs L) (vecs M) = R := ⟨_, rfl⟩
  rw [eR]
  have ER := Lib.hid eR
  obtain ⟨i0, hi, hz0, hz1, hz2⟩ := info_parts Tryz.info74
  obtain ⟨i1, hi1, hy0, hy1, hy2⟩ := info_parts Tryz.info25v
  clear h hb hb2 eR hM hmb
  go_enter Tryz.func127, Tryz.ntmps127
  go_wp2_with fail
  refine H.out.mono ?_
  rintro e w' ⟨rfl, nq, rfl⟩
  have bel0 : Below w.heap.size w (w.drewN nq) := below_drewN (Below.refl _ _) nq
  obtain ⟨W0, eW⟩ : ∃ W0, w.drewN nq = W0 := ⟨_, rfl⟩
  rw [eW] at bel0 ⊢
  clear eW H
  go_wp2
  go_loopw [6, 7] (fun v i wr => ∃ k : Nat, k ≤ L.length ∧ i = .int .i64 k ∧ ∃ A' c' L', v = .slice A' (L' : List Vc).length c' ∧ OwnV wr w.heap.size A' c' L' ∧ Hid (vecs L' = R.take k) ∧ Below w.heap.size w wr) (fun _ i _ => L.length - (intOf i).toNat)
  case atStart => exact ⟨0, by omega, rfl, none, 0, [], rfl, OwnV.nil _ _, rfl, bel0⟩
  case round =>
    clear bel0
    obtain ⟨k, hk, rfl, A', c', L', rfl, hO, hR, hB⟩ := hrel
    by_cases hlt : k < L.length
    · have own0 : wr.ownsRow wr.heap.size 25 1 (.slice none 0 0) ([] : List Vc).length (cellsV []) := own_nil_row wr _ 25
      go_wp2
      obtain ⟨wo, hwo⟩ : ∃ wo, wo = wr := ⟨_, rfl⟩
      rw [← hwo] at own0 hO hB ⊢
      clear hwo
      go_loopw [8, 9] (fun v i w2 => ∃ q : Nat, q ≤ M.length ∧ i = .int .i64 q ∧ ∃ G : List Vc, w2.ownsRow wo.heap.size 25 1 v G.length (cellsV G) ∧ Hid (vecs G = groupL (vecs L) ((vecs M).take q) k) ∧ Hid (∀ x ∈ G, Rd .i8 w w.heap.size x.1 x.2.2) ∧ G.length ≤ q ∧ Below wo.heap.size wo w2) (fun _ i _ => M.length - (intOf i).toNat)
      case atStart => exact ⟨0, by omega, rfl, [], own0, rfl, (fun x hx => by simp at hx : ∀ x ∈ ([] : List Vc), Rd .i8 w w.heap.size x.1 x.2.2), by simp, Below.refl _ _⟩
      case round =>
        clear own0
        obtain ⟨q, hq, rfl, G, hown, hG, hGr, hGl, hB2⟩ := hrel
        have hBw := hB.trans (hB2.mono hB.size)
        by_cases hlt2 : q < M.length
        · obtain ⟨b, off, a1, c1, v1, rfl, hBk, hck, hrd, hv1⟩ := hy.at_ hlt2
          have r1 : wr.cell? ⟨b, off + q, none⟩ = some (.slice a1 v1.length c1) := (hBw.cell (p := ⟨b, off + q, none⟩) hBk).trans hck
          have hvd : v1.length ≤ 64 := by rw [HV.out v1 (List.mem_of_getElem? (vecs_at hv1.out))]; exact HD.out
          have NE := Lib.hid (nearest_any A c L _ rfl a1 c1 v1 _ rfl wr w.heap.size (hx.below hBw) (hrd.below hBw) hl0 (by omega) hvd (fun u hu => by rw [HL.out u hu, HV.out v1 (List.mem_of_getElem? (vecs_at hv1.out))]) HB.out (b8_at HB2.out (vecs_at hv1.out)))
          have GS := Lib.hid (group_snoc (vecs L) ((vecs M).take q) v1 k)
          have TV := Lib.hid (take_vecs hv1.out)
          have RD := Lib.hid hrd
          obtain ⟨A2, m2, c2, rfl⟩ := own_form hown
          obtain rfl := own_len hown
          obtain ⟨z, ez⟩ : ∃ z, nearestI (vecs L) v1 = z := ⟨_, rfl⟩
          rw [ez] at NE GS
          have hz := hB2.size
          clear ez hck hrd hv1 hvd
          by_cases hzk : z = k
          · have e1 : ((z : Int) == (k : Int)) = true := by simp; omega
            rw [if_pos hzk] at GS
            clear hzk
            go_wp2_with (first
              | (go_at_call 95; refine NE.out.mono ?_; rintro e w' ⟨rfl, nq, hw'⟩
                 have hD : Below wr.heap.size wr w' := by rw [hw']; exact below_drewN (Below.refl _ _) nq
                 have hown2 := own_below hown hD
                 have r2 := (hD.cell (p := ⟨b, off + q, none⟩) (Nat.lt_of_lt_of_le hBk hBw.size)).trans r1
                 have hB3 := hB2.trans (hD.mono hB2.size)
                 clear hw')
              | (at_builtin; refine wpList_append_own _ rfl _ _ 62 rfl wo.heap.size 25 i1 (.slice none 0 0) 1 24 Tryz.underlying62 hi1 hy0 hy1 hy2 rfl (by decide) _ _ _ rfl (hown2.alloc _) ⟨w'.heap.size, 0, none⟩ 1 1 [.slice a1 v1.length c1] rfl rfl (cell_one_new _ _ _) (by simp [Value.oneCell']) (by show G.length + 1 ≤ 9223372036854775807; omega) (by omega) (by simp; have := hD.size; omega) ?_; intro v' w1 hown' hgrow _))
            have hB4 := (hB3.alloc (by have := hD.size; omega) (.cells #[.slice a1 v1.length c1] 25)).grown hgrow (by have := hD.size; simp; omega) (fun r hr => (hown2.lt r hr).1)
            have hown3 : w1.ownsRow wo.heap.size 25 1 v' (G ++ [(a1, c1, v1)]).length (cellsV (G ++ [(a1, c1, v1)])) := by
              have := cellsV_snoc G (a1, c1, v1)
              rw [← this, List.length_append]; exact hown'
            go_roundw
            case rel => exact ⟨q + 1, by omega, by go_num, G ++ [(a1, c1, v1)], hown3, Lib.hid (by rw [TV.out, GS.out, vecs_snoc, hG.out]), Lib.hid (fun x hx => by
              rcases List.mem_append.1 hx with h1 | h1
              · exact hGr.out x h1
              · rw [List.mem_singleton] at h1; subst h1; exact RD.out), by simp; omega, hB4⟩
            case measure => simp [intOf]; omega
          · have e1 : ((z : Int) == (k : Int)) = false := by simp; omega
            rw [if_neg hzk] at GS
            clear hzk
            go_wp2_with (go_at_call 95; refine NE.out.mono ?_; rintro e w' ⟨rfl, nq, hw'⟩; have hD : Below wr.heap.size wr w' := by { rw [hw']; exact below_drewN (Below.refl _ _) nq }; have hown2 := own_below hown hD; have hB3 := hB2.trans (hD.mono hB2.size); clear hw')
            go_roundw
            case rel => exact ⟨q + 1, by omega, by go_num, G, hown2, Lib.hid (by rw [TV.out, GS.out, hG.out]), hGr, by omega, hB3⟩
            case measure => simp [intOf]; omega
        · obtain rfl : q = M.length := by omega
          have HG : vecs G = groupL (vecs L) (vecs M) k := by
            have := hG.out
            rw [List.take_of_length_le (by rw [vecs_len]; exact Nat.le_refl _)] at this
            exact this
          obtain ⟨A2, m2, c2, rfl⟩ := own_form hown
          obtain rfl := own_len hown
          have hO2 := hO.below hB2
          have hGR : RdV wr wr.heap.size A2 G := row_rdV hown (fun x hx => ((hGr.out x hx).below hBw).more hBw.size)
          have hsz := hB.size
          have hsz2 := hB2.size
          have hL'k : L'.length = k := by
            have := congrArg List.length hR.out
            rw [vecs_len, List.length_take, ← ER.out, stepL_len, vecs_len] at this
            omega
          have hL64 : L'.length ≤ 64 := by omega
          have HLK := Lib.hid hL'k
          clear hL'k
          have HSN : Hid (R.take (k + 1) = R.take k ++ [nextM (vecs L) (vecs M) k]) := by
            rw [← ER.out]; exact stepL_take _ _ (by rw [vecs_len]; exact hlt)
          by_cases hg : groupL (vecs L) (vecs M) k = []
          · obtain ⟨b, off, a1, c1, v1, rfl, hBk, hck, hrd, hv1⟩ := hx.at_ hlt
            have ME := Lib.hid (refMean_no A2 c2 G _ rfl wr wr.heap.size hGR (by omega) (by rw [HG, hg]; exact mayB_nil))
            have HN : Hid (nextM (vecs L) (vecs M) k = v1) := by
              unfold nextM; rw [if_pos hg]; exact vecs_vAt hv1.out
            have hvl : v1.length ≤ 64 := by rw [HL.out v1 (List.mem_of_getElem? (vecs_at hv1.out))]; exact HD.out
            have r1 : wr.cell? ⟨b, off + k, none⟩ = some (.slice a1 v1.length c1) := (hBw.cell (p := ⟨b, off + k, none⟩) hBk).trans hck
            have RD := Lib.hid (hrd.below hBw)
            have hv0 : 1 ≤ v1.length := by
              rw [HL.out v1 (List.mem_of_getElem? (vecs_at hv1.out))]
              exact (mayB_yes (mayM_yes HM.out).2.1).2.2.1
            clear hown hGR hGr hG hO hg hck hrd hv1
            go_wp2_with (first
              | (go_at_call 140; refine ME.out.mono ?_; rintro e w' ⟨rfl, nq, hw'⟩
                 have hD : Below wr.heap.size wr w' := by rw [hw']; exact below_drewN (Below.refl _ _) nq
                 have r2 := (hD.cell (p := ⟨b, off + k, none⟩) (Nat.lt_of_lt_of_le hBk hBw.size)).trans r1
                 have hs' := hD.size
                 have r3 : (w'.alloc (.cells #[] 74)).cell? ⟨b, off + k, none⟩ = some (.slice a1 v1.length c1) := (World.cell?_alloc_lt w' _ ⟨b, off + k, none⟩ (by show b < w'.heap.size; omega)).trans r2
                 have owne : (w'.alloc (.cells #[] 74)).ownsRow w.heap.size 74 1 (.slice (some ⟨w'.heap.size, 0, none⟩) 0 0) 0 (([] : List Int).map (Value.int .i8)) := World.ownsRow_lit (base := w.heap.size) (e := 74) (size := 1) w' #[] 0 (by omega) (by decide) rfl
                 have hrd2 : Rd .i8 (w'.alloc (.cells #[] 74)) w.heap.size a1 v1 := RD.out.below ((hD.mono (by omega)).alloc (by omega) _)
                 clear hw')
              | (at_builtin; refine wpList_app _ rfl _ _ 25 rfl w.heap.size 74 i0 (.int .i8 0) 1 Tryz.underlying25 hi hz0 hz1 hz2 rfl .i8 (.slice (some ⟨w'.heap.size, 0, none⟩) 0 0) 0 [] rfl owne a1 v1.length c1 v1 w.heap.size rfl rfl hrd2 (fun e => by obtain ⟨b', off', hA, _⟩ := hrd2 (by omega); rw [e] at hA; cases hA) (by show 0 + v1.length ≤ 9223372036854775807; omega) (by omega) (by simp; omega) ?_; intro v' w1 hown' hgrow
                 rw [Nat.zero_add, List.nil_append] at hown'
                 obtain ⟨xa, xm, xc, rfl⟩ := own_form hown'
                 obtain rfl := own_len hown'
                 have hb5 : Below w'.heap.size w' w1 := ((Below.refl _ _).alloc (Nat.le_refl _) _).grown hgrow (by simp) (fun r hr => by
                   have : w'.heap.size = r := by simpa [Value.ownBlock] using hr
                   omega)
                 have hO3 := (hO2.below hD).below hb5
                 have hb6 : Below wr.heap.size wr w1 := hD.trans (hb5.mono hs')
                 have hs6 := hb6.size)
              | (at_builtin; refine wpList_append_own _ rfl _ _ 62 rfl w.heap.size 25 i1 (.slice none 0 0) 1 24 Tryz.underlying62 hi1 hy0 hy1 hy2 rfl (by decide) _ _ _ rfl (hO3.1.alloc _) ⟨w1.heap.size, 0, none⟩ 1 1 [.slice xa v1.length xc] rfl rfl (cell_one_new _ _ _) (by simp [Value.oneCell']) (by show L'.length + 1 ≤ 9223372036854775807; omega) (by omega) (by simp; omega) ?_; intro v3 w3 hown3 hgrow3 _))
            have hx1 : VOwn w1 w.heap.size (xa, xc, v1) := hown'
            obtain ⟨A5, c5, rfl, hO5⟩ := hO3.snoc hx1 hown3 hgrow3
            have hB7 : Below w.heap.size w w3 := ((hBw.trans (hb6.mono hBw.size)).alloc (by omega) _).grown hgrow3 (by simp; omega) (fun r hr => (hO3.1.lt r hr).1)
            go_roundw
            case rel => exact ⟨k + 1, by omega, by go_num, A5, c5, L' ++ [(xa, xc, v1)], rfl, hO5, Lib.hid (by rw [vecs_snoc, hR.out, HSN.out, HN.out]), hB7⟩
            case measure => simp [intOf]; omega
          · have hgm := group_may HM.out hg
            have ME := refMean_yes A2 c2 G _ rfl wr hGR (by rw [HG]; exact hgm.1) (by rw [HG]; exact fun v hv => HB2.out v (group_mem hv).1)
            have HN : Hid (nextM (vecs L) (vecs M) k = meanL (vecs G)) := by
              unfold nextM; rw [if_neg hg, HG]; rfl
            rw [← meanL_len] at ME
            have ME' := Lib.hid ME
            clear ME hown hGR hGr hG hO hg HG hgm
            obtain ⟨xs, exs⟩ : ∃ xs, meanL (vecs G) = xs := ⟨_, rfl⟩
            rw [exs] at HN ME'
            clear exs
            go_wp2_with (first
              | (go_at_call 140; refine ME'.out.mono ?_; rintro e w1 ⟨v', rfl, hown', hb6⟩
                 obtain ⟨xa, xm, xc, rfl⟩ := own_form hown'
                 obtain rfl := own_len hown'
                 have hO3 := hO2.below hb6
                 have hs6 := hb6.size)
              | (at_builtin; refine wpList_append_own _ rfl _ _ 62 rfl w.heap.size 25 i1 (.slice none 0 0) 1 24 Tryz.underlying62 hi1 hy0 hy1 hy2 rfl (by decide) _ _ _ rfl (hO3.1.alloc _) ⟨w1.heap.size, 0, none⟩ 1 1 [.slice xa xs.length xc] rfl rfl (cell_one_new _ _ _) (by simp [Value.oneCell']) (by show L'.length + 1 ≤ 9223372036854775807; omega) (by omega) (by simp; omega) ?_; intro v3 w3 hown3 hgrow3 _))
            have hx1 : VOwn w1 w.heap.size (xa, xc, xs) := own_base hown' (by omega)
            obtain ⟨A5, c5, rfl, hO5⟩ := hO3.snoc hx1 hown3 hgrow3
            have hB7 : Below w.heap.size w w3 := ((hBw.trans (hb6.mono hBw.size)).alloc (by omega) _).grown hgrow3 (by simp; omega) (fun r hr => (hO3.1.lt r hr).1)
            go_roundw
            case rel => exact ⟨k + 1, by omega, by go_num, A5, c5, L' ++ [(xa, xc, xs)], rfl, hO5, Lib.hid (by rw [vecs_snoc, hR.out, HSN.out, HN.out]), hB7⟩
            case measure => simp [intOf]; omega
    · obtain rfl : k = L.length := by omega
      have hfin : vecs L' = R := by
        rw [hR.out, List.take_of_length_le (by rw [← ER.out, stepL_len, vecs_len]; exact Nat.le_refl _)]
      have HFIN := Lib.hid hfin
      clear hfin
      go_wp2
      go_ret2
      exact ⟨A', c', L', rfl, hO, HFIN.out, hB⟩
end Go.Proofs.YthbimjkcpmffcaaGreat
/- The walk of the document's Train (layer 7). -/
namespace Go.Proofs.YthbimjkcpmffcaaGreat
open Go.RowKit
set_option linter.unusedVariables false
set_option maxRecDepth 100000 in
set_option maxHeartbeats 1000000 in
theorem rTrain_no (A : Option Addr) (c : Nat) (L : List Vc) (n : Nat) (hn : n = L.length) (k r s : Int) (w : World) (D : Nat) (hx : RdV w D A L) (hl : L.length ≤ 140737488355328) (h : ¬ mayT (vecs L) k r) :
    Calls Tryz.prog 87 #[.slice A n c, .int .i64 k, .int .i64 r, .int .u64 s] w fun e w' => e = .returned (.tuple #[.slice none 0 0, .int .i64 1]) ∧ ∃ nq, w' = w.drewN nq := by
  have H := Lib.hid (together_any A c L n hn w D hx hl)
  subst hn
  have hlen : ((vecs L).length : Int) = L.length := by rw [vecs_len]
  clear hx
  cases hb : mayB (vecs L) with
  | false =>
    rw [hb] at H
    go_enter Tryz.func87, Tryz.ntmps87
    go_wp2_with fail
    refine H.out.mono ?_
    rintro e w' ⟨rfl, nq, rfl⟩
    go_wp2
    go_ret2
    exact ⟨rfl, _, rfl⟩
  | true =>
    rw [hb] at H
    have h0 : ¬ (1 ≤ k ∧ k ≤ 64 ∧ k ≤ (L.length : Int) ∧ 0 ≤ r ∧ r ≤ 100) := fun h' => h ⟨hb, by rw [hlen]; exact h'⟩
    clear h hb hlen
    go_enter Tryz.func87, Tryz.ntmps87
    go_wp2_with fail
    refine H.out.mono ?_
    rintro e w' ⟨rfl, nq, rfl⟩
    by_cases h1 : k < 1
    · have e1 : decide (k < 1) = true := decide_eq_true h1
      clear h0 h1
      go_wp2
      go_ret2
      exact ⟨rfl, _, rfl⟩
    · have e1 : decide (k < 1) = false := decide_eq_false h1
      by_cases h2 : 64 < k
      · have e2 : decide (64 < k) = true := decide_eq_true h2
        clear h0 h1 h2
        go_wp2
        go_ret2
        exact ⟨rfl, _, rfl⟩
      · have e2 : decide (64 < k) = false := decide_eq_false h2
        by_cases h3 : (L.length : Int) < k
        · have e3 : decide ((L.length : Int) < k) = true := decide_eq_true h3
          clear h0 h1 h2 h3
          go_wp2
          go_ret2
          exact ⟨rfl, _, rfl⟩
        · have e3 : decide ((L.length : Int) < k) = false := decide_eq_false h3
          by_cases h4 : r < 0
          · have e4 : decide (r < 0) = true := decide_eq_true h4
            clear h0 h1 h2 h3 h4
            go_wp2
            go_ret2
            exact ⟨rfl, _, rfl⟩
          · have e4 : decide (r < 0) = false := decide_eq_false h4
            have e5 : decide (100 < r) = true := decide_eq_true (by omega)
            clear h0 h1 h2 h3 h4
            go_wp2
            go_ret2
            exact ⟨rfl, _, rfl⟩
set_option maxRecDepth 100000 in
set_option maxHeartbeats 4000000 in
theorem rTrain_yes (A : Option Addr) (c : Nat) (L : List Vc) (n : Nat) (hn : n = L.length) (k r s : Nat) (w : World) (hs : s < 18446744073709551616) (hx : RdV w w.heap.size A L) (hb : mayB (vecs L) = true) (h1 : 1 ≤ k) (h2 : k ≤ 64) (h3 : k ≤ L.length) (h4 : r ≤ 100) (hb8 : B8 (vecs L)) :
    Calls Tryz.prog 87 #[.slice A n c, .int .i64 k, .int .i64 r, .int .u64 s] w fun e w' => ∃ A' c' L', e = .returned (.tuple #[.slice A' L'.length c', .int .i64 0]) ∧ OwnV w' w.heap.size A' c' L' ∧ vecs L' = stepsL (vecs L) r (firstL (vecs L) s k) ∧ Below w.heap.size w w' := by
  subst hn
  have hm := mayB_yes hb
  have hl2 : L.length ≤ 2048 := by have := hm.2.1; rw [vecs_len] at this; exact this
  have H := Lib.hid (together_any A c L _ rfl w _ hx (by omega))
  rw [hb] at H
  have HD := Lib.hid hm.2.2
  have HBL := Lib.hid (mayB_len hb)
  have HB8 := Lib.hid hb8
  have HMAY := Lib.hid (stepsL_may (firstL_may (s := s) hb h1 h2 (by rw [vecs_len]; exact h3)))
  have HB8F := Lib.hid (stepsL_b8 (vs := vecs L) (ms := firstL (vecs L) s k) (fun v hv => hb8 v (firstL_mem hv)) hb8)
  have HPK := Lib.hid (rPick_yes s L.length k hs hl2 h3)
  have HPL := Lib.hid (pkL_len (s := s) h3)
  have HPX := Lib.hid (fun x (hx : x ∈ pkL s L.length k) => pkL_lt hx)
  have HFT := Lib.hid (fun i x (hi : i < k) (hx : (pkL s L.length k)[i]?.getD 0 = x) => firstL_take (vs := vecs L) (s := s) (x := x) hi (by rw [vecs_len]; exact h3) (by rw [vecs_len]; exact hx))
  have HFL := Lib.hid (firstL_len (vs := vecs L) (s := s) (k := k) (by rw [vecs_len]; exact h3))
  obtain ⟨F, eF⟩ : ∃ F, firstL (vecs L) s k = F := ⟨_, rfl⟩
  rw [eF] at HMAY HB8F HFT HFL ⊢
  obtain ⟨P, eP⟩ : ∃ P, pkL s L.length k = P := ⟨_, rfl⟩
  simp only [eP] at HPK HPL HPX HFT
  obtain ⟨T, eT⟩ : ∃ T, shufS s L.length = T := ⟨_, rfl⟩
  simp only [eT] at HPK
  obtain ⟨R, eR⟩ : ∃ R, stepsL (vecs L) r F = R := ⟨_, rfl⟩
  rw [eR]
  have ER := Lib.hid eR
  obtain ⟨i0, hi, hz0, hz1, hz2⟩ := info_parts Tryz.info74
  obtain ⟨i1, hi1, hy0, hy1, hy2⟩ := info_parts Tryz.info25v
  have e1 : decide ((k : Int) < 1) = false := decide_eq_false (by omega)
  have e2 : decide ((64 : Int) < (k : Int)) = false := decide_eq_false (by omega)
  have e3 : decide ((L.length : Int) < (k : Int)) = false := decide_eq_false (by omega)
  have e4 : decide ((r : Int) < 0) = false := decide_eq_false (by omega)
  have e5 : decide ((100 : Int) < (r : Int)) = false := decide_eq_false (by omega)
  clear hm hb hb8 eF eP eT eR
  go_enter Tryz.func87, Tryz.ntmps87
  go_wp2_with fail
  refine H.out.mono ?_
  rintro e w' ⟨rfl, nq, rfl⟩
  have bel0 : Below w.heap.size w (w.drewN nq) := below_drewN (Below.refl _ _) nq
  obtain ⟨W0, eW⟩ : ∃ W0, w.drewN nq = W0 := ⟨_, rfl⟩
  rw [eW] at bel0 ⊢
  clear eW H
  go_wp2_with (go_at_call 126; refine (HPK.out W0).mono ?_; rintro e W1 ⟨v, rfl, hpo, hpb⟩; obtain ⟨PA, Pm, Pc, rfl⟩ := own_form hpo; obtain rfl := (own_len hpo).symm)
  have belW : Below w.heap.size w W1 := bel0.trans (hpb.mono bel0.size)
  have hszW := belW.size
  have hpos : 0 < k := by omega
  clear bel0 hpb HPK
  go_loopw [13, 14] (fun v i wr => ∃ j : Nat, j ≤ k ∧ i = .int .i64 j ∧ ∃ A' c' L', v = .slice A' (L' : List Vc).length c' ∧ OwnV wr W1.heap.size A' c' L' ∧ Hid (vecs L' = F.take j) ∧ Below W1.heap.size W1 wr) (fun _ i _ => k - (intOf i).toNat)
  case atStart => exact ⟨0, by omega, rfl, none, 0, [], rfl, OwnV.nil _ _, rfl, Below.refl _ _⟩
  case round =>
    obtain ⟨j, hj, rfl, A', c', L', rfl, hO, hR, hB⟩ := hrel
    by_cases hlt : j < k
    · obtain ⟨pg, rfl, -⟩ := own_some hpo hpos
      have hPl : j < P.length := by rw [HPL.out]; exact hlt
      have q1 := ((own_below hpo hB).cellAt j (by omega)).trans (cells_at hPl)
      have hxl := HPX.out _ (List.getElem_mem hPl)
      have hft := HFT.out j (P[j]?.getD 0) hlt rfl
      rw [List.getElem?_eq_getElem hPl, Option.getD_some] at q1 hft
      obtain ⟨x, ex⟩ : ∃ x, P[j] = x := ⟨_, rfl⟩
      rw [ex] at q1 hxl hft
      have hpgl := (hpo.lt pg rfl).2
      obtain ⟨b, off, a1, c1, v1, rfl, hBk, hck, hrd, hv1⟩ := hx.at_ hxl
      have hBw := belW.trans (hB.mono hszW)
      have hsz := hB.size
      have r1 : wr.cell? ⟨b, off + x, none⟩ = some (.slice a1 v1.length c1) := (hBw.cell (p := ⟨b, off + x, none⟩) hBk).trans hck
      have hv0 : 1 ≤ v1.length ∧ v1.length ≤ 64 := by
        rw [HBL.out v1 (List.mem_of_getElem? (vecs_at hv1.out))]; exact ⟨HD.out.1, HD.out.2.1⟩
      rw [vecs_vAt hv1.out] at hft
      have HF := Lib.hid hft
      have hbl : b < wr.heap.size := by omega
      have r2 : (wr.alloc (.cells #[] 74)).cell? ⟨b, off + x, none⟩ = some (.slice a1 v1.length c1) := (World.cell?_alloc_lt wr _ ⟨b, off + x, none⟩ hbl).trans r1
      have q2 : (wr.alloc (.cells #[] 74)).cell? ⟨pg, j, none⟩ = some (.int .i64 (x : Nat)) := (World.cell?_alloc_lt wr _ ⟨pg, j, none⟩ (by show pg < wr.heap.size; omega)).trans q1
      have owne : (wr.alloc (.cells #[] 74)).ownsRow W1.heap.size 74 1 (.slice (some ⟨wr.heap.size, 0, none⟩) 0 0) 0 (([] : List Int).map (Value.int .i8)) := World.ownsRow_lit (base := W1.heap.size) (e := 74) (size := 1) wr #[] 0 (by omega) (by decide) rfl
      have hrd2 : Rd .i8 (wr.alloc (.cells #[] 74)) w.heap.size a1 v1 := hrd.below (hBw.alloc (by omega) _)
      have hLk : L'.length ≤ 64 := by
        have := congrArg List.length hR.out
        rw [vecs_len, List.length_take] at this
        omega
      clear hft ex hPl q1 r1 hck hrd hv1
      go_wp2_with (first
        | (at_builtin; refine wpList_app _ rfl _ _ 25 rfl W1.heap.size 74 i0 (.int .i8 0) 1 Tryz.underlying25 hi hz0 hz1 hz2 rfl .i8 (.slice (some ⟨wr.heap.size, 0, none⟩) 0 0) 0 [] rfl owne a1 v1.length c1 v1 w.heap.size rfl rfl hrd2 (fun e => by obtain ⟨b', off', hA, _⟩ := hrd2 (by omega); rw [e] at hA; cases hA) (by show 0 + v1.length ≤ 9223372036854775807; omega) (by omega) (by simp; omega) ?_; intro v' w1 hown' hgrow
           rw [Nat.zero_add, List.nil_append] at hown'
           obtain ⟨xa, xm, xc, rfl⟩ := own_form hown'
           obtain rfl := own_len hown'
           have hb5 : Below wr.heap.size wr w1 := ((Below.refl _ _).alloc (Nat.le_refl _) _).grown hgrow (by simp) (fun r hr => by
             have : wr.heap.size = r := by simpa [Value.ownBlock] using hr
             omega)
           have hO3 := hO.below hb5
           have hs6 := hb5.size)
        | (at_builtin; refine wpList_append_own _ rfl _ _ 62 rfl W1.heap.size 25 i1 (.slice none 0 0) 1 24 Tryz.underlying62 hi1 hy0 hy1 hy2 rfl (by decide) _ _ _ rfl (hO3.1.alloc _) ⟨w1.heap.size, 0, none⟩ 1 1 [.slice xa v1.length xc] rfl rfl (cell_one_new _ _ _) (by simp [Value.oneCell']) (by show L'.length + 1 ≤ 9223372036854775807; omega) (by omega) (by simp; omega) ?_; intro v3 w3 hown3 hgrow3 _))
      have hx1 : VOwn w1 W1.heap.size (xa, xc, v1) := hown'
      obtain ⟨A5, c5, rfl, hO5⟩ := hO3.snoc hx1 hown3 hgrow3
      have hB7 : Below W1.heap.size W1 w3 := ((hB.trans (hb5.mono hsz)).alloc (by omega) _).grown hgrow3 (by simp; omega) (fun r hr => (hO3.1.lt r hr).1)
      go_roundw
      case rel => exact ⟨j + 1, by omega, by go_num, A5, c5, L' ++ [(xa, xc, v1)], rfl, hO5, Lib.hid (by rw [vecs_snoc, hR.out, HF.out]), hB7⟩
      case measure => simp [intOf]; omega
    · obtain rfl : j = k := by omega
      have hO2 : OwnV wr w.heap.size A' c' L' := hO.base hszW
      have hR2 : Hid (vecs L' = stepsL (vecs L) 0 F) := Lib.hid (by rw [hR.out, List.take_of_length_le (by rw [HFL.out]; exact Nat.le_refl _)]; rfl)
      have hB2 := belW.trans (hB.mono hszW)
      clear hO hR hB
      go_wp2
      go_loopw [13, 15] (fun v i wz => ∃ q : Nat, q ≤ r ∧ i = .int .i64 q ∧ ∃ A' c' L', v = .slice A' (L' : List Vc).length c' ∧ OwnV wz w.heap.size A' c' L' ∧ Hid (vecs L' = stepsL (vecs L) q F) ∧ Below w.heap.size w wz) (fun _ i _ => r - (intOf i).toNat)
      case atStart => exact ⟨0, by omega, rfl, A', c', L', rfl, hO2, hR2, hB2⟩
      case round =>
        clear hO2 hR2 hB2
        obtain ⟨q, hq, rfl, A2, c2, L2, rfl, hO, hR, hB⟩ := hrel
        by_cases hlt2 : q < r
        · have hmy : mayM (vecs L2) (vecs L) = true := by rw [hR.out]; exact HMAY.out q
          have ST := Lib.hid (rStep_yes A2 c2 L2 _ rfl A c L _ rfl wr hO.rd ((hx.below hB).more hB.size) hmy (by rw [hR.out]; exact HB8F.out q) HB8.out)
          have hsz := hB.size
          clear hmy hO
          go_wp2_with (go_at_call 127; refine ST.out.mono ?_; rintro e w1 ⟨A3, c3, L3, rfl, hO3, hR3, hB3⟩)
          have HR3 := Lib.hid hR3
          clear hR3
          go_roundw
          case rel => exact ⟨q + 1, by omega, by go_num, A3, c3, L3, rfl, hO3.base hsz, Lib.hid (by rw [HR3.out, hR.out]; rfl), hB.trans (hB3.mono hsz)⟩
          case measure => simp [intOf]; omega
        · obtain rfl : q = r := by omega
          have hfin := hR.out
          rw [ER.out] at hfin
          have HFIN := Lib.hid hfin
          clear hfin
          go_wp2
          go_ret2
          exact ⟨A2, c2, L2, rfl, hO, HFIN.out, hB⟩
end Go.Proofs.YthbimjkcpmffcaaGreat
