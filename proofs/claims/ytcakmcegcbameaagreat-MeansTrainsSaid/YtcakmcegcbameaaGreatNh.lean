/- The walk of the document's Train (layer 7). -/
import Derived.Test.YtcakmcegcbameaaGreatNg
import Derived.Test.YtcakmcegcbameaaGreatEb
import Derived.Test.YtcakmcegcbameaaGreatNp
namespace Go.Proofs.YtcakmcegcbameaaGreat
open Go.RowKit
set_option linter.unusedVariables false
set_option maxRecDepth 100000 in
set_option maxHeartbeats 1000000 in
theorem rTrain_no (A : Option Addr) (c : Nat) (L : List Vc) (n : Nat) (hn : n = L.length) (k r s : Int) (w : World) (D : Nat) (hx : RdV w D A L) (hl : L.length ≤ 140737488355328) (h : ¬ mayT (vecs L) k r) :
    Calls Tryz.prog 17 #[.slice A n c, .int .i64 k, .int .i64 r, .int .u64 s] w fun e w' => e = .returned (.tuple #[.slice none 0 0, .int .i64 1]) ∧ ∃ nq, w' = w.drewN nq := by
  have H := Lib.hid (together_any A c L n hn w D hx hl)
  subst hn
  have hlen : ((vecs L).length : Int) = L.length := by rw [vecs_len]
  clear hx
  cases hb : mayB (vecs L) with
  | false =>
    rw [hb] at H
    go_enter Tryz.func17, Tryz.ntmps17
    go_wp2_with fail
    refine H.out.mono ?_
    rintro e w' ⟨rfl, nq, rfl⟩
    go_wp2
    go_ret2
    exact ⟨rfl, _, rfl⟩
  | true =>
    rw [hb] at H
    have h0 : ¬ (1 ≤ k ∧ k ≤ 64 ∧ k ≤ (L.length : Int) ∧ 0 ≤ r ∧ r ≤ 100) := fun h' => h ⟨hb, by rw [hlen]; exact h'⟩
    clear h hb hlen
    go_enter Tryz.func17, Tryz.ntmps17
    go_wp2_with fail
    refine H.out.mono ?_
    rintro e w' ⟨rfl, nq, rfl⟩
    by_cases h1 : k < 1
    · have e1 : decide (k < 1) = true := decide_eq_true h1
      clear h0 h1
      go_wp2
      go_ret2
      exact ⟨rfl, _, rfl⟩
    · have e1 : decide (k < 1) = false := decide_eq_false h1
      by_cases h2 : 64 < k
      · have e2 : decide (64 < k) = true := decide_eq_true h2
        clear h0 h1 h2
        go_wp2
        go_ret2
        exact ⟨rfl, _, rfl⟩
      · have e2 : decide (64 < k) = false := decide_eq_false h2
        by_cases h3 : (L.length : Int) < k
        · have e3 : decide ((L.length : Int) < k) = true := decide_eq_true h3
          clear h0 h1 h2 h3
          go_wp2
          go_ret2
          exact ⟨rfl, _, rfl⟩
        · have e3 : decide ((L.length : Int) < k) = false := decide_eq_false h3
          by_cases h4 : r < 0
          · have e4 : decide (r < 0) = true := decide_eq_true h4
            clear h0 h1 h2 h3 h4
            go_wp2
            go_ret2
            exact ⟨rfl, _, rfl⟩
          · have e4 : decide (r < 0) = false := decide_eq_false h4
            have e5 : decide (100 < r) = true := decide_eq_true (by omega)
            clear h0 h1 h2 h3 h4
            go_wp2
            go_ret2
            exact ⟨rfl, _, rfl⟩
set_option maxRecDepth 100000 in
set_option maxHeartbeats 4000000 in
theorem rTrain_yes (A : Option Addr) (c : Nat) (L : List Vc) (n : Nat) (hn : n = L.length) (k r s : Nat) (w : World) (hs : s < 18446744073709551616) (hx : RdV w w.heap.size A L) (hb : mayB (vecs L) = true) (h1 : 1 ≤ k) (h2 : k ≤ 64) (h3 : k ≤ L.length) (h4 : r ≤ 100) (hb8 : B8 (vecs L)) :
    Calls Tryz.prog 17 #[.slice A n c, .int .i64 k, .int .i64 r, .int .u64 s] w fun e w' => ∃ A' c' L', e = .returned (.tuple #[.slice A' L'.length c', .int .i64 0]) ∧ OwnV w' w.heap.size A' c' L' ∧ vecs L' = stepsL (vecs L) r (firstL (vecs L) s k) ∧ Below w.heap.size w w' := by
  subst hn
  have hm := mayB_yes hb
  have hl2 : L.length ≤ 2048 := by have := hm.2.1; rw [vecs_len] at this; exact this
  have H := Lib.hid (together_any A c L _ rfl w _ hx (by omega))
  rw [hb] at H
  have HD := Lib.hid hm.2.2
  have HBL := Lib.hid (mayB_len hb)
  have HB8 := Lib.hid hb8
  have HMAY := Lib.hid (stepsL_may (firstL_may (s := s) hb h1 h2 (by rw [vecs_len]; exact h3)))
  have HB8F := Lib.hid (stepsL_b8 (vs := vecs L) (ms := firstL (vecs L) s k) (fun v hv => hb8 v (firstL_mem hv)) hb8)
  have HPK := Lib.hid (rPick_yes s L.length k hs hl2 h3)
  have HPL := Lib.hid (pkL_len (s := s) h3)
  have HPX := Lib.hid (fun x (hx : x ∈ pkL s L.length k) => pkL_lt hx)
  have HFT := Lib.hid (fun i x (hi : i < k) (hx : (pkL s L.length k)[i]?.getD 0 = x) => firstL_take (vs := vecs L) (s := s) (x := x) hi (by rw [vecs_len]; exact h3) (by rw [vecs_len]; exact hx))
  have HFL := Lib.hid (firstL_len (vs := vecs L) (s := s) (k := k) (by rw [vecs_len]; exact h3))
  obtain ⟨F, eF⟩ : ∃ F, firstL (vecs L) s k = F := ⟨_, rfl⟩
  rw [eF] at HMAY HB8F HFT HFL ⊢
  obtain ⟨P, eP⟩ : ∃ P, pkL s L.length k = P := ⟨_, rfl⟩
  simp only [eP] at HPK HPL HPX HFT
  obtain ⟨T, eT⟩ : ∃ T, shufS s L.length = T := ⟨_, rfl⟩
  simp only [eT] at HPK
  obtain ⟨R, eR⟩ : ∃ R, stepsL (vecs L) r F = R := ⟨_, rfl⟩
  rw [eR]
  have ER := Lib.hid eR
  obtain ⟨i0, hi, hz0, hz1, hz2⟩ := info_parts Tryz.info75
  obtain ⟨i1, hi1, hy0, hy1, hy2⟩ := info_parts Tryz.info54v
  have e1 : decide ((k : Int) < 1) = false := decide_eq_false (by omega)
  have e2 : decide ((64 : Int) < (k : Int)) = false := decide_eq_false (by omega)
  have e3 : decide ((L.length : Int) < (k : Int)) = false := decide_eq_false (by omega)
  have e4 : decide ((r : Int) < 0) = false := decide_eq_false (by omega)
  have e5 : decide ((100 : Int) < (r : Int)) = false := decide_eq_false (by omega)
  clear hm hb hb8 eF eP eT eR
  go_enter Tryz.func17, Tryz.ntmps17
  go_wp2_with fail
  refine H.out.mono ?_
  rintro e w' ⟨rfl, nq, rfl⟩
  have bel0 : Below w.heap.size w (w.drewN nq) := below_drewN (Below.refl _ _) nq
  obtain ⟨W0, eW⟩ : ∃ W0, w.drewN nq = W0 := ⟨_, rfl⟩
  rw [eW] at bel0 ⊢
  clear eW H
  go_wp2_with (go_at_call 72; refine (HPK.out W0).mono ?_; rintro e W1 ⟨v, rfl, hpo, hpb⟩; obtain ⟨PA, Pm, Pc, rfl⟩ := own_form hpo; obtain rfl := (own_len hpo).symm)
  have belW : Below w.heap.size w W1 := bel0.trans (hpb.mono bel0.size)
  have hszW := belW.size
  have hpos : 0 < k := by omega
  clear bel0 hpb HPK
  go_loopw [13, 14] (fun v i wr => ∃ j : Nat, j ≤ k ∧ i = .int .i64 j ∧ ∃ A' c' L', v = .slice A' (L' : List Vc).length c' ∧ OwnV wr W1.heap.size A' c' L' ∧ Hid (vecs L' = F.take j) ∧ Below W1.heap.size W1 wr) (fun _ i _ => k - (intOf i).toNat)
  case atStart => exact ⟨0, by omega, rfl, none, 0, [], rfl, OwnV.nil _ _, rfl, Below.refl _ _⟩
  case round =>
    obtain ⟨j, hj, rfl, A', c', L', rfl, hO, hR, hB⟩ := hrel
    by_cases hlt : j < k
    · obtain ⟨pg, rfl, -⟩ := own_some hpo hpos
      have hPl : j < P.length := by rw [HPL.out]; exact hlt
      have q1 := ((own_below hpo hB).cellAt j (by omega)).trans (cells_at hPl)
      have hxl := HPX.out _ (List.getElem_mem hPl)
      have hft := HFT.out j (P[j]?.getD 0) hlt rfl
      rw [List.getElem?_eq_getElem hPl, Option.getD_some] at q1 hft
      obtain ⟨x, ex⟩ : ∃ x, P[j] = x := ⟨_, rfl⟩
      rw [ex] at q1 hxl hft
      have hpgl := (hpo.lt pg rfl).2
      obtain ⟨b, off, a1, c1, v1, rfl, hBk, hck, hrd, hv1⟩ := hx.at_ hxl
      have hBw := belW.trans (hB.mono hszW)
      have hsz := hB.size
      have r1 : wr.cell? ⟨b, off + x, none⟩ = some (.slice a1 v1.length c1) := (hBw.cell (p := ⟨b, off + x, none⟩) hBk).trans hck
      have hv0 : 1 ≤ v1.length ∧ v1.length ≤ 64 := by
        rw [HBL.out v1 (List.mem_of_getElem? (vecs_at hv1.out))]; exact ⟨HD.out.1, HD.out.2.1⟩
      rw [vecs_vAt hv1.out] at hft
      have HF := Lib.hid hft
      have hbl : b < wr.heap.size := by omega
      have r2 : (wr.alloc (.cells #[] 75)).cell? ⟨b, off + x, none⟩ = some (.slice a1 v1.length c1) := (World.cell?_alloc_lt wr _ ⟨b, off + x, none⟩ hbl).trans r1
      have q2 : (wr.alloc (.cells #[] 75)).cell? ⟨pg, j, none⟩ = some (.int .i64 (x : Nat)) := (World.cell?_alloc_lt wr _ ⟨pg, j, none⟩ (by show pg < wr.heap.size; omega)).trans q1
      have owne : (wr.alloc (.cells #[] 75)).ownsRow W1.heap.size 75 1 (.slice (some ⟨wr.heap.size, 0, none⟩) 0 0) 0 (([] : List Int).map (Value.int .i8)) := World.ownsRow_lit (base := W1.heap.size) (e := 75) (size := 1) wr #[] 0 (by omega) (by decide) rfl
      have hrd2 : Rd .i8 (wr.alloc (.cells #[] 75)) w.heap.size a1 v1 := hrd.below (hBw.alloc (by omega) _)
      have hLk : L'.length ≤ 64 := by
        have := congrArg List.length hR.out
        rw [vecs_len, List.length_take] at this
        omega
      clear hft ex hPl q1 r1 hck hrd hv1
      go_wp2_with (first
        | (at_builtin; refine wpList_app _ rfl _ _ 54 rfl W1.heap.size 75 i0 (.int .i8 0) 1 Tryz.underlying54 hi hz0 hz1 hz2 rfl .i8 (.slice (some ⟨wr.heap.size, 0, none⟩) 0 0) 0 [] rfl owne a1 v1.length c1 v1 w.heap.size rfl rfl hrd2 (fun e => by obtain ⟨b', off', hA, _⟩ := hrd2 (by omega); rw [e] at hA; cases hA) (by show 0 + v1.length ≤ 9223372036854775807; omega) (by omega) (by simp; omega) ?_; intro v' w1 hown' hgrow
           rw [Nat.zero_add, List.nil_append] at hown'
           obtain ⟨xa, xm, xc, rfl⟩ := own_form hown'
           obtain rfl := own_len hown'
           have hb5 : Below wr.heap.size wr w1 := ((Below.refl _ _).alloc (Nat.le_refl _) _).grown hgrow (by simp) (fun r hr => by
             have : wr.heap.size = r := by simpa [Value.ownBlock] using hr
             omega)
           have hO3 := hO.below hb5
           have hs6 := hb5.size)
        | (at_builtin; refine wpList_append_own _ rfl _ _ 22 rfl W1.heap.size 54 i1 (.slice none 0 0) 1 24 Tryz.underlying22 hi1 hy0 hy1 hy2 rfl (by decide) _ _ _ rfl (hO3.1.alloc _) ⟨w1.heap.size, 0, none⟩ 1 1 [.slice xa v1.length xc] rfl rfl (cell_one_new _ _ _) (by simp [Value.oneCell']) (by show L'.length + 1 ≤ 9223372036854775807; omega) (by omega) (by simp; omega) ?_; intro v3 w3 hown3 hgrow3 _))
      have hx1 : VOwn w1 W1.heap.size (xa, xc, v1) := hown'
      obtain ⟨A5, c5, rfl, hO5⟩ := hO3.snoc hx1 hown3 hgrow3
      have hB7 : Below W1.heap.size W1 w3 := ((hB.trans (hb5.mono hsz)).alloc (by omega) _).grown hgrow3 (by simp; omega) (fun r hr => (hO3.1.lt r hr).1)
      go_roundw
      case rel => exact ⟨j + 1, by omega, by go_num, A5, c5, L' ++ [(xa, xc, v1)], rfl, hO5, Lib.hid (by rw [vecs_snoc, hR.out, HF.out]), hB7⟩
      case measure => simp [intOf]; omega
    · obtain rfl : j = k := by omega
      have hO2 : OwnV wr w.heap.size A' c' L' := hO.base hszW
      have hR2 : Hid (vecs L' = stepsL (vecs L) 0 F) := Lib.hid (by rw [hR.out, List.take_of_length_le (by rw [HFL.out]; exact Nat.le_refl _)]; rfl)
      have hB2 := belW.trans (hB.mono hszW)
      clear hO hR hB
      go_wp2
      go_loopw [13, 15] (fun v i wz => ∃ q : Nat, q ≤ r ∧ i = .int .i64 q ∧ ∃ A' c' L', v = .slice A' (L' : List Vc).length c' ∧ OwnV wz w.heap.size A' c' L' ∧ Hid (vecs L' = stepsL (vecs L) q F) ∧ Below w.heap.size w wz) (fun _ i _ => r - (intOf i).toNat)
      case atStart => exact ⟨0, by omega, rfl, A', c', L', rfl, hO2, hR2, hB2⟩
      case round =>
        clear hO2 hR2 hB2
        obtain ⟨q, hq, rfl, A2, c2, L2, rfl, hO, hR, hB⟩ := hrel
        by_cases hlt2 : q < r
        · have hmy : mayM (vecs L2) (vecs L) = true := by rw [hR.out]; exact HMAY.out q
          have ST := Lib.hid (rStep_yes A2 c2 L2 _ rfl A c L _ rfl wr hO.rd ((hx.below hB).more hB.size) hmy (by rw [hR.out]; exact HB8F.out q) HB8.out)
          have hsz := hB.size
          clear hmy hO
          go_wp2_with (go_at_call 9; refine ST.out.mono ?_; rintro e w1 ⟨A3, c3, L3, rfl, hO3, hR3, hB3⟩)
          have HR3 := Lib.hid hR3
          clear hR3
          go_roundw
          case rel => exact ⟨q + 1, by omega, by go_num, A3, c3, L3, rfl, hO3.base hsz, Lib.hid (by rw [HR3.out, hR.out]; rfl), hB.trans (hB3.mono hsz)⟩
          case measure => simp [intOf]; omega
        · obtain rfl : q = r := by omega
          have hfin := hR.out
          rw [ER.out] at hfin
          have HFIN := Lib.hid hfin
          clear hfin
          go_wp2
          go_ret2
          exact ⟨A2, c2, L2, rfl, hO, HFIN.out, hB⟩
end Go.Proofs.YtcakmcegcbameaaGreat
