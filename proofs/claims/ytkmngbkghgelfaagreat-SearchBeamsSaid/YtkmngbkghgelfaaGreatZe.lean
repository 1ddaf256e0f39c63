/- The exact search, as the document has it. -/
import Derived.Test.YtkmngbkghgelfaaGreatZg
import Derived.Deep.QuietTactic
import Derived.Deep.AppendLies
import Derived.BigQuiet
import Derived.Deep.Cut
import Derived.Deep.RegionHeld3
namespace Go.Proofs.YtkmngbkghgelfaaGreat
open Go.Shelf Go.RowKit Go.Lib
open Go.Sort hiding Below
set_option linter.unusedVariables false
set_option linter.unusedSimpArgs false
set_option maxRecDepth 100000 in
set_option maxHeartbeats 8000000 in
theorem refExact_any (A : Option Addr) (c : Nat) (L : List Gn) (s : Int) (B : Option Addr) (q : Nat) (v : List Int) (k : Int) (w : World) (hx : GArg w A L) (hv : Rd .i8 w w.heap.size B v) (bv : ∀ n ∈ v, -128 ≤ n ∧ n ≤ 127) :
    Calls Tryz.prog 10 #[.agg #[.slice A L.length c, .int .i64 s], .slice B v.length q, .int .i64 k] w fun e w' => ∃ A' c', e = .returned (.tuple #[.slice A' (exactH (pns L) s v k).length c', .int .i64 (errG (exactB (pns L) s v k))]) ∧ RdH w' w'.heap.size A' (exactH (pns L) s v k) ∧ Below w.heap.size w w' := by
  have HX := Lib.hid hx
  have HVV := Lib.hid hv
  have HBV := Lib.hid bv
  have hl : L.length ≤ 20000 := by have := hx.sm.len; rwa [pns_len] at this
  have HPL := Lib.hid (pns_len L)
  have HW0 := Lib.hid (Whole.new w 24 #[.slice A L.length c, .int .i64 s])
  have HB0 := Lib.hid (below_one (Below.refl w.heap.size w) (.cells #[.slice A L.length c, .int .i64 s] 24))
  obtain ⟨w1, ew1⟩ : ∃ w1, w.alloc (.cells #[.slice A L.length c, .int .i64 s] 24) = w1 := ⟨_, rfl⟩
  obtain ⟨g, eg⟩ : ∃ g, w.heap.size = g := ⟨_, rfl⟩
  rw [ew1] at HW0 HB0
  rw [eg] at HW0
  have HCL : Hid (∀ W, Below w1.heap.size w1 W → W.cell? ⟨g, 0, none⟩ = some (.slice A L.length c) ∧ W.cell? ⟨g, 1, none⟩ = some (.int .i64 s)) := Lib.hid (fun W h => by
    have z0 := HW0.out.below h HW0.out.lt
    exact ⟨z0.cell 0, z0.cell 1⟩)
  have HUP : Hid (∀ W, Below w1.heap.size w1 W → Below w.heap.size w W) := Lib.hid (fun W h => HB0.out.trans (h.mono HB0.out.size))
  have HM := Lib.hid (refMay_any A c L s B q v w1 (hx.below HB0.out))
  obtain ⟨y0, y1⟩ := HCL.out _ (Below.refl _ _)
  clear hx hv bv
  go_enter Tryz.func10, Tryz.ntmps10
  go_upto_region 1 with fail
  try rw [ew1]
  try rw [eg]
  have HEG := Lib.hid eg
  clear ew1 eg
  go_wp2_with fail
  refine HM.out.mono ?_
  rintro e w2 ⟨rfl, b2⟩
  dsimp only
  have HB2 := Lib.hid b2
  clear y0 y1 b2 HM
  have HNO : Hid (exactB (pns L) s v k = false → ∀ W, Below w1.heap.size w1 W → ∃ A' c', Ending.returned (.tuple #[.slice none 0 0, .int .i64 1]) = .returned (.tuple #[.slice A' (exactH (pns L) s v k).length c', .int .i64 (errG (exactB (pns L) s v k))]) ∧ RdH W W.heap.size A' (exactH (pns L) s v k) ∧ Below w.heap.size w W) := Lib.hid (fun hB W hW => by
    have e : exactH (pns L) s v k = [] := by unfold exactH; rw [hB]; rfl
    rw [e, hB]
    exact ⟨none, 0, rfl, fun h => absurd h (Nat.lt_irrefl _), HUP.out _ hW⟩)
  cases hM : mayS (pns L) s v with
  | false =>
    have hB : exactB (pns L) s v k = false := by rw [exactB_eq, hM]; rfl
    have HNB := Lib.hid (HNO.out hB _ HB2.out)
    clear hM hB HNO
    go_wp2
    go_ret2
    exact HNB.out
  | true =>
  by_cases h1 : k < 1
  · have hB : exactB (pns L) s v k = false := by rw [exactB_eq, hM]; exact decide_eq_false (by omega)
    have f1 : decide (k < 1) = true := decide_eq_true h1
    have HNB := Lib.hid (HNO.out hB _ HB2.out)
    clear hM hB HNO h1
    go_wp2
    go_ret2
    exact HNB.out
  have f1 : decide (k < 1) = false := decide_eq_false h1
  by_cases h2 : 256 < k
  · have hB : exactB (pns L) s v k = false := by rw [exactB_eq, hM]; exact decide_eq_false (by omega)
    have f2 : decide (256 < k) = true := decide_eq_true h2
    have HNB := Lib.hid (HNO.out hB _ HB2.out)
    clear hM hB HNO h1 h2
    go_wp2
    go_ret2
    exact HNB.out
  have f2 : decide (256 < k) = false := decide_eq_false h2
  have hB : exactB (pns L) s v k = true := by rw [exactB_eq, hM]; exact decide_eq_true (by omega)
  obtain ⟨kn, rfl⟩ : ∃ kn : Nat, k = kn := ⟨k.toNat, by omega⟩
  have hX : exactH (pns L) s v (kn : Int) = (srt (hlP (pns L) v (List.range (pns L).length))).take kn := by unfold exactH; rw [hB]; rfl
  have HYES : Hid (∀ (A' : Option Addr) (c' n' : Nat) W, n' = ((srt (hlP (pns L) v (List.range L.length))).take kn).length → RdH W W.heap.size A' ((srt (hlP (pns L) v (List.range L.length))).take kn) → Below w1.heap.size w1 W → ∃ A'' c'', Ending.returned (.tuple #[.slice A' n' c', .int .i64 0]) = .returned (.tuple #[.slice A'' (exactH (pns L) s v (kn : Int)).length c'', .int .i64 (errG (exactB (pns L) s v (kn : Int)))]) ∧ RdH W W.heap.size A'' (exactH (pns L) s v (kn : Int)) ∧ Below w.heap.size w W) := Lib.hid (fun A' c' n' W hn hr hW => by
    rw [hX, hB, HPL.out, ← hn]
    exact ⟨A', c', rfl, hr, HUP.out _ hW⟩)
  have HMS := Lib.hid (mayS_yes hM)
  obtain ⟨i0, hi, hz0, hz1, hz2⟩ := info_parts Tryz.info78h
  have C0 : Hid (w2.ownsRow w2.heap.size 78 2 (.slice none 0 0) 0 (flatH (hlP (pns L) v (List.range 0)))) := Lib.hid ⟨rfl, .inl ⟨rfl, rfl⟩⟩
  clear hM hB hX HNO h1 h2
  obtain ⟨y0, y1⟩ := HCL.out _ HB2.out
  have hz12 : w1.heap.size ≤ w2.heap.size := HB2.out.size
  go_wp2
  go_loopw [8, 9] (fun l i wr => ∃ (j : Nat) (X : Option Addr) (xc : Nat), j ≤ L.length ∧ i = .int .i64 j ∧ l = .slice X j xc ∧ Hid (wr.ownsRow w2.heap.size 78 2 (.slice X j xc) j (flatH (hlP (pns L) v (List.range j)))) ∧ Hid (Below w1.heap.size w1 wr) ∧ Hid (w2.heap.size ≤ wr.heap.size)) (fun _ i _ => L.length - (intOf i).toNat)
  case atStart => exact ⟨0, none, 0, by omega, rfl, rfl, C0, HB2, Lib.hid (Nat.le_refl _)⟩
  case round =>
    clear C0 HB2 y0 y1
    obtain ⟨j, X, xc, hj, rfl, rfl, HO, HB, HZ⟩ := hrel
    obtain ⟨y0, y1⟩ := HCL.out _ HB.out
    have hz := HZ.out
    by_cases hlt : j < L.length
    · have e1 : decide ((j : Int) < (L.length : Int)) = true := decide_eq_true (by omega)
      have hjg : j < (pns L).length := by rw [HPL.out]; exact hlt
      have hub := HUP.out _ HB.out
      have CH := refHit_any A c L s j B q v wr (HX.out.below hub).rd hlt ((HVV.out.below hub).more hub.size) HBV.out HX.out.ok HMS.out.dim.2 (HMS.out.same _ (nAt_mem hjg))
      obtain ⟨x1, x2, hxx⟩ : ∃ x1 x2, hitP (pns L) v j = (x1, x2) := ⟨_, _, rfl⟩
      have HNX : Hid (hlP (pns L) v (List.range (j + 1)) = hlP (pns L) v (List.range j) ++ [(x1, x2)]) := Lib.hid (by
        rw [List.range_succ]; unfold hlP; rw [List.map_append, List.map_cons, hxx]; rfl)
      rw [hxx] at CH
      have HCH := Lib.hid CH
      obtain ⟨T, eT⟩ : ∃ T, hlP (pns L) v (List.range j) = T := ⟨_, rfl⟩
      rw [eT] at HO HNX
      clear CH hxx eT hub
      go_upto_region 7 with fail
      go_wp2_with fail
      refine HCH.out.mono ?_
      rintro e w3 ⟨rfl, b3⟩
      dsimp only
      have HB3 : Hid (Below w1.heap.size w1 w3) := Lib.hid (HB.out.trans (b3.mono HB.out.size))
      have HO3 := Lib.hid (own_below HO.out b3)
      have hz3 : w2.heap.size ≤ w3.heap.size := Nat.le_trans hz b3.size
      clear b3 HCH y0 y1 HO HB
      go_wp2_with (at_builtin; refine wpList_append_lies _ rfl (.tmp 29) (.tmp 34) 30 rfl w2.heap.size 78 i0 (.agg #[.int .u64 0, .int .i64 0]) 2 16 Tryz.underlying30 hi hz0 hz1 hz2 rfl (by omega) _ j (flatH T) rfl (HO3.out.alloc _) ⟨w3.heap.size, 0, none⟩ 1 1 [.int .u64 x1, .int .i64 x2] rfl rfl (World.news_of_block (cs := #[.int .u64 x1, .int .i64 x2]) (t := 78) (fr := (0, 0)) (heap_alloc_new w3 _)) (by simp [Value.oneCell']) (by omega) (by unfold maxLen; omega) (by omega) (by simp; omega) (w3.heap.size + 1) (by simp) ?_; intro gg cap w4 hown4 hgrow4 hat4 hlt4)
      have b4 : Hid (Below w1.heap.size w1 w4) := Lib.hid ((below_one HB3.out _).grown hgrow4 (by have := HB3.out.size; simp; omega) (fun r hr => by have := (HO3.out.lt r hr).1; omega))
      have h4 : Hid (w4.ownsRow w2.heap.size 78 2 (.slice (some ⟨gg, 0, none⟩) (j + 1) cap) (j + 1) (flatH (hlP (pns L) v (List.range (j + 1))))) := Lib.hid (by rw [HNX.out, flatH_app]; exact hown4)
      have z4 : Hid (w2.heap.size ≤ w4.heap.size) := Lib.hid (by have := (hown4.lt gg rfl).1; have := (hown4.lt gg rfl).2; omega)
      clear hown4 hgrow4 hat4 hlt4
      go_wp2
      go_roundw
      case rel => exact ⟨j + 1, some ⟨gg, 0, none⟩, cap, by omega, by go_num, by go_num, h4, b4, z4⟩
      case measure => simp [intOf]; omega
    · obtain rfl : j = L.length := by omega
      have e1 : decide ((L.length : Int) < (L.length : Int)) = false := decide_eq_false (by omega)
      obtain ⟨T, eT⟩ : ∃ T, hlP (pns L) v (List.range L.length) = T := ⟨_, rfl⟩
      have hTl : T.length = L.length := by rw [← eT, hlP_len, List.length_range]
      rw [eT] at HO HYES
      obtain ⟨A0, c0, hA0, hn0, hr0⟩ := own_sliceH HO.out
      injection hA0 with q1 q2 q3
      subst q1 q3
      have CS := Lib.hid (refSort_any X xc T L.length hTl.symm wr hr0 (by omega))
      have HTL := Lib.hid hTl
      clear hr0 eT hTl HO q2 hn0
      go_wp2_with fail
      refine CS.out.mono ?_
      rintro e w5 ⟨S5, rfl, o5, b5⟩
      dsimp only
      obtain ⟨A5, c5, rfl, hn5, hr5⟩ := own_sliceH o5
      have HB5 : Hid (Below w1.heap.size w1 w5) := Lib.hid (HB.out.trans (b5.mono HB.out.size))
      have HR5 := Lib.hid hr5
      have hc5 : L.length ≤ c5 := by
        rcases o5.2 with ⟨h0, h00⟩ | ⟨g', cap, cur, e5, h1', h2', h3', h4'⟩
        · injection h0 with _ h0 _; omega
        · injection e5 with _ _ e5; omega
      have HSL : Hid ((srt T).length = L.length) := Lib.hid (by rw [srt_len]; exact HTL.out)
      clear o5 hr5 b5 CS y0 y1 hn5
      rcases Nat.lt_or_ge kn L.length with hmn | hmn
      · have e4 : min (kn : Int) (L.length : Int) = (kn : Int) := by omega
        have e6 : ((srt T).take kn).length = kn := by rw [List.length_take, HSL.out]; omega
        have e7 : decide ((L.length : Int) < (kn : Int)) = false := decide_eq_false (by omega)
        have e8 : decide ((kn : Int) < (L.length : Int)) = true := decide_eq_true (by omega)
        have x3 : (0 : Int) ≤ (kn : Int) := by omega
        have x4 : (kn : Int) ≤ (c5 : Int) := by omega
        go_wp2
        go_ret2
        exact HYES.out A5 c5 kn _ e6.symm (HR5.out.take kn) HB5.out
      · have e4 : min (kn : Int) (L.length : Int) = (L.length : Int) := by omega
        have e6 : (srt T).take kn = srt T := List.take_of_length_le (by rw [HSL.out]; omega)
        have e8 : decide ((kn : Int) < (L.length : Int)) = false := decide_eq_false (by omega)
        have x3 : (0 : Int) ≤ (L.length : Int) := by omega
        have x4 : (L.length : Int) ≤ (c5 : Int) := by omega
        go_wp2
        go_ret2
        exact HYES.out A5 c5 L.length _ (by rw [e6, HSL.out]) (by rw [e6]; exact HR5.out) HB5.out
end Go.Proofs.YtkmngbkghgelfaaGreat
