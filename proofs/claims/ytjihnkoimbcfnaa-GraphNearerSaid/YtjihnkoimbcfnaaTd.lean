/- The walk of GraphNearer. -/
import Derived.Test.YtjihnkoimbcfnaaAl
import Derived.BigQuiet
import Derived.BigRegion
import Derived.IntWalk
namespace Go.Proofs.Ytjihnkoimbcfnaa
open Go.RowKit
set_option linter.unusedVariables false
/-- What is known of the row of those that are led to, when the nodes ahead of i are gone through, and k neighbours of i. -/
def NearAt (G : List Pn) (s i k : Nat) (NB : List Bool) : Prop :=
  NB.length = G.length ∧ (∀ p j : Nat, p < i → 0 ≤ hopI G s p → (j : Int) ∈ outAt G p → j < G.length → hopI G s j = hopI G s p + 1 → bAt NB j = true) ∧
  ∀ m j : Nat, m < k → (outAt G i)[m]? = some (j : Int) → j < G.length → hopI G s j = hopI G s i + 1 → bAt NB j = true
theorem NearAt.zero (G : List Pn) (s : Nat) : NearAt G s 0 0 (List.replicate G.length false) := ⟨by simp, fun p j h => absurd h (Nat.not_lt_zero _), fun m j h => absurd h (Nat.not_lt_zero _)⟩
theorem bAt_set {l : List Bool} {i j : Nat} {b : Bool} (hi : i < l.length) : bAt (l.set i b) j = if j = i then b else bAt l j := by
  unfold bAt
  by_cases h : j = i
  · subst h; simp [hi]
  · rw [List.getElem?_set_ne (fun e => h e.symm), if_neg h]
theorem NearAt.step {G : List Pn} {s i k j : Nat} {NB : List Bool} (h : NearAt G s i k NB) (hj : (outAt G i)[k]? = some (j : Int)) (hl : j < G.length) {b : Bool} (hb : bAt NB j = true → b = true) (hb2 : hopI G s j = hopI G s i + 1 → b = true) : NearAt G s i (k + 1) (NB.set j b) := by
  obtain ⟨h1, h2, h3⟩ := h
  have hl' : j < NB.length := by omega
  refine ⟨by rw [List.length_set]; exact h1, fun p q hp hq ho hlq he => ?_, fun m q hm ho hlq he => ?_⟩
  · rw [bAt_set hl']
    split
    · rename_i e; subst e; exact hb (h2 p q hp hq ho hlq he)
    · exact h2 p q hp hq ho hlq he
  · rw [bAt_set hl']
    split
    · rename_i e; subst e; exact hb2 he
    · rename_i e
      rcases Nat.lt_or_ge m k with h | h
      · exact h3 m q h ho hlq he
      · obtain rfl : m = k := by omega
        rw [hj] at ho
        injection ho with ho
        exact absurd (by omega) e
theorem NearAt.next {G : List Pn} {s i : Nat} {NB : List Bool} (h : NearAt G s i (outAt G i).length NB) : NearAt G s (i + 1) 0 NB := by
  obtain ⟨h1, h2, h3⟩ := h
  refine ⟨h1, fun p j hp hq ho hlq he => ?_, fun m j hm => absurd hm (Nat.not_lt_zero _)⟩
  rcases Nat.lt_or_ge p i with h | h
  · exact h2 p j h hq ho hlq he
  · obtain rfl : p = i := by omega
    obtain ⟨m, hm, hm2⟩ := List.getElem_of_mem ho
    exact h3 m j hm (by rw [List.getElem?_eq_getElem hm, hm2]) hlq he
theorem NearAt.skip {G : List Pn} {s i k : Nat} {NB : List Bool} (h : NearAt G s i k NB) (hn : hopI G s i < 0) : NearAt G s (i + 1) 0 NB := by
  obtain ⟨h1, h2, h3⟩ := h
  refine ⟨h1, fun p j hp hq ho hlq he => ?_, fun m j hm => absurd hm (Nat.not_lt_zero _)⟩
  rcases Nat.lt_or_ge p i with h | h
  · exact h2 p j h hq ho hlq he
  · obtain rfl : p = i := by omega
    omega
theorem NearAt.done {G : List Pn} {s : Nat} {NB : List Bool} (h : NearAt G s G.length 0 NB) {j : Nat} (hj : j < G.length) (hp : 0 < hopI G s j) : bAt NB j = true := by
  obtain ⟨i, hi, ho⟩ := hop_pred hp
  have hl : i < G.length := by
    rcases Nat.lt_or_ge i G.length with h1 | h1
    · exact h1
    · unfold outAt nAt at ho
      rw [List.getElem?_eq_none h1] at ho
      simp [pNode] at ho
  exact h.2.1 i j hl (by omega) ho hj (by omega)
theorem reachK_more (G : List Pn) (s : Int) (k n : Nat) (h : k ≤ n) : ∃ r, reachK G s n = reachK G s k ++ r := by
  induction n with
  | zero => obtain rfl : k = 0 := by omega
            exact ⟨[], by simp⟩
  | succ m ih =>
    by_cases hk : k = m + 1
    · subst hk; exact ⟨[], by simp⟩
    · obtain ⟨r, hr⟩ := ih (by omega)
      by_cases hh : 0 ≤ hopI G s.toNat m
      · exact ⟨r ++ [(m : Int)], by rw [reachK_yes hh, hr, List.append_assoc]⟩
      · exact ⟨r, by rw [reachK_no hh, hr]⟩
theorem reachK_at {G : List Pn} {s : Int} {k n : Nat} (h : k < n) (hh : 0 ≤ hopI G s.toNat k) : (reachK G s k).length < (reachK G s n).length ∧ (reachK G s n)[(reachK G s k).length]? = some (k : Int) := by
  obtain ⟨r, hr⟩ := reachK_more G s (k + 1) n h
  rw [reachK_yes hh] at hr
  rw [hr]
  exact ⟨by simp, by simp⟩
theorem out_lt {G : List Pn} {i : Nat} {t : Int} (ho : t ∈ outAt G i) : i < G.length := by
  rcases Nat.lt_or_ge i G.length with h1 | h1
  · exact h1
  · unfold outAt nAt at ho
    rw [List.getElem?_eq_none h1] at ho
    simp [pNode] at ho
theorem hop_chain (G : List Pn) (s : Nat) : ∀ (d : Nat) (i : Nat), hopI G s i = d → i < G.length → ∃ l : List Nat, l.length = d + 1 ∧ (∀ x ∈ l, x < G.length) ∧ (∀ x ∈ l, hopI G s x ≤ d) ∧ l.Nodup := by
  intro d
  induction d with
  | zero => exact fun i h hi => ⟨[i], rfl, fun x hx => by rw [List.mem_singleton] at hx; subst hx; exact hi, fun x hx => by rw [List.mem_singleton] at hx; subst hx; omega, by simp⟩
  | succ d ih =>
    intro i h hi
    obtain ⟨p, hp, ho⟩ := hop_pred (G := G) (s := s) (j := i) (by omega)
    obtain ⟨l, h1, h2, h3, h4⟩ := ih p (by omega) (out_lt ho)
    refine ⟨i :: l, by simp [h1], fun x hx => ?_, fun x hx => ?_, List.nodup_cons.2 ⟨fun hm => ?_, h4⟩⟩
    · rcases List.mem_cons.1 hx with rfl | hx
      · exact hi
      · exact h2 x hx
    · rcases List.mem_cons.1 hx with rfl | hx
      · omega
      · have := h3 x hx; omega
    · have := h3 i hm; omega
theorem hop_lt {G : List Pn} {s i : Nat} (hi : i < G.length) : hopI G s i < (G.length : Int) := by
  by_cases h : 0 ≤ hopI G s i
  · obtain ⟨l, h1, h2, h3, h4⟩ := hop_chain G s (hopI G s i).toNat i (by omega) hi
    have := nodup_lt _ _ h4 h2
    omega
  · omega
/-- The loops' world. -/
structure NrSt (w : World) (q : Nat) (NB : List Bool) (W : World) : Prop where
  bel : Below w.heap.size w W
  row : Whole W q 4 (cellsB NB)
theorem NrSt.drew {w W : World} {q : Nat} {NB : List Bool} (h : NrSt w q NB W) : NrSt w q NB W.drew := ⟨h.bel.drew, h.row⟩
theorem NrSt.set {w W : World} {q : Nat} {NB : List Bool} (h : NrSt w q NB W) (hq : w.heap.size ≤ q) (i : Nat) (b : Bool) : NrSt w q (NB.set i b) (W.setCell ⟨q, i, none⟩ (.bool b)) :=
  ⟨h.bel.setCell (p := ⟨q, i, none⟩) hq _, by rw [← cellsB_set]; exact h.row.set i _⟩
set_option maxRecDepth 100000 in
set_option maxHeartbeats 8000000 in
theorem graphNearer_main (A : Option Addr) (c : Nat) (L : List Gn) (s : Int) (w : World) (hx : GGiven w A L) :
    Calls Try.prog 6 #[.agg #[.slice A L.length c, .int .i64 s]] w fun e w' => e = .returned (.bool true) ∧ Below w.heap.size w w' := by
  have HW0 := Lib.hid (Whole.new w 24 #[.slice A L.length c, .int .i64 s])
  have HB0 := Lib.hid (below_one (Below.refl w.heap.size w) (.cells #[.slice A L.length c, .int .i64 s] 24))
  have HX := Lib.hid hx
  clear hx
  go_enter Try.func6, Try.ntmps6
  go_wp2_with fail
  obtain ⟨w1, ew1⟩ : ∃ w1, w.alloc (.cells #[.slice A L.length c, .int .i64 s] 24) = w1 := ⟨_, rfl⟩
  rw [ew1] at HW0 HB0 ⊢
  obtain ⟨g, eg⟩ : ∃ g, w.heap.size = g := ⟨_, rfl⟩
  rw [eg] at HW0 ⊢
  have HG := Lib.hid eg
  clear ew1 eg
  refine (alive_any w1).mono ?_
  rintro e w2 ⟨rfl, b2⟩
  dsimp only
  have HB2 := Lib.hid (HB0.out.trans (b2.mono HB0.out.size))
  have Z2 := HW0.out.below b2 HW0.out.lt
  have HZ2 := Lib.hid Z2
  have y0 := Z2.cell 0
  have y1 := Z2.cell 1
  clear Z2 b2 HB0 HW0
  go_wp2_with fail
  refine (great9_any A c L s w2 (HX.out.below HB2.out)).mono ?_
  rintro e w3 ⟨⟨gb, rfl, hgb⟩, b3⟩
  dsimp only
  have HB3 := Lib.hid (HB2.out.trans (b3.mono HB2.out.size))
  cases gb with
  | true =>
    clear hgb y0 y1
    go_wp2_with fail
    refine (alive_any w3).mono ?_
    rintro e w4 ⟨rfl, b4⟩
    dsimp only
    go_wp2
    go_ret
    exact ⟨rfl, HB3.out.trans (b4.mono HB3.out.size)⟩
  | false =>
    have HSM := Lib.hid (hgb rfl)
    have Z3 := HZ2.out.below b3 HZ2.out.lt
    have HZ3 := Lib.hid Z3
    clear hgb y0 y1 b3 HZ2 HB2
    have HAR : Hid (GArg w A L) := Lib.hid (HX.out.arg HSM.out)
    have y0 := Z3.cell 0
    have y1 := Z3.cell 1
    clear Z3
    have hL : L.length ≤ 20000 := by have := HSM.out.len; rwa [pns_len] at this
    cases hh : holdsB (pns L) s with
    | false =>
      have C1 := hops_any A c L s w3 (HAR.out.below HB3.out)
      have E1 : hopsA (pns L) s = [] := by unfold hopsA; rw [hh]; rfl
      have E2 : reachedA (pns L) s = [] := by unfold reachedA; rw [hh]; rfl
      rw [E1, hh] at C1
      go_wp2_with fail
      refine C1.mono ?_
      rintro e w4 ⟨V4, m4, rfl, o4, b4⟩
      dsimp only
      have HB4 := Lib.hid (HB3.out.trans (b4.mono HB3.out.size))
      have Z4 := HZ3.out.below b4 HZ3.out.lt
      have C2 := reached_any A c L s w4 (HAR.out.below HB4.out)
      rw [E2, hh] at C2
      clear y0 y1 C1 E1 E2 o4
      have y0 := Z4.cell 0
      have y1 := Z4.cell 1
      clear Z4 hh b4
      go_wp2_with fail
      refine C2.mono ?_
      rintro e w5 ⟨V5, m5, rfl, o5, b5⟩
      dsimp only [errG]
      clear C2 o5
      go_wp2
      go_ret
      exact ⟨rfl, HB4.out.trans (b5.mono HB4.out.size)⟩
    | true =>
      have C1 := hops_any A c L s w3 (HAR.out.below HB3.out)
      have E1 : hopsA (pns L) s = hopsL (pns L) s := by unfold hopsA; rw [hh]; rfl
      have HH := Lib.hid (holdsB_yes hh)
      have HK := Lib.hid (reachedA_K (pns L) s)
      have HLN := Lib.hid (pns_len L)
      have hHl : (hopsL (pns L) s).length = L.length := by rw [hopsL_len, HLN.out]
      rw [E1, hh, show errG true = 0 from rfl] at C1
      obtain ⟨H, eH⟩ : ∃ H, hopsL (pns L) s = H := ⟨_, rfl⟩
      have HHA : Hid (∀ i, i < L.length → H[i]? = some (hopI (pns L) s.toNat i)) := Lib.hid (fun i hi => by rw [← eH]; exact hopsL_at (by rw [HLN.out]; exact hi))
      rw [eH] at C1 hHl
      rw [E1, eH, hHl] at HK
      go_wp2_with fail
      refine C1.mono ?_
      rintro e w4 ⟨V4, m4, rfl, o4, b4⟩
      dsimp only
      have HB4 := Lib.hid (HB3.out.trans (b4.mono HB3.out.size))
      have Z4 := HZ3.out.below b4 HZ3.out.lt
      have HZ4 := Lib.hid Z4
      have C2 := reached_any A c L s w4 (HAR.out.below HB4.out)
      rw [HK.out, hh, show errG true = 0 from rfl] at C2
      clear y0 y1 C1 E1 eH HK
      have y0 := Z4.cell 0
      have y1 := Z4.cell 1
      clear Z4 hh b4 HZ3 HB3
      go_wp2_with fail
      refine C2.mono ?_
      rintro e w5 ⟨V5, m5, rfl, o5, b5⟩
      dsimp only
      have HB5 := Lib.hid (HB4.out.trans (b5.mono HB4.out.size))
      have Z5 := HZ4.out.below b5 HZ4.out.lt
      have HZ5 := Lib.hid Z5
      have O4 := Lib.hid (own_below o4 b5)
      have O5 := Lib.hid o5
      rw [hHl]
      clear y0 y1 C2 o4 o5 b5 HB4 HZ4
      have y0 := Z5.cell 0
      have y1 := Z5.cell 1
      clear Z5
      rw [hHl] at O4
      by_cases hn : 0 < L.length
      · have hs0 := (HH.out.start (by rw [HLN.out]; exact hn))
        rw [HLN.out] at hs0
        obtain ⟨sN, rfl⟩ := Int.eq_ofNat_of_zero_le hs0.1
        have hsN : sN < L.length := by omega
        clear hs0
        rw [Int.toNat_natCast] at HHA
        obtain ⟨g3, rfl, -⟩ := own_some O4.out hn
        have HHC : Hid (∀ W, Below w5.heap.size w5 W → ∀ i, i < L.length → W.cell? ⟨g3, i, none⟩ = some (.int .i64 (hopI (pns L) sN i))) := Lib.hid (fun W h i hi => by
          have o := own_below O4.out h
          rw [← hHl] at o
          obtain ⟨b, off, hA, _, hc⟩ := own_rdK o (by omega)
          injection hA with hA
          injection hA with q1 q2
          have := hc i (by omega)
          rw [HHA.out i hi] at this
          rw [q1, ← q2, Nat.zero_add] at *
          exact this)
        obtain ⟨ba, oa, rfl, hBa, hca⟩ := HX.out.rd hn
        have HLC : Hid (∀ W, Below w5.heap.size w5 W → ∀ i, i < L.length → ∃ ao co, W.cell? ⟨ba, oa + i * 3 + 2, none⟩ = some (.slice ao (outAt (pns L) i).length co) ∧ (∀ V, Below w5.heap.size w5 V → Rd .i64 V w.heap.size ao (outAt (pns L) i)) ∧ (outAt (pns L) i).length ≤ 20000) := Lib.hid (fun W h i hi => by
          have hW := HB5.out.trans (h.mono HB5.out.size)
          obtain ⟨_, _, h3, _, h5⟩ := hca i hi
          have e : outAt (pns L) i = (L[i]?.getD gNil).2.2.2.2 := by
            unfold outAt
            rw [nAt_get (show (pns L)[i]? = some (pn (L[i]?.getD gNil)) by simp [pns, List.getElem?_eq_getElem hi])]
            rfl
          rw [e]
          refine ⟨_, _, (hW.cell (p := ⟨ba, oa + i * 3 + 2, none⟩) hBa).trans h3, fun V hV => h5.below (HB5.out.trans (hV.mono HB5.out.size)), ?_⟩
          rw [← e]
          exact (HSM.out.at_ (nAt_mem (by rw [HLN.out]; exact hi))).2)
        have HGC : Hid (∀ W, Below w5.heap.size w5 W → W.cell? ⟨g, 0, none⟩ = some (.slice (some ⟨ba, oa, none⟩) L.length c) ∧ W.cell? ⟨g, 1, none⟩ = some (.int .i64 (sN : Int))) := Lib.hid (fun W h => by
          have z := HZ5.out.below h HZ5.out.lt
          exact ⟨z.cell 0, z.cell 1⟩)
        have HOUT : Hid (∀ i, i < L.length → ∀ t ∈ outAt (pns L) i, 0 ≤ t ∧ t < (L.length : Int)) := Lib.hid (fun i hi t ht => by
          have := HH.out.out (by rw [HLN.out]; exact hi) ht
          rw [HLN.out] at this
          exact this)
        clear hca O4
        obtain ⟨R, eR⟩ : ∃ R, reachK (pns L) (sN : Int) L.length = R := ⟨_, rfl⟩
        rw [eR] at O5 ⊢
        have HR := Lib.hid eR
        have hRl : R.length ≤ 20000 := by rw [← eR]; have := reachK_len (pns L) (sN : Int) L.length; omega
        have k0 := HHC.out w5 (Below.refl _ _) sN hsN
        rw [hop_start] at k0
        have hmk : ∀ W : World, (Instr.makeSlice 62 (.int .i64 (L.length : Int)) (.int .i64 (L.length : Int))).run Try.prog W = .ok (.slice (some ⟨W.heap.size, 0, none⟩) L.length L.length) (W.alloc (.cells (cellsB (List.replicate L.length false)) 4)) := fun W => by
          have := run_make_row' (P := Try.prog) 62 4 (.bool false) 1 Try.underlying62 Try.info4b (by rfl) .i64 .i64 L.length (by omega) (by omega) W
          rw [cellsB_made] at this
          exact this
        have x1 : (0 : Int) ≤ (sN : Int) := by omega
        have x2 : (sN : Int) < (L.length : Int) := by omega
        have e1 : decide ((0 : Int) < (L.length : Int)) = true := decide_eq_true (by omega)
        clear eR
        go_upto_region 10 with fail
        have st0 : NrSt w5 w5.heap.size (List.replicate (pns L).length false) (w5.alloc (.cells (cellsB (List.replicate L.length false)) 4)) := by
          rw [HLN.out]
          exact ⟨below_one (Below.refl _ _) _, Whole.new w5 4 _⟩
        obtain ⟨w6, ew6⟩ : ∃ w6, w5.alloc (.cells (cellsB (List.replicate L.length false)) 4) = w6 := ⟨_, rfl⟩
        obtain ⟨q, eq⟩ : ∃ q, w5.heap.size = q := ⟨_, rfl⟩
        rw [ew6, eq] at st0
        rw [ew6, eq]
        have HQ := Lib.hid eq
        have HST := Lib.hid st0
        have HN0 := Lib.hid (NearAt.zero (pns L) sN)
        clear y0 y1 k0 hmk ew6 eq st0 x1 x2 e1
        go_wp2
        go_loopw [8] (fun i wr => ∃ (k : Nat) (NB : List Bool), k ≤ L.length ∧ i = .int .i64 k ∧ Hid (NearAt (pns L) sN k 0 NB) ∧ Hid (NrSt w5 q NB wr)) (fun i _ => L.length - (intOf i).toNat)
        case atStart => exact ⟨0, _, by omega, rfl, HN0, HST⟩
        case round =>
          clear HST HN0
          obtain ⟨k, NB, hk, rfl, HNA, HS⟩ := hrel
          obtain ⟨y0, y1⟩ := HGC.out _ HS.out.bel
          by_cases hlt : k < L.length
          · have e1 : decide ((k : Int) < (L.length : Int)) = true := decide_eq_true (by omega)
            have x1 : (0 : Int) ≤ (k : Int) := by omega
            have x2 : (k : Int) < (L.length : Int) := by omega
            obtain ⟨ao, co, hco, hro, hol⟩ := HLC.out _ HS.out.bel k hlt
            have HRO := Lib.hid hro
            have HOK := Lib.hid (HOUT.out k hlt)
            obtain ⟨o, eo⟩ : ∃ o, outAt (pns L) k = o := ⟨_, rfl⟩
            rw [eo] at hco HRO hol HOK
            have HO := Lib.hid eo
            clear hro eo
            go_wp2
            by_cases hp : 0 ≤ hopI (pns L) sN k
            · have HN1 : Hid (NearAt (pns L) sN k 0 NB) := HNA
              have HS1 := HS
              go_loopw [10] (fun j wz => ∃ (m : Nat) (NB2 : List Bool), m ≤ o.length ∧ j = .int .i64 m ∧ Hid (NearAt (pns L) sN k m NB2) ∧ Hid (NrSt w5 q NB2 wz)) (fun j _ => o.length - (intOf j).toNat)
              case atStart => exact ⟨0, NB, by omega, rfl, HN1, HS1⟩
              case round =>
                clear HS HNA y0 y1 hco HS1 HN1
                obtain ⟨m, NB2, hm, rfl, HNA, HS⟩ := hrel
                by_cases hlm : m < o.length
                · obtain ⟨bo, oo, t, rfl, hBo, hct, hvt⟩ := (HRO.out _ HS.out.bel).at_ hlm
                  have ht : o[m]? = some t := by rw [← hvt.out, List.getElem?_eq_getElem hlm]; rfl
                  obtain ⟨t0, t1⟩ := HOK.out t (List.mem_of_getElem? ht)
                  obtain ⟨j, rfl⟩ := Int.eq_ofNat_of_zero_le t0
                  have hj : j < L.length := by omega
                  have hstp := hop_step hp (show ((j : Nat) : Int) ∈ outAt (pns L) k by rw [HO.out]; exact List.mem_of_getElem? ht)
                  have hlt2 := hop_lt (G := pns L) (s := sN) (i := k) (by rw [HLN.out]; exact hlt)
                  rw [HLN.out] at hlt2
                  have kj := HHC.out _ HS.out.bel j hj
                  have kk := HHC.out _ HS.out.bel k hlt
                  have kn : wr.cell? ⟨q, j, none⟩ = some (.bool (bAt NB2 j)) := (HS.out.row.cell j).trans (cellsB_at (by have := HNA.out.1; have := HLN.out; omega))
                  have kf := HS.out.row.frozen j
                  have HNX := fun b => Lib.hid (fun h1 h2 => HNA.out.step (k := m) (j := j) (b := b) (by rw [HO.out]; exact ht) (by rw [HLN.out]; exact hj) h1 h2)
                  have HSX : Hid (∀ n1 b, NrSt w5 q (NB2.set j b) ((wr.drewN n1).setCell ⟨q, j, none⟩ (.bool b))) := Lib.hid (fun n1 b => (NrSt.mk (below_drewN HS.out.bel n1) HS.out.row).set (by rw [HQ.out]; exact Nat.le_refl _) j b)
                  obtain ⟨vj, evj⟩ : ∃ v, hopI (pns L) sN j = v := ⟨_, rfl⟩
                  obtain ⟨vk, evk⟩ : ∃ v, hopI (pns L) sN k = v := ⟨_, rfl⟩
                  rw [evj, evk] at hstp
                  rw [evj] at kj HNX
                  rw [evk] at kk hlt2 HNX
                  have hp' : 0 ≤ vk := by rw [← evk]; exact hp
                  have e3 : IntKind.i64.wrap (vk + 1) = vk + 1 := IntWalk.i64_in _ (by omega)
                  have e4 : decide (vj < 0) = false := decide_eq_false (by omega)
                  have e5 : decide (vk + 1 < vj) = false := decide_eq_false (by omega)
                  have e6 : decide ((0 : Int) ≤ vk) = true := decide_eq_true hp'
                  have e7 : decide ((m : Int) < (o.length : Int)) = true := decide_eq_true (by omega)
                  have u1 : (0 : Int) ≤ (m : Int) := by omega
                  have u2 : (m : Int) < (o.length : Int) := by omega
                  have u3 : (j : Int) < (L.length : Int) := by omega
                  clear hstp evj evk hp' hlt2 ht hvt t1
                  go_upto_region 17 with fail
                  go_quiet (fail)
                  go_upto_region 19 with fail
                  cases hb : bAt NB2 j with
                  | true =>
                    rw [hb] at kn
                    have HNX := Lib.hid ((HNX true).out (fun _ => rfl) (fun _ => rfl))
                    clear hb
                    go_region
                    go_wp2
                    go_roundw
                    case rel => exact ⟨m + 1, _, by omega, by go_num, HNX, HSX.out _ true⟩
                    case measure => simp [intOf]; omega
                  | false =>
                    rw [hb] at kn
                    by_cases hv : vj = vk + 1
                    · have HNX := Lib.hid ((HNX true).out (fun _ => rfl) (fun _ => rfl))
                      have e8 : (vj == vk + 1) = true := beq_iff_eq.2 hv
                      clear hb hv
                      go_region
                      go_wp2
                      go_roundw
                      case rel => exact ⟨m + 1, _, by omega, by go_num, HNX, HSX.out _ true⟩
                      case measure => simp [intOf]; omega
                    · have HNX := Lib.hid ((HNX false).out (fun h => by rw [hb] at h; cases h) (fun h => absurd h hv))
                      have e8 : (vj == vk + 1) = false := by simpa using hv
                      clear hb hv
                      go_region
                      go_wp2
                      go_roundw
                      case rel => exact ⟨m + 1, _, by omega, by go_num, HNX, HSX.out _ false⟩
                      case measure => simp [intOf]; omega
                · obtain rfl : m = o.length := by omega
                  have e2 : decide ((o.length : Int) < (o.length : Int)) = false := decide_eq_false (by omega)
                  have HNX : Hid (NearAt (pns L) sN (k + 1) 0 NB2) := Lib.hid (NearAt.next (by rw [HO.out]; exact HNA.out))
                  go_wp2
                  go_roundw
                  case rel => exact ⟨k + 1, NB2, by omega, by go_num, HNX, HS⟩
                  case measure => simp [intOf]; omega
            · have HNX : Hid (NearAt (pns L) sN (k + 1) 0 NB) := Lib.hid (NearAt.skip HNA.out (by omega))
              have e2 : decide ((0 : Int) ≤ hopI (pns L) sN k) = false := decide_eq_false hp
              have HS1 := HS
              go_loopw [10] (fun j wz => j = .int .i64 0 ∧ Hid (NrSt w5 q NB wz)) (fun j _ => 0)
              case atStart => exact ⟨rfl, HS1⟩
              case round =>
                clear HS HNA y0 y1 hco HS1
                obtain ⟨rfl, HS⟩ := hrel
                have kk := HHC.out _ HS.out.bel k hlt
                by_cases h0 : 0 < o.length
                · have e3 : decide ((0 : Int) < (o.length : Int)) = true := decide_eq_true (by omega)
                  go_wp2
                  go_roundw
                  case rel => exact ⟨k + 1, NB, by omega, by go_num, HNX, HS⟩
                  case measure => simp [intOf]; omega
                · have e3 : decide ((0 : Int) < (o.length : Int)) = false := decide_eq_false (by omega)
                  go_wp2
                  go_roundw
                  case rel => exact ⟨k + 1, NB, by omega, by go_num, HNX, HS⟩
                  case measure => simp [intOf]; omega
          · obtain rfl : k = L.length := by omega
            have e1 : decide ((L.length : Int) < (L.length : Int)) = false := decide_eq_false (by omega)
            have HDN : Hid (∀ j, j < L.length → 0 < hopI (pns L) sN j → bAt NB j = true) := Lib.hid (fun j hj hp => by
              have hd := HNA.out
              rw [← HLN.out] at hd
              exact hd.done (by rw [HLN.out]; exact hj) hp)
            have hNBl : NB.length = L.length := by rw [HNA.out.1, HLN.out]
            clear HNA
            clear y0 y1
            go_wp2
            have HS1 := HS
            go_loopw [11, 12] (fun a i wz => ∃ m : Nat, m ≤ L.length ∧ i = .int .i64 m ∧ a = .int .i64 (((reachK (pns L) (sN : Int) m).length : Nat) : Int) ∧ Hid (NrSt w5 q NB wz)) (fun _ i _ => L.length - (intOf i).toNat)
            case atStart => exact ⟨0, by omega, rfl, rfl, HS1⟩
            case round =>
              clear HS HS1
              obtain ⟨m, hm, rfl, rfl, HS⟩ := hrel
              obtain ⟨y0, y1⟩ := HGC.out _ HS.out.bel
              by_cases hlm : m < L.length
              · have e2 : decide ((m : Int) < (L.length : Int)) = true := decide_eq_true (by omega)
                have z1 : (0 : Int) ≤ (m : Int) := by omega
                have z2 : (m : Int) < (L.length : Int) := by omega
                have kk := HHC.out _ HS.out.bel m hlm
                have kn : wr.cell? ⟨q, m, none⟩ = some (.bool (bAt NB m)) := (HS.out.row.cell m).trans (cellsB_at (by omega))
                have hge := hop_ge (pns L) sN m
                have hcnt : (reachK (pns L) (sN : Int) m).length ≤ m := reachK_len _ _ _
                obtain ⟨vk, evk⟩ : ∃ v, hopI (pns L) sN m = v := ⟨_, rfl⟩
                rw [evk] at kk hge
                have e3 : decide (vk < -1) = false := decide_eq_false (by omega)
                by_cases hp : 0 < vk
                · have hnb := HDN.out m hlm (by rw [evk]; exact hp)
                  rw [hnb] at kn
                  have e4 : decide (0 < vk) = true := decide_eq_true hp
                  have e5 : (vk == 0) = false := by simp; omega
                  have e6 : decide (0 ≤ vk) = true := decide_eq_true (by omega)
                  have hat := reachK_at (G := pns L) (s := (sN : Int)) hlm (by rw [Int.toNat_natCast, evk]; omega)
                  rw [HR.out] at hat
                  have hyes := Lib.hid (reachK_yes (G := pns L) (s := (sN : Int)) (k := m) (by rw [Int.toNat_natCast, evk]; omega))
                  obtain ⟨at_, eat⟩ : ∃ a, (reachK (pns L) (sN : Int) m).length = a := ⟨_, rfl⟩
                  rw [eat] at hat hcnt ⊢
                  obtain ⟨b5, o5, t, rfl, hB5, hc5, hv5⟩ := (own_rdK (own_below O5.out HS.out.bel)).at_ hat.1
                  have et : t = (m : Int) := by rw [← hv5.out, hat.2]; rfl
                  subst et
                  have hal := hat.1
                  have f1 : ((at_ : Int) == (R.length : Int)) = false := by simp; omega
                  have f2 : (0 : Int) ≤ (at_ : Int) := by omega
                  have f3 : (at_ : Int) < (R.length : Int) := by omega
                  have f4 : IntKind.i64.wrap ((at_ : Int) + 1) = (at_ : Int) + 1 := IntWalk.i64_in _ (by omega)
                  have HRL : Hid (Value.int .i64 ((at_ : Int) + 1) = Value.int .i64 (((reachK (pns L) (sN : Int) (m + 1)).length : Nat) : Int)) := Lib.hid (by rw [hyes.out, List.length_append, eat]; simp)
                  clear hat hv5 eat hyes evk
                  go_wp2
                  go_roundw
                  case rel => exact ⟨m + 1, by omega, by go_num, by first | exact HRL.out | (rw [← HRL.out]; go_num), HS⟩
                  case measure => simp [intOf]; omega
                · by_cases hz : vk = 0
                  · subst hz
                    have e4 : ((m : Int) != (sN : Int)) = false := by rw [hop_zero evk]; simp
                    have hat := reachK_at (G := pns L) (s := (sN : Int)) hlm (by rw [Int.toNat_natCast, evk]; omega)
                    rw [HR.out] at hat
                    have hyes := Lib.hid (reachK_yes (G := pns L) (s := (sN : Int)) (k := m) (by rw [Int.toNat_natCast, evk]; omega))
                    obtain ⟨at_, eat⟩ : ∃ a, (reachK (pns L) (sN : Int) m).length = a := ⟨_, rfl⟩
                    rw [eat] at hat hcnt ⊢
                    obtain ⟨b5, o5, t, rfl, hB5, hc5, hv5⟩ := (own_rdK (own_below O5.out HS.out.bel)).at_ hat.1
                    have et : t = (m : Int) := by rw [← hv5.out, hat.2]; rfl
                    subst et
                    have hal := hat.1
                    have f1 : ((at_ : Int) == (R.length : Int)) = false := by simp; omega
                    have f2 : (0 : Int) ≤ (at_ : Int) := by omega
                    have f3 : (at_ : Int) < (R.length : Int) := by omega
                    have f4 : IntKind.i64.wrap ((at_ : Int) + 1) = (at_ : Int) + 1 := IntWalk.i64_in _ (by omega)
                    have HRL : Hid (Value.int .i64 ((at_ : Int) + 1) = Value.int .i64 (((reachK (pns L) (sN : Int) (m + 1)).length : Nat) : Int)) := Lib.hid (by rw [hyes.out, List.length_append, eat]; simp)
                    clear hat hv5 eat hyes evk
                    go_wp2
                    go_roundw
                    case rel => exact ⟨m + 1, by omega, by go_num, by first | exact HRL.out | (rw [← HRL.out]; go_num), HS⟩
                    case measure => simp [intOf]; omega
                  · obtain rfl : vk = -1 := by omega
                    have hno := Lib.hid (reachK_no (G := pns L) (s := (sN : Int)) (k := m) (by rw [Int.toNat_natCast, evk]; omega))
                    clear evk
                    go_wp2
                    go_roundw
                    case rel => exact ⟨m + 1, by omega, by go_num, by rw [hno.out], HS⟩
                    case measure => simp [intOf]; omega
              · obtain rfl : m = L.length := by omega
                have e2 : decide ((L.length : Int) < (L.length : Int)) = false := decide_eq_false (by omega)
                rw [HR.out]
                go_wp2
                go_ret
                exact ⟨rfl, HB5.out.trans (HS.out.bel.mono HB5.out.size)⟩
      · have hz : L = [] := List.eq_nil_of_length_eq_zero (by omega)
        subst hz
        have hz2 : H = [] := List.eq_nil_of_length_eq_zero hHl
        subst hz2
        have er : reachK (pns []) s ([] : List Gn).length = [] := rfl
        rw [er] at O5 ⊢
        have hmk : ∀ W : World, (Instr.makeSlice 62 (.int .i64 0) (.int .i64 0)).run Try.prog W = .ok (.slice (some ⟨W.heap.size, 0, none⟩) 0 0) (W.alloc (.cells (cellsB []) 4)) := fun W => by
          have := run_make_row' (P := Try.prog) 62 4 (.bool false) 1 Try.underlying62 Try.info4b (by rfl) .i64 .i64 0 (by omega) (by omega) W
          rw [cellsB_made] at this
          exact this
        clear hHl HHA HH er hn
        go_wp2
        have HS1 : Hid (Below w5.heap.size w5 (w5.alloc (.cells (cellsB []) 4))) := Lib.hid (below_one (Below.refl _ _) _)
        go_loopw [8] (fun i wr => i = .int .i64 0 ∧ Hid (Below w5.heap.size w5 wr)) (fun i _ => 0)
        case atStart => exact ⟨rfl, HS1⟩
        case round =>
          clear HS1
          obtain ⟨rfl, HS⟩ := hrel
          go_wp2
          have HS1 := HS
          go_loopw [11, 12] (fun a i wr => a = .int .i64 0 ∧ i = .int .i64 0 ∧ Hid (Below w5.heap.size w5 wr)) (fun _ i _ => 0)
          case atStart => exact ⟨rfl, rfl, HS1⟩
          case round =>
            clear HS1 HS
            obtain ⟨rfl, rfl, HS⟩ := hrel
            go_wp2
            go_ret
            exact ⟨rfl, HB5.out.trans (HS.out.mono HB5.out.size)⟩
end Go.Proofs.Ytjihnkoimbcfnaa
