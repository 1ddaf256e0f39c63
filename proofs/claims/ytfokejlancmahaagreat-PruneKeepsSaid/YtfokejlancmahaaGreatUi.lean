/- Pruning: the walk of Keep. -/
import Derived.Test.YtfokejlancmahaaGreatUh
import Derived.Test.YtfokejlancmahaaGreatKj
import Derived.Deep.Cut
namespace Go.Proofs.YtfokejlancmahaaGreat
open Go.RowKit Go.Lib
set_option linter.unusedVariables false
set_option linter.unusedSimpArgs false
theorem Tryz.info3k : (Tryz.prog.info? 3).map (fun i => (i.zero, i.size, i.bytes)) = some (some (.int .i64 0), 1, 8) := by kernel_rfl
theorem SpRow.turn {G : List Pn} {a : Nat} {w w' : World} {base vc : Nat} {V : Option Addr} {S : Array Nat} {A : List Nat} (h : SpRow G a w base V vc S) (k : Turn A w w') (hn : ∀ blk, V = some ⟨blk, 0, none⟩ → blk ∉ A) : SpRow G a w' base V vc S := by
  rcases h with h | ⟨blk, cs, hV, hb, hw, h1, h2, h3, h4⟩
  · exact .inl h
  · exact .inr ⟨blk, cs, hV, hb, hw.turn k (hn blk hV), h1, h2, h3, h4⟩
theorem SpRow.below {G : List Pn} {a : Nat} {w w' : World} {base vc : Nat} {V : Option Addr} {S : Array Nat} (h : SpRow G a w base V vc S) (hb : Below w.heap.size w w') : SpRow G a w' base V vc S := h.turn (Turn.of_below hb) (fun _ _ => by simp)
def natI (K : List Nat) : List Int := K.map (fun (x : Nat) => (x : Int))
theorem natI_len (K : List Nat) : (natI K).length = K.length := by simp [natI]
theorem natI_snoc (K : List Nat) (p : Nat) : natI (K ++ [p]) = natI K ++ [(p : Int)] := by simp [natI]
def lenOf : Value → Nat
  | .slice _ n _ => n
  | _ => 0
set_option maxRecDepth 100000 in
set_option maxHeartbeats 8000000 in
theorem keep_any (A : Option Addr) (c : Nat) (L : List Gn) (s d deg b n m at_ : Int) (B : Option Addr) (q : Nat) (P : List Int) (w : World) (hx : GArg w A L) (hroom : ∀ x ∈ L, x.2.2.2.2.length ≤ x.2.2.2.1) (hp : Rd .i64 w w.heap.size B P) (hP : P.length ≤ 140737488355328) :
    Calls Tryz.prog 9 #[.agg #[.slice A L.length c, .int .i64 s], .agg #[.int .i64 d, .int .i64 deg, .int .i64 b, .int .i64 n, .int .i64 m], .int .i64 at_, .slice B P.length q] w (IAns w (keepA (pns L) s d deg b n m at_ P) (errG (keepB (pns L) s d deg b n m at_ P))) := by
  have HLN := Lib.hid (pns_len L)
  have B0 : Below w.heap.size w ((w.alloc (.cells #[.slice A L.length c, .int .i64 s] 24)).alloc (.cells #[.int .i64 d, .int .i64 deg, .int .i64 b, .int .i64 n, .int .i64 m] 26)) := below_one (below_one (Below.refl _ _) _) _
  have HW0 := Lib.hid ((Whole.new w 24 #[.slice A L.length c, .int .i64 s]).alloc (.cells #[.int .i64 d, .int .i64 deg, .int .i64 b, .int .i64 n, .int .i64 m] 26))
  have HW1 : Hid (Whole ((w.alloc (.cells #[.slice A L.length c, .int .i64 s] 24)).alloc (.cells #[.int .i64 d, .int .i64 deg, .int .i64 b, .int .i64 n, .int .i64 m] 26)) (w.heap.size + 1) 26 #[.int .i64 d, .int .i64 deg, .int .i64 b, .int .i64 n, .int .i64 m]) := Lib.hid (by
    have := Whole.new (w.alloc (.cells #[.slice A L.length c, .int .i64 s] 24)) 26 #[.int .i64 d, .int .i64 deg, .int .i64 b, .int .i64 n, .int .i64 m]
    simpa using this)
  have HB0 := Lib.hid B0
  have HX := Lib.hid hx
  have HRM := Lib.hid hroom
  have HP := Lib.hid hp
  clear B0 hx hroom hp
  go_enter Tryz.func9, Tryz.ntmps9
  go_upto_region 1 with fail
  obtain ⟨w1, ew1⟩ : ∃ w1, (w.alloc (.cells #[.slice A L.length c, .int .i64 s] 24)).alloc (.cells #[.int .i64 d, .int .i64 deg, .int .i64 b, .int .i64 n, .int .i64 m] 26) = w1 := ⟨_, rfl⟩
  rw [ew1] at HW0 HW1 HB0 ⊢
  obtain ⟨g, eg⟩ : ∃ g, w.heap.size = g := ⟨_, rfl⟩
  rw [eg] at HW0 HW1 ⊢
  have HG := Lib.hid eg
  have Z1 := HW0.out
  have Y1 := HW1.out
  have y0 := Z1.cell 0
  have y1 := Z1.cell 1
  have q0 := Y1.cell 0
  have q1 := Y1.cell 1
  have q2 := Y1.cell 2
  have q3 := Y1.cell 3
  have q4 := Y1.cell 4
  clear ew1 eg Z1 Y1
  by_cases hbig : 2048 < P.length
  · have e1 : decide ((2048 : Int) < (P.length : Int)) = true := decide_eq_true (by omega)
    have EK : keepB (pns L) s d deg b n m at_ P = false := by unfold keepB; rw [decide_eq_false (by omega)]; rfl
    have E := Lib.hid (show keepA (pns L) s d deg b n m at_ P = [] ∧ errG (keepB (pns L) s d deg b n m at_ P) = 1 by unfold keepA; rw [EK]; exact ⟨rfl, rfl⟩)
    clear EK
    go_wp2
    go_ret2
    rw [E.out.1, E.out.2]
    exact IAns.nil w 1 HB0.out
  have e1 : decide ((2048 : Int) < (P.length : Int)) = false := decide_eq_false (by omega)
  have C1 := mayAsk_any A c L s d deg b n m at_ B P.length q P rfl w1 (HX.out.below HB0.out) HRM.out ((HP.out.below HB0.out).more HB0.out.size) hP
  go_wp2_with fail
  refine C1.mono ?_
  rintro e w2 ⟨rfl, b2⟩
  dsimp only
  have HB2 := Lib.hid (HB0.out.trans (b2.mono HB0.out.size))
  have HZ2 := Lib.hid (HW0.out.below b2 HW0.out.lt)
  have HY2 := Lib.hid (HW1.out.below b2 HW1.out.lt)
  clear C1 b2 y0 y1 q0 q1 q2 q3 q4
  cases ha : askB (pns L) s d deg b n m at_ P with
  | false =>
    have EK : keepB (pns L) s d deg b n m at_ P = false := by unfold keepB; rw [ha]; simp
    have E := Lib.hid (show keepA (pns L) s d deg b n m at_ P = [] ∧ errG (keepB (pns L) s d deg b n m at_ P) = 1 by unfold keepA; rw [EK]; exact ⟨rfl, rfl⟩)
    clear ha EK
    go_wp2
    go_ret2
    rw [E.out.1, E.out.2]
    exact IAns.nil w 1 HB2.out
  | true =>
    obtain ⟨hc, hat, hpo⟩ := askB_yes ha
    obtain ⟨a, rfl⟩ := Int.eq_ofNat_of_zero_le hat.1
    have hln := pns_len L
    have hPG := PG_of hc HX.out.ok
    have hs : setupB d deg b n m = true := by unfold checkB at hc; simp only [Bool.and_eq_true] at hc; exact hc.1
    have hs2 := of_decide_eq_true hs
    have EK : keepB (pns L) s d deg b n m (a : Int) P = true := by unfold keepB; rw [ha, decide_eq_true (by omega)]; rfl
    have E := Lib.hid (show keepA (pns L) s d deg b n m (a : Int) P = natI (keepL (pns L) n m deg a P) ∧ errG (keepB (pns L) s d deg b n m (a : Int) P) = 0 by unfold keepA; rw [EK]; exact ⟨rfl, rfl⟩)
    have haL : a < L.length := by omega
    have haG : a < (pns L).length := by omega
    have hn1 : 1 ≤ n ∧ n ≤ 1000 := by omega
    have hm1 : 1 ≤ m ∧ m ≤ 1000 := by omega
    have hdg : 1 ≤ deg ∧ deg ≤ 32 := by omega
    have HPG := Lib.hid hPG
    have hL : L.length ≤ 2048 := by have := hPG.len; omega
    have hR2 : ∀ p ∈ P, 0 ≤ p ∧ p < (L.length : Int) := fun p hp => by have := hpo p hp; omega
    have HKL := Lib.hid (fun (S : List Nat) (h1 : S.Perm (spK P a P.length)) (h2 : Weak (ltP (pns L) a) S) => keepL_of (n := n) (deg := deg) hPG hm1.1 haG hpo h1 h2)
    have HSL := Lib.hid (fun (S : List Nat) (h1 : S.Perm (spK P a P.length)) x hx => (show x < L.length from by have := spK_lt (a := a) (k := P.length) hpo x (h1.mem_iff.1 hx); omega))
    have hnA := nearest_any A c L d.toNat a hPG haL B q P hR2 (by omega) w2 (HX.out.below HB2.out).rd ((HP.out.below HB2.out).more HB2.out.size)
    have HCL : Hid (∀ W, Below w2.heap.size w2 W → (W.cell? ⟨g, 0, none⟩ = some (.slice A L.length c) ∧ W.cell? ⟨g, 1, none⟩ = some (.int .i64 s)) ∧ W.cell? ⟨g + 1, 0, none⟩ = some (.int .i64 d) ∧ W.cell? ⟨g + 1, 1, none⟩ = some (.int .i64 deg) ∧ W.cell? ⟨g + 1, 2, none⟩ = some (.int .i64 b) ∧ W.cell? ⟨g + 1, 3, none⟩ = some (.int .i64 n) ∧ W.cell? ⟨g + 1, 4, none⟩ = some (.int .i64 m)) := Lib.hid (fun W h => by
      have z := HZ2.out.below h HZ2.out.lt
      have z' := HY2.out.below h HY2.out.lt
      exact ⟨⟨z.cell 0, z.cell 1⟩, z'.cell 0, z'.cell 1, z'.cell 2, z'.cell 3, z'.cell 4⟩)
    obtain ⟨R, eR⟩ : ∃ R, keepL (pns L) n m deg a P = R := ⟨_, rfl⟩
    rw [eR] at E HKL
    obtain ⟨⟨y0, y1⟩, q0, q1, q2, q3, q4⟩ := HCL.out _ (Below.refl _ _)
    clear ha hc hat hpo hln hPG hs hs2 EK hR2 eR
    go_wp2_with fail
    refine hnA.mono ?_
    rintro e w3 ⟨V, vc, S, rfl, hrow, hpm, hwk, b3⟩
    dsimp only
    have HB3 := Lib.hid b3
    have HK0 := Lib.hid (HKL.out _ hpm hwk)
    have HS0 := Lib.hid (HSL.out _ hpm)
    have hs0 : S.size ≤ 2048 := by have h1 := hpm.length_eq; have h2 := spK_len P a P.length; rw [Array.length_toList] at h1; omega
    have hr0 : w3.ownsRow w2.heap.size 3 1 (.slice none 0 0) 0 ((natI []).map (Value.int .i64)) := own_nil_row _ _ _
    have HO0 := Lib.hid hr0
    have HROW := Lib.hid hrow
    obtain ⟨i0, hi, hz0, hz1, hz2⟩ := info_parts Tryz.info3k
    clear y0 y1 q0 q1 q2 q3 q4 hnA hrow hpm hwk b3 HKL HSL hr0
    go_wp2
    go_loopw [10, 11] (fun kv lv wr => ∃ (K : List Nat) (KV : Option Addr) (kc : Nat) (V : Option Addr) (vc : Nat) (S : Array Nat), kv = .slice KV K.length kc ∧ lv = .slice V S.size vc ∧ S.size ≤ 2048 ∧ Hid (wr.ownsRow w2.heap.size 3 1 (.slice KV K.length kc) K.length ((natI K).map (Value.int .i64))) ∧ Hid (SpRow (pns L) a wr w2.heap.size V vc S) ∧ Hid (KeptP (ndP (pns L) n m a) deg.toNat R K S.toList) ∧ Hid (∀ x ∈ S.toList, x < L.length) ∧ Hid (Below w2.heap.size w2 wr)) (fun _ lv _ => lenOf lv)
    case atStart => exact ⟨[], none, 0, V, vc, S, rfl, rfl, hs0, HO0, HROW, HK0, HS0, HB3⟩
    case round =>
      clear HO0 HROW HK0 HS0 HB3
      obtain ⟨K, KV, kc, V, vc, S, rfl, rfl, hsl, HO, HRW, HK, HS, HB⟩ := hrel
      obtain ⟨⟨y0, y1⟩, q0, q1, q2, q3, q4⟩ := HCL.out _ HB.out
      have hkl : K.length ≤ 32 := by have := HK.out.room; omega
      by_cases hS : 0 < S.size
      · have f1 : decide ((0 : Int) < (S.size : Int)) = true := decide_eq_true (by omega)
        by_cases hK : K.length < deg.toNat
        · have f2 : decide ((K.length : Int) < deg) = true := decide_eq_true (by omega)
          have hrw := HRW.out
          rcases hrw with h0 | ⟨blk, cs, rfl, hbb, hW, hcs, hsv, hvm, hSp⟩
          · omega
          obtain ⟨p, hp0⟩ : ∃ p, S[0]! = p := ⟨_, rfl⟩
          obtain ⟨rest, hrest⟩ : ∃ rest, S.toList = p :: rest := by
            cases hS2 : S.toList with
            | nil => have : S.size = 0 := by rw [← Array.length_toList, hS2]; rfl
                     omega
            | cons x r =>
              refine ⟨r, ?_⟩
              have : S[0]! = x := by
                rw [getElem!_pos S 0 hS]
                have h1 : S.toList[0]? = some x := by rw [hS2]; rfl
                rw [List.getElem?_eq_getElem (by simpa using hS)] at h1
                simpa using h1
              rw [← hp0, this]
          have hpl : p < L.length := HS.out p (by rw [hrest]; simp)
          have hpG : p < (pns L).length := by rw [HLN.out]; exact hpl
          have hst := HK.out
          rw [hrest] at hst
          have hst2 := hst.step hK (ndP_self HPG.out hm1.1 haG hpG)
          rw [← hrest] at hst2
          have hfl : S.toList.filter (fun x => !pdQ (pns L) a n m p x) = S.toList.filter (fun x => !ndP (pns L) n m a p x) := List.filter_congr (fun x hx => by rw [pdQ_eq hpG (by rw [HLN.out]; exact HS.out x hx)])
          have hlt : (S.toList.filter (fun x => !pdQ (pns L) a n m p x)).length < S.size := by
            rw [hfl, hrest, List.filter_cons_of_neg (by rw [ndP_self HPG.out hm1.1 haG hpG]; simp)]
            have h1 := List.length_filter_le (fun x => !ndP (pns L) n m a p x) rest
            have h2 : S.size = rest.length + 1 := by rw [← Array.length_toList, hrest]; rfl
            omega
          obtain ⟨c0', c1', c2'⟩ := hSp 0 hS
          rw [hp0, clQ_id hpG] at c0'
          rw [hp0] at c1' c2'
          obtain ⟨x1, ex1⟩ : ∃ x, (kQ (pns L) a p).1 = x := ⟨_, rfl⟩
          obtain ⟨x2, ex2⟩ : ∃ x, (kQ (pns L) a p).2 = x := ⟨_, rfl⟩
          rw [ex1] at c1'
          rw [ex2] at c2'
          have c0 : wr.cell? ⟨blk, 0, none⟩ = some (.int .i64 (p : Int)) := (hW.cell 0).trans c0'
          have c1 : wr.cell? ⟨blk, 1, none⟩ = some (.int .u64 x1) := (hW.cell 1).trans c1'
          have c2 : wr.cell? ⟨blk, 2, none⟩ = some (.int .i64 x2) := (hW.cell 2).trans c2'
          have x3 : (0 : Int) < (S.size : Int) := by omega
          have HST := Lib.hid hst2
          have HFL := Lib.hid hfl
          have HLT := Lib.hid hlt
          have HKB : Hid (#[Value.int .i64 (p : Int), .int .u64 x1, .int .i64 x2] = #[.int .i64 (clQ L.length p : Nat), .int .u64 (kQ (pns L) a p).1, .int .i64 (kQ (pns L) a p).2]) := Lib.hid (by rw [clQ_id hpl, ex1, ex2])
          have HW := Lib.hid hW
          have HSP := Lib.hid hSp
          clear hst hst2 hfl hlt c0' c1' c2' hW hSp hrest hp0 ex1 ex2 hpG
          go_upto_region 7 with fail
          obtain ⟨w4, ew4⟩ : ∃ w4, wr.alloc (.cells #[.int .i64 (p : Int), .int .u64 x1, .int .i64 x2] 81) = w4 := ⟨_, rfl⟩
          obtain ⟨bx, ebx⟩ : ∃ b, wr.heap.size = b := ⟨_, rfl⟩
          have hz4 : Whole w4 bx 81 #[.int .i64 (p : Int), .int .u64 x1, .int .i64 x2] := by rw [← ew4, ← ebx]; exact Whole.new wr _ _
          have b4 : Below wr.heap.size wr w4 := by rw [← ew4]; exact below_one (Below.refl _ _) _
          have HB4 := Lib.hid (HB.out.trans (b4.mono HB.out.size))
          have HO4 := Lib.hid (own_below HO.out b4)
          have HW4 : Hid (Whole w4 blk 81 cs) := Lib.hid (HW.out.below b4 HW.out.lt)
          have HZ4 := Lib.hid hz4
          have hbx : blk < bx := by rw [← ebx]; exact HW.out.lt
          rw [ew4, ebx]
          clear ew4 b4 c0 c1 c2 y0 y1 q0 q1 q2 q3 q4 HO HW HRW
          have n0 := hz4.cell 0
          have hs4 := HB4.out.size
          obtain ⟨RK, eRK⟩ : ∃ RK, natI K = RK := ⟨_, rfl⟩
          have hRK : RK.length = K.length := by rw [← eRK, natI_len]
          have HSN := Lib.hid (show (natI (K ++ [p])) = RK ++ [(p : Int)] by rw [natI_snoc, eRK])
          rw [eRK] at HO4
          clear eRK hz4
          go_upto_region 8 with (at_builtin; refine wpList_append_own _ rfl _ _ 29 rfl w2.heap.size 3 i0 (.int .i64 0) 1 8 Tryz.underlying29 hi hz0 hz1 hz2 rfl (by decide) _ _ _ rfl (HO4.out.alloc _) ⟨w4.heap.size, 0, none⟩ 1 1 [.int .i64 (p : Int)] rfl rfl (cell_one_new _ _ _) (by simp [Value.oneCell']) (by show K.length + 1 ≤ 9223372036854775807; omega) (by omega) (by rw [World.size_alloc]; omega) ?_; intro v' w6 hown' hgrow _)
          obtain ⟨V4, m4, c4, rfl⟩ := own_form hown'
          obtain rfl := own_len hown'
          have ap1 := own_apart HO4.out HW4.out (by decide)
          have ap2 := own_apart HO4.out HZ4.out (by decide)
          have hgrow : (w4.alloc (.cells #[.int .i64 (p : Int)] 3)).grownBy w6 (Value.slice KV K.length kc).ownBlock := hgrow
          have tg := Turn.of_grown hgrow
          have HB6 := Lib.hid ((HB4.out.alloc hs4 (.cells #[.int .i64 (p : Int)] 3)).grown hgrow (by rw [World.size_alloc]; omega) (fun r hr => (HO4.out.lt r hr).1))
          have HW6 : Hid (Whole w6 blk 81 cs) := Lib.hid ((HW4.out.alloc _).turn tg (fun hm => ap1 (by simpa using hm)))
          have hz6 : Whole w6 bx 81 #[.int .i64 (p : Int), .int .u64 x1, .int .i64 x2] := (HZ4.out.alloc _).turn tg (fun hm => ap2 (by simpa using hm))
          have HO6 : Hid (w6.ownsRow w2.heap.size 3 1 (.slice V4 (K ++ [p]).length c4) (K ++ [p]).length ((natI (K ++ [p])).map (Value.int .i64))) := Lib.hid (by
            rw [HSN.out, List.map_append, List.length_append]; exact hown')
          have HZ6 := Lib.hid hz6
          clear ap1 ap2 tg hown' hgrow n0
          have n0 := hz6.cell 0
          have n1 := hz6.cell 1
          have n2 := hz6.cell 2
          obtain ⟨⟨y0, y1⟩, q0, q1, q2, q3, q4⟩ := HCL.out _ HB6.out
          clear hz6 HO4 HW4 HZ4 HB4
          go_wp2_with fail
          refine (beside_any (.int .i64 (p : Int)) (.int .u64 x1) (.int .i64 x2) A L.length c d deg b n m w6).mono ?_
          rintro e w7 ⟨rfl, e7⟩
          dsimp only
          obtain ⟨h6, eh6⟩ : ∃ h, w6.heap.size = h := ⟨_, rfl⟩
          have zk : Whole w7 h6 81 #[.int .i64 (p : Int), .int .u64 x1, .int .i64 x2] := by
            rw [e7, ← eh6]; exact ((Whole.new w6 _ _).alloc _).alloc _
          have zn : Whole w7 (h6 + 1) 22 #[.slice A L.length c] := by
            have := (Whole.new (w6.alloc (.cells #[.int .i64 (p : Int), .int .u64 x1, .int .i64 x2] 81)) 22 #[.slice A L.length c]).alloc (.cells #[.int .i64 d, .int .i64 deg, .int .i64 b, .int .i64 n, .int .i64 m] 26)
            rw [World.size_alloc, eh6] at this
            rw [e7]; exact this
          have zs : Whole w7 (h6 + 1 + 1) 26 #[.int .i64 d, .int .i64 deg, .int .i64 b, .int .i64 n, .int .i64 m] := by
            have := Whole.new ((w6.alloc (.cells #[.int .i64 (p : Int), .int .u64 x1, .int .i64 x2] 81)).alloc (.cells #[.slice A L.length c] 22)) 26 #[.int .i64 d, .int .i64 deg, .int .i64 b, .int .i64 n, .int .i64 m]
            rw [World.size_alloc, World.size_alloc, eh6] at this
            rw [e7]; exact this
          have b67 : Below w6.heap.size w6 w7 := by rw [e7]; exact below_one (below_one (below_one (Below.refl _ _) _) _) _
          have HW7 : Hid (Whole w7 blk 81 cs) := Lib.hid (HW6.out.below b67 HW6.out.lt)
          have HB7 := Lib.hid (HB6.out.trans (b67.mono HB6.out.size))
          have HO7 := Lib.hid (own_below HO6.out b67)
          have hbh : blk < h6 := by rw [← eh6]; exact HW6.out.lt
          have HB07 := Lib.hid (HB2.out.trans (HB7.out.mono HB2.out.size))
          have hw72 : w2.heap.size ≤ w7.heap.size := HB7.out.size
          have hw2w : w.heap.size ≤ w2.heap.size := HB2.out.size
          have hpd : ∀ W x, Turn [blk] w7 W → Calls Tryz.prog 93 #[.agg #[.int .i64 (clQ (pns L).length x : Nat), .int .u64 (kQ (pns L) a x).1, .int .i64 (kQ (pns L) a x).2], .pointer (some ⟨h6 + 1 + 1, 0, none⟩), .pointer (some ⟨h6 + 1, 0, none⟩), .pointer (some ⟨h6, 0, none⟩)] W fun e w' => e = .returned (.bool (pdQ (pns L) a n m p x)) ∧ Below W.heap.size W w' := fun W x hW => by
            have hbW : Below w.heap.size w7 W := hW.below (fun y hy => by simp at hy; omega) (by omega)
            rw [HLN.out]
            exact closure_any A c L d.toNat a p x HPG.out haL d deg b n m hn1 hm1 (h6 + 1 + 1) (h6 + 1) h6 W (HX.out.below (HB07.out.trans hbW)).rd (zs.turn hW (by simp; omega)) (zn.turn hW (by simp; omega)) (by rw [← HKB.out]; exact zk.turn hW (by simp; omega))
          have CD := delS_any (pns L) a (pdQ (pns L) a n m p) (.pointer (some ⟨h6 + 1 + 1, 0, none⟩)) (.pointer (some ⟨h6 + 1, 0, none⟩)) (.pointer (some ⟨h6, 0, none⟩)) blk vc S w7 cs hpd HW7.out HSP.out (by omega) hcs hsv (by unfold maxLen at hvm; omega)
          rw [eh6]
          clear e7 zk zn zs b67 hpd y0 y1 q0 q1 q2 q3 q4 n0 n1 n2 HO6 HW6 HZ6 HB6 eh6
          go_wp2_with fail
          refine CD.mono ?_
          rintro e w8 ⟨rfl, ⟨cs', hw', hsz', hsp'⟩, ht'⟩
          dsimp only
          clear CD
          have ap3 := own_apart HO7.out HW7.out (by decide)
          have HO8 : Hid (w8.ownsRow w2.heap.size 3 1 (.slice V4 (K ++ [p]).length c4) (K ++ [p]).length ((natI (K ++ [p])).map (Value.int .i64))) := Lib.hid (own_turn HO7.out ht' (fun g hg hm => ap3 (by rw [hg]; simpa using hm)))
          have HB8 : Hid (Below w2.heap.size w2 w8) := Lib.hid (HB7.out.trans (ht'.below (fun y hy => by simp at hy; omega) hw72))
          have hlt := HLT.out
          obtain ⟨FL, eFL⟩ : ∃ FL, S.toList.filter (fun x => !pdQ (pns L) a n m p x) = FL := ⟨_, rfl⟩
          have hsub : ∀ x ∈ FL, x ∈ S.toList := fun x hx => by rw [← eFL] at hx; exact (List.mem_filter.1 hx).1
          have HK8 : Hid (KeptP (ndP (pns L) n m a) deg.toNat R (K ++ [p]) FL.toArray.toList) := Lib.hid (by
            have := HST.out
            rw [← HFL.out, eFL] at this
            simpa using this)
          have HS8 : Hid (∀ x ∈ FL.toArray.toList, x < L.length) := Lib.hid (fun x hx => HS.out x (hsub x (by simpa using hx)))
          rw [eFL] at hsp' hlt ⊢
          have HRW8 : Hid (SpRow (pns L) a w8 w2.heap.size (some ⟨blk, 0, none⟩) vc FL.toArray) := Lib.hid (.inr ⟨blk, cs', rfl, hbb, hw', by simp; omega, by simp; omega, hvm, hsp'⟩)
          clear hsub eFL ht' hw' hsz' hsp' ap3 HLT HFL HST
          go_wp2
          go_roundw
          case rel => exact ⟨K ++ [p], V4, c4, some ⟨blk, 0, none⟩, vc, FL.toArray, by simp, by simp, by simp; omega, HO8, HRW8, HK8, HS8, HB8⟩
          case measure => simp [lenOf]; omega
        · have f2 : decide ((K.length : Int) < deg) = false := decide_eq_false (by omega)
          have ER := HK.out.done (.inr (by omega))
          have EL := natI_len K
          go_wp2
          go_ret2
          rw [E.out.1, E.out.2, ER]
          refine ⟨KV, kc, by rw [natI_len]; rfl, ?_, HB2.out.trans (HB.out.mono HB2.out.size)⟩
          rw [natI_len]; exact own_base HO.out HB2.out.size
      · have hz : S.size = 0 := by omega
        have f1 : decide ((0 : Int) < (S.size : Int)) = false := decide_eq_false (by omega)
        have f1' : decide (0 < S.size) = false := decide_eq_false (by omega)
        have hnil : S.toList = [] := by simpa using hz
        have ER := HK.out.done (.inl hnil)
        clear hz hnil
        go_wp2
        go_ret2
        rw [E.out.1, E.out.2, ER]
        refine ⟨KV, kc, by rw [natI_len]; rfl, ?_, HB2.out.trans (HB.out.mono HB2.out.size)⟩
        rw [natI_len]; exact own_base HO.out HB2.out.size
end Go.Proofs.YtfokejlancmahaaGreat
