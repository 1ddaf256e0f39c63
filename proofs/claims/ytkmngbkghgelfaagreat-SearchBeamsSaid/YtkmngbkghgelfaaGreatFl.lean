/- The walk of Beam. -/
import Derived.Test.YtkmngbkghgelfaaGreatFh
import Derived.Test.YtkmngbkghgelfaaGreatFk
namespace Go.Proofs.YtkmngbkghgelfaaGreat
open Go.Shelf Go.RowKit Go.Lib
open Go.Sort hiding Below
set_option linter.unusedVariables false
set_option linter.unusedSimpArgs false
/-- An answer that is hits, places and an errno. -/
def BAns (w : World) (xs : HL) (os : List Int) (E : Int) (e : Ending) (w' : World) : Prop :=
  ∃ A c B d, e = .returned (.tuple #[.slice A xs.length c, .slice B os.length d, .int .i64 E]) ∧ w'.ownsRow w.heap.size 78 2 (.slice A xs.length c) xs.length (flatH xs) ∧ w'.ownsRow w.heap.size 3 1 (.slice B os.length d) os.length (os.map (Value.int .i64)) ∧ Below w.heap.size w w'
theorem BAns.nil (w : World) (E : Int) {w' : World} (h : Below w.heap.size w w') : BAns w [] [] E (.returned (.tuple #[.slice none 0 0, .slice none 0 0, .int .i64 E])) w' := ⟨none, 0, none, 0, rfl, ⟨rfl, .inl ⟨rfl, rfl⟩⟩, ⟨rfl, .inl ⟨rfl, rfl⟩⟩, h⟩
theorem beamB_eq (G : List Pn) (s : Int) (v : List Int) (k m : Int) : beamB G s v k m = ((mayS G s v && widB m) && decide (1 ≤ k ∧ k ≤ m)) := by
  unfold beamB widB
  rw [Bool.and_assoc]
  congr 1
  by_cases h1 : 1 ≤ m ∧ m ≤ 256 <;> by_cases h2 : 1 ≤ k ∧ k ≤ m <;> simp [h1, h2]
theorem comeP_od0 (G : List Pn) (v : List Int) (m s : Nat) : (comeP G v m ⟨[], [], []⟩ s).od = [] := comeP_od G v m _ s
theorem finP_zero {G : List Pn} {v : List Int} {m s : Nat} (h : G.length = 0) : finP G v m s = runP G v m (G.length - (⟨[], [], []⟩ : Sr).od.length) ⟨[], [], []⟩ := by
  unfold finP
  rw [if_pos h, h]; rfl
theorem finP_pos {G : List Pn} {v : List Int} {m s : Nat} (h : G.length ≠ 0) : finP G v m s = runP G v m (G.length - (comeP G v m ⟨[], [], []⟩ s).od.length) (comeP G v m ⟨[], [], []⟩ s) := by
  unfold finP
  rw [if_neg h, comeP_od0]; rfl
theorem runP_ok {G : List Pn} {s : Int} {v : List Int} {m : Nat} (hG : Holds G s) (hN : (G.map (·.1)).Nodup) (hm : 0 < m) : ∀ (k : Nat) {t : Sr}, OkS G v m t → OkS G v m (runP G v m k t)
  | 0, t, h => h
  | k + 1, t, h => by
    unfold runP
    split
    · exact h
    · rename_i p hp
      exact runP_ok hG hN hm k (h.look hG hN hm (h.sub p (nextP_some hp).1) (nextP_some hp).2)
theorem finP_ok {G : List Pn} {s : Int} {v : List Int} {m : Nat} (h : MaySearch G s v) (hm : 0 < m) : OkS G v m (finP G v m s.toNat) := by
  unfold finP
  split
  · exact OkS.nil _ _ _
  · rename_i hn
    have hs := h.ho.start (by omega)
    exact runP_ok h.ho h.nd hm _ ((OkS.nil G v m).come (s := s) h.nd hm (by omega))
set_option maxRecDepth 100000 in
set_option maxHeartbeats 16000000 in
theorem beam_any (A : Option Addr) (c : Nat) (L : List Gn) (s : Int) (B : Option Addr) (q : Nat) (v : List Int) (k bm : Int) (w : World) (hx : GArg w A L) (hv : Rd .i8 w w.heap.size B v) (bv : ∀ n ∈ v, -128 ≤ n ∧ n ≤ 127) :
    Calls Tryz.prog 18 #[.agg #[.slice A L.length c, .int .i64 s], .slice B v.length q, .int .i64 k, .int .i64 bm] w (BAns w (beamH (pns L) s v k bm) (beamO (pns L) s v k bm) (errG (beamB (pns L) s v k bm))) := by
  have HX := Lib.hid hx
  have B0 : Below w.heap.size w (w.alloc (.cells #[.slice A L.length c, .int .i64 s] 24)) := below_one (Below.refl _ _) _
  have HW0 := Lib.hid (Whole.new w 24 #[.slice A L.length c, .int .i64 s])
  have HB0 := Lib.hid B0
  have HVV := Lib.hid hv
  have HBV := Lib.hid bv
  cases hN : (mayS (pns L) s v && widB bm) with
  | false =>
    have hB : beamB (pns L) s v k bm = false := by rw [beamB_eq, hN]; rfl
    have e1 : beamH (pns L) s v k bm = [] := by unfold beamH; rw [hB]; rfl
    have e2 : beamO (pns L) s v k bm = [] := by unfold beamO; rw [hB]; rfl
    have HNS := Lib.hid (fun W (h : GArg W A L) => newS_no A c L s B q v bm W h hN)
    rw [e1, e2, hB, show errG false = 1 from rfl]
    clear hx hv bv B0 hB e1 e2 hN
    go_enter Tryz.func18, Tryz.ntmps18
    go_upto_region 1 with fail
    obtain ⟨w0, ew0⟩ : ∃ w0, w.alloc (.cells #[.slice A L.length c, .int .i64 s] 24) = w0 := ⟨_, rfl⟩
    rw [ew0] at HW0 HB0 ⊢
    have y0 := HW0.out.cell 0
    have y1 := HW0.out.cell 1
    clear ew0
    go_wp2_with fail
    refine (HNS.out w0 (HX.out.below HB0.out)).mono ?_
    rintro e w1 ⟨rfl, b1⟩
    dsimp only
    clear y0 y1
    go_wp2
    go_ret3
    exact BAns.nil _ _ (HB0.out.trans (b1.mono HB0.out.size))
  | true =>
    have hN2 := hN
    rw [Bool.and_eq_true] at hN2
    obtain ⟨hmay, hw⟩ := hN2
    obtain ⟨m, hm, hm1, hm2⟩ : ∃ m : Nat, bm = m ∧ 1 ≤ m ∧ m ≤ 256 := by
      obtain ⟨h1, h2, h3⟩ := widB_nat hw
      exact ⟨bm.toNat, h3.symm, h1, h2⟩
    subst hm
    have HMS := Lib.hid (mayS_yes hmay)
    have HNS := Lib.hid (fun W (h : GArg W A L) => newS_yes A c L s B q v m W h hmay hm1 hm2)
    by_cases hk : 1 ≤ k ∧ k ≤ (m : Int)
    case neg =>
      have hB : beamB (pns L) s v k (m : Int) = false := by rw [beamB_eq, decide_eq_false hk, Bool.and_false]
      have e1 : beamH (pns L) s v k (m : Int) = [] := by unfold beamH; rw [hB]; rfl
      have e2 : beamO (pns L) s v k (m : Int) = [] := by unfold beamO; rw [hB]; rfl
      rw [e1, e2, hB, show errG false = 1 from rfl]
      clear hx hv bv B0 hB e1 e2 hN hmay hw hm1 hm2
      go_enter Tryz.func18, Tryz.ntmps18
      go_upto_region 1 with fail
      obtain ⟨w0, ew0⟩ : ∃ w0, w.alloc (.cells #[.slice A L.length c, .int .i64 s] 24) = w0 := ⟨_, rfl⟩
      rw [ew0] at HW0 HB0 ⊢
      have y0 := HW0.out.cell 0
      have y1 := HW0.out.cell 1
      clear ew0
      go_wp2_with fail
      refine (HNS.out w0 (HX.out.below HB0.out)).mono ?_
      rintro e w1 ⟨b, F, rfl, _, b1⟩
      have HB1 := Lib.hid (HB0.out.trans (b1.mono HB0.out.size))
      dsimp only
      clear y0 y1 b1
      by_cases hk1 : k < 1
      · have d1 : decide (k < 1) = true := decide_eq_true hk1
        go_wp2
        go_ret3
        exact BAns.nil _ _ HB1.out
      · have d1 : decide (k < 1) = false := decide_eq_false hk1
        have hk2 : (m : Int) < k := by omega
        have d2 : decide ((m : Int) < k) = true := decide_eq_true hk2
        clear hk
        go_wp2
        go_ret3
        exact BAns.nil _ _ HB1.out
    case pos =>
    obtain ⟨kn, ekn⟩ : ∃ kn : Nat, k = kn := ⟨k.toNat, by omega⟩
    subst ekn
    have hB : beamB (pns L) s v (kn : Int) (m : Int) = true := by rw [beamB_eq, hN, decide_eq_true hk]; rfl
    have hfin : beamF (pns L) s v (m : Int) = finP (pns L) v m s.toNat := rfl
    have e1 : beamH (pns L) s v (kn : Int) (m : Int) = (hlP (pns L) v (finP (pns L) v m s.toNat).ps).take kn := by unfold beamH; rw [hB]; rfl
    have e2 : beamO (pns L) s v (kn : Int) (m : Int) = natS (finP (pns L) v m s.toNat).od := by unfold beamO; rw [hB]; rfl
    have HFO := Lib.hid (finP_ok (m := m) HMS.out hm1)
    have HPL := Lib.hid (pns_len L)
    have hL48 : L.length ≤ 2048 := by rw [← HPL.out]; exact HMS.out.ho.1
    have HM1 := Lib.hid hm1
    have HM2 := Lib.hid hm2
    have d1 : decide ((kn : Int) < 1) = false := decide_eq_false (by omega)
    have d2 : decide ((m : Int) < (kn : Int)) = false := decide_eq_false (by omega)
    have d1' : ¬ (kn : Int) < 1 := by omega
    have d2' : ¬ (m : Int) < (kn : Int) := by omega
    have d2n : ¬ m < kn := by omega
    have HOL : Hid (∀ x ∈ pns L, x.2.2.length ≤ 20000) := Lib.hid (fun x hx => (HX.out.sm.at_ hx).2)
    rw [e1, e2, hB, show errG true = 0 from rfl]
    obtain ⟨Fin, eFin⟩ : ∃ Fin, finP (pns L) v m s.toNat = Fin := ⟨_, rfl⟩
    rw [eFin] at HFO ⊢
    have HFI := Lib.hid eFin
    clear hx hv bv B0 hB e1 e2 hN hmay hw hm1 hm2 hfin eFin hk
    go_enter Tryz.func18, Tryz.ntmps18
    go_upto_region 1 with fail
    obtain ⟨w0, ew0⟩ : ∃ w0, w.alloc (.cells #[.slice A L.length c, .int .i64 s] 24) = w0 := ⟨_, rfl⟩
    obtain ⟨g0, eg0⟩ : ∃ g0, w.heap.size = g0 := ⟨_, rfl⟩
    rw [ew0] at HW0 HB0 ⊢
    have HGG := Lib.hid eg0
    rw [eg0] at HW0
    rw [show (Value.pointer (some ⟨w.heap.size, 0, none⟩) : Value) = .pointer (some ⟨g0, 0, none⟩) by rw [eg0]]
    have y0 := HW0.out.cell 0
    have y1 := HW0.out.cell 1
    clear ew0 eg0
    go_wp2_with fail
    refine (HNS.out w0 (HX.out.below HB0.out)).mono ?_
    rintro e w1 ⟨b, F, rfl, hS, b1⟩
    dsimp only
    have HE : Hid (∀ W, Below w0.heap.size w0 W → SEnv ⟨pns L, v, m, A, c, B, q, w0.heap.size⟩ L s W) := Lib.hid (fun W h =>
      ⟨(HX.out.below HB0.out).rd.below h, ((HVV.out.below HB0.out).more HB0.out.size).below h, rfl, HMS.out, HX.out.ok, HBV.out, HM1.out, HM2.out, h.size⟩)
    have HS1 := Lib.hid hS
    have HB1 := Lib.hid b1
    have z0 := (HW0.out.below b1 HW0.out.lt).cell 0
    have z1 := (HW0.out.below b1 HW0.out.lt).cell 1
    clear y0 y1 hS b1
    by_cases hn : L.length = 0
    · have e3 : decide ((0 : Int) < (L.length : Int)) = false := decide_eq_false (by omega)
      have e3n : decide (0 < L.length) = false := decide_eq_false (by omega)
      have HLA := Lib.hid (callsIn_wide.1 (lookAround_any _ L s w1 b F _ HS1.out (HE.out w1 HB1.out) (OkS.nil _ _ _) HOL.out))
      have HEQ : Hid (runP (pns L) v m ((pns L).length - (⟨[], [], []⟩ : Sr).od.length) ⟨[], [], []⟩ = Fin) := Lib.hid (by rw [← HFI.out]; exact (finP_zero (by rw [HPL.out]; exact hn)).symm)
      have HTU : Hid (Turn F w0 w1 ∧ ∀ f ∈ F, w0.heap.size ≤ f) := Lib.hid ⟨(Turn.of_below HB1.out).more (by simp), fun f hf => (HS1.out.fpt f hf).1⟩
      rw [HEQ.out] at HLA
      clear hn
      go_wp2_with (go_at_call 70; refine HLA.out.mono ?_; rintro e w3 ⟨rfl, F3, ⟨g, hb, oA, oc, hS3, hgb, hF3⟩, hT3, hF3'⟩; subst hgb; have hB3 : Below w0.heap.size w0 w3 := (HB1.out).trans ((hT3.below (fun f hf => HTU.out.2 f hf) (HB1.out).size)); have HB3 := Lib.hid hB3; have HS3 := Lib.hid hS3; have q0 : w3.cell? ⟨g.b, 0, none⟩ = some (.pointer (some ⟨hb, 0, none⟩)) := hS3.blk.cell 0; clear hS3 hF3 hT3 hF3' hB3)
      have HHT : Hid (Calls Tryz.prog 26 #[.pointer (some ⟨hb, 0, none⟩)] w3 (HitsYes (hlP (pns L) v Fin.ps) w3)) := Lib.hid (hHits_any hb g.FH m _ w3 HS3.out.heap)
      refine HHT.out.mono ?_
      rintro e w4 ⟨gh, rfl, hW4, hg4, t4⟩
      dsimp only
      have HB34 := Lib.hid (turn_nil t4)
      have HW4 := Lib.hid hW4
      have HGH := Lib.hid hg4
      have S4 := HS3.out.below HB34.out
      have HS4 := Lib.hid S4
      have q6 : w4.cell? ⟨g.b, 6, none⟩ = some (.slice oA Fin.od.length oc) := S4.blk.cell 6
      have hyl : (hlP (pns L) v Fin.ps).length ≤ 256 := by rw [hlP_len]; have := HFO.out.le; have := HM2.out; omega
      obtain ⟨N, eN⟩ : ∃ N, (hlP (pns L) v Fin.ps).length = N := ⟨_, rfl⟩
      have HN := Lib.hid eN
      rw [eN] at hyl ⊢
      clear hW4 hg4 t4 S4 q0 eN
      have hmin : min (kn : Int) (N : Int) = ((min kn N : Nat) : Int) := by omega
      have hm0 : (0 : Int) ≤ ((min kn N : Nat) : Int) := by omega
      have hmN : ((min kn N : Nat) : Int) ≤ (N : Int) := by omega
      go_wp2
      go_region
      all_goals
        go_wp2
        go_ret3
        have hs0 := HB0.out.size
        have b3 := HB3.out
        have hs3 := b3.size
        have b34 := HB34.out
        have bd : Below w4.heap.size w4 w4.drew := (Below.refl _ _).drew
        have hl1 : ((hlP (pns L) v Fin.ps).take kn).length = min kn N := by rw [List.length_take, HN.out]
        have htk : (hlP (pns L) v Fin.ps).take (min kn N) = (hlP (pns L) v Fin.ps).take kn := by
          rw [← HN.out]
          rcases Nat.le_total kn (hlP (pns L) v Fin.ps).length with h | h
          · rw [Nat.min_eq_left h]
          · rw [Nat.min_eq_right h, List.take_length, List.take_of_length_le h]
        have hrow := whole_rowH (base := w.heap.size) (n := min kn N) (HW4.out.below bd HW4.out.lt) (by rw [HN.out]; omega) (by have := HGH.out; omega) (by rw [HN.out]; omega)
        rw [htk, HN.out] at hrow
        refine ⟨some ⟨gh, 0, none⟩, N, oA, oc, ?_, ?_, ?_, HB0.out.trans ((b3.trans ((b34.trans (bd.mono b34.size)).mono hs3)).mono hs0)⟩
        · rw [hl1, natS_len]; rfl
        · rw [hl1]; exact hrow
        · rw [natS_len]; exact own_base (own_below (own_below HS3.out.od b34) bd) hs0
    · have e3 : decide ((0 : Int) < (L.length : Int)) = true := decide_eq_true (by omega)
      have e3n : decide (0 < L.length) = true := decide_eq_true (by omega)
      have hst := HMS.out.ho.start (by rw [HPL.out]; omega)
      obtain ⟨sn, esn⟩ : ∃ sn : Nat, s = sn := ⟨s.toNat, by omega⟩
      subst esn
      have hsn : sn < (pns L).length := by omega
      have HCM := Lib.hid (come_any _ L (sn : Int) w1 b F _ HS1.out (HE.out w1 HB1.out) (OkS.nil _ _ _) sn hsn)
      have HOK := Lib.hid ((OkS.nil (pns L) v m).come (s := (sn : Int)) HMS.out.nd HM1.out hsn)
      have HEQ : Hid (runP (pns L) v m ((pns L).length - (comeP (pns L) v m ⟨[], [], []⟩ sn).od.length) (comeP (pns L) v m ⟨[], [], []⟩ sn) = Fin) := Lib.hid (by rw [← HFI.out, Int.toNat_natCast]; exact (finP_pos (by rw [HPL.out]; exact hn)).symm)
      clear hn hst hsn
      go_wp2_with (go_at_call 25; refine HCM.out.mono ?_; rintro e w2 ⟨rfl, F2, hS2, hT2, hF2⟩; have hB2 : Below w0.heap.size w0 w2 := HB1.out.trans (hT2.below (fun f hf => (HS1.out.fpt f hf).1) HB1.out.size); have HB2 := Lib.hid hB2; have HLA := Lib.hid (callsIn_wide.1 (lookAround_any _ L (sn : Int) w2 b F2 _ hS2 (HE.out w2 hB2) HOK.out HOL.out)); have HTU : Hid (Turn F2 w0 w2 ∧ ∀ f ∈ F2, w0.heap.size ≤ f) := Lib.hid ⟨(Turn.of_below hB2).more (by simp), fun f hf => (hS2.fpt f hf).1⟩; rw [HEQ.out] at HLA; clear hS2 hT2 hF2 hB2)
      go_wp2_with (go_at_call 70; refine HLA.out.mono ?_; rintro e w3 ⟨rfl, F3, ⟨g, hb, oA, oc, hS3, hgb, hF3⟩, hT3, hF3'⟩; subst hgb; have hB3 : Below w0.heap.size w0 w3 := (HB2.out).trans ((hT3.below (fun f hf => HTU.out.2 f hf) (HB2.out).size)); have HB3 := Lib.hid hB3; have HS3 := Lib.hid hS3; have q0 : w3.cell? ⟨g.b, 0, none⟩ = some (.pointer (some ⟨hb, 0, none⟩)) := hS3.blk.cell 0; clear hS3 hF3 hT3 hF3' hB3)
      have HHT : Hid (Calls Tryz.prog 26 #[.pointer (some ⟨hb, 0, none⟩)] w3 (HitsYes (hlP (pns L) v Fin.ps) w3)) := Lib.hid (hHits_any hb g.FH m _ w3 HS3.out.heap)
      refine HHT.out.mono ?_
      rintro e w4 ⟨gh, rfl, hW4, hg4, t4⟩
      dsimp only
      have HB34 := Lib.hid (turn_nil t4)
      have HW4 := Lib.hid hW4
      have HGH := Lib.hid hg4
      have S4 := HS3.out.below HB34.out
      have HS4 := Lib.hid S4
      have q6 : w4.cell? ⟨g.b, 6, none⟩ = some (.slice oA Fin.od.length oc) := S4.blk.cell 6
      have hyl : (hlP (pns L) v Fin.ps).length ≤ 256 := by rw [hlP_len]; have := HFO.out.le; have := HM2.out; omega
      obtain ⟨N, eN⟩ : ∃ N, (hlP (pns L) v Fin.ps).length = N := ⟨_, rfl⟩
      have HN := Lib.hid eN
      rw [eN] at hyl ⊢
      clear hW4 hg4 t4 S4 q0 eN
      have hmin : min (kn : Int) (N : Int) = ((min kn N : Nat) : Int) := by omega
      have hm0 : (0 : Int) ≤ ((min kn N : Nat) : Int) := by omega
      have hmN : ((min kn N : Nat) : Int) ≤ (N : Int) := by omega
      go_wp2
      go_region
      all_goals
        go_wp2
        go_ret3
        have hs0 := HB0.out.size
        have b3 := HB3.out
        have hs3 := b3.size
        have b34 := HB34.out
        have bd : Below w4.heap.size w4 w4.drew := (Below.refl _ _).drew
        have hl1 : ((hlP (pns L) v Fin.ps).take kn).length = min kn N := by rw [List.length_take, HN.out]
        have htk : (hlP (pns L) v Fin.ps).take (min kn N) = (hlP (pns L) v Fin.ps).take kn := by
          rw [← HN.out]
          rcases Nat.le_total kn (hlP (pns L) v Fin.ps).length with h | h
          · rw [Nat.min_eq_left h]
          · rw [Nat.min_eq_right h, List.take_length, List.take_of_length_le h]
        have hrow := whole_rowH (base := w.heap.size) (n := min kn N) (HW4.out.below bd HW4.out.lt) (by rw [HN.out]; omega) (by have := HGH.out; omega) (by rw [HN.out]; omega)
        rw [htk, HN.out] at hrow
        refine ⟨some ⟨gh, 0, none⟩, N, oA, oc, ?_, ?_, ?_, HB0.out.trans ((b3.trans ((b34.trans (bd.mono b34.size)).mono hs3)).mono hs0)⟩
        · rw [hl1, natS_len]; rfl
        · rw [hl1]; exact hrow
        · rw [natS_len]; exact own_base (own_below (own_below HS3.out.od b34) bd) hs0
end Go.Proofs.YtkmngbkghgelfaaGreat
