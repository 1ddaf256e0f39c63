/- The walk of the document's Keep. -/
import Derived.Test.YtfokejlancmahaaGreatWb
import Derived.Test.YtfokejlancmahaaGreatUi
import Derived.Test.YtfokejlancmahaaGreatUj
import Derived.Test.YtfokejlancmahaaGreatKk
import Derived.Deep.Cut
import Derived.Deep.RegionHeld3
namespace Go.Proofs.YtfokejlancmahaaGreat
open Go.RowKit Go.Lib
set_option linter.unusedVariables false
set_option linter.unusedSimpArgs false
theorem Tryz.info4w : (Tryz.prog.info? 4).map (fun i => (i.zero, i.size, i.bytes)) = some (some (.bool false), 1, 1) := by kernel_rfl
theorem whole_grownW {w w' : World} {g hi : Nat} {e : TypeId} {cs : Array Value} {o : Option Nat} (h : Whole w g e cs) (hg : w.grownBy w' o) (ho : ∀ k, o = some k → hi ≤ k) (hh : g < hi) : Whole w' g e cs :=
  (hg.block g h.lt (fun e => by have := ho g e.symm; omega)).trans h
theorem keepB_part {G : List Pn} {s d deg b n m at_ : Int} {P : List Int} (h : keepB G s d deg b n m at_ P = true) : P.length ≤ 2048 ∧ checkB G s d deg b n m = true ∧ (0 ≤ at_ ∧ at_ < (G.length : Int)) ∧ ∀ p ∈ P, 0 ≤ p ∧ p < (G.length : Int) := by
  unfold keepB at h
  simp only [Bool.and_eq_true] at h
  obtain ⟨h1, h2, h3⟩ := askB_yes h.2
  exact ⟨of_decide_eq_true h.1, h1, h2, h3⟩
theorem keepB_all {G : List Pn} {s d deg b n m at_ : Int} {P : List Int} (h0 : P.length ≤ 2048) (h1 : checkB G s d deg b n m = true) (h2 : 0 ≤ at_ ∧ at_ < (G.length : Int)) (h3 : ∀ p ∈ P, 0 ≤ p ∧ p < (G.length : Int)) : keepB G s d deg b n m at_ P = true := by
  unfold keepB askB
  rw [decide_eq_true h0, h1, show inG G.length at_ = true from decide_eq_true h2, show P.all (inG G.length) = true from List.all_eq_true.2 fun p hp => decide_eq_true (h3 p hp)]
  rfl
theorem keep_no {G : List Pn} {s d deg b n m at_ : Int} {P : List Int} (h : ¬ keepB G s d deg b n m at_ P = true) : keepA G s d deg b n m at_ P = [] ∧ errG (keepB G s d deg b n m at_ P) = 1 := by
  have e : keepB G s d deg b n m at_ P = false := by simpa using h
  unfold keepA
  rw [e]; exact ⟨rfl, rfl⟩
theorem own_rdW {w : World} {base n c : Nat} {e : TypeId} {A : Option Addr} {k : IntKind} {xs : List Int} (h : w.ownsRow base e 1 (.slice A n c) n (xs.map (Value.int k))) : Rd k w w.heap.size A xs := by
  obtain ⟨A', c', hv, _, _, hrd, _⟩ := own_slice h
  injection hv with q1 q2 q3
  rw [q1]; exact hrd
theorem encH_bare (L : List (Int × Int)) (x : Int × Int) : flatH (L ++ [x]) = flatH L ++ [.int .u64 x.1, .int .i64 x.2] := by rw [flatH_app]; rfl
set_option maxRecDepth 100000 in
set_option maxHeartbeats 16000000 in
theorem rKeep_any (A : Option Addr) (c : Nat) (L : List Gn) (s d deg b n m at_ : Int) (B : Option Addr) (q : Nat) (P : List Int) (w : World) (hx : GArg w A L) (hp : Rd .i64 w w.heap.size B P) (hP : P.length ≤ 140737488355328) :
    Calls Tryz.prog 10 #[.agg #[.slice A L.length c, .int .i64 s], .agg #[.int .i64 d, .int .i64 deg, .int .i64 b, .int .i64 n, .int .i64 m], .int .i64 at_, .slice B P.length q] w (IAns w (keepA (pns L) s d deg b n m at_ P) (errG (keepB (pns L) s d deg b n m at_ P))) := by
  have HLN := Lib.hid (pns_len L)
  have B0 : Below w.heap.size w ((w.alloc (.cells #[.slice A L.length c, .int .i64 s] 24)).alloc (.cells #[.int .i64 d, .int .i64 deg, .int .i64 b, .int .i64 n, .int .i64 m] 26)) := below_one (below_one (Below.refl _ _) _) _
  have HW0 := Lib.hid ((Whole.new w 24 #[.slice A L.length c, .int .i64 s]).alloc (.cells #[.int .i64 d, .int .i64 deg, .int .i64 b, .int .i64 n, .int .i64 m] 26))
  have HW1 : Hid (Whole ((w.alloc (.cells #[.slice A L.length c, .int .i64 s] 24)).alloc (.cells #[.int .i64 d, .int .i64 deg, .int .i64 b, .int .i64 n, .int .i64 m] 26)) (w.heap.size + 1) 26 #[.int .i64 d, .int .i64 deg, .int .i64 b, .int .i64 n, .int .i64 m]) := Lib.hid (by
    have := Whole.new (w.alloc (.cells #[.slice A L.length c, .int .i64 s] 24)) 26 #[.int .i64 d, .int .i64 deg, .int .i64 b, .int .i64 n, .int .i64 m]
    simpa using this)
  have HB0 := Lib.hid B0
  have HX := Lib.hid hx
  have HP := Lib.hid hp
  clear B0 hx hp
  go_enter Tryz.func10, Tryz.ntmps10
  go_upto_region 1 with fail
  obtain ⟨w1, ew1⟩ : ∃ w1, (w.alloc (.cells #[.slice A L.length c, .int .i64 s] 24)).alloc (.cells #[.int .i64 d, .int .i64 deg, .int .i64 b, .int .i64 n, .int .i64 m] 26) = w1 := ⟨_, rfl⟩
  rw [ew1] at HW0 HW1 HB0 ⊢
  obtain ⟨g, eg⟩ : ∃ g, w.heap.size = g := ⟨_, rfl⟩
  rw [eg] at HW0 HW1 ⊢
  have HG := Lib.hid eg
  have Z1 := HW0.out
  have Y1 := HW1.out
  have y0 := Z1.cell 0
  have y1 := Z1.cell 1
  have q0 := Y1.cell 0
  have q1 := Y1.cell 1
  have q2 := Y1.cell 2
  have q3 := Y1.cell 3
  have q4 := Y1.cell 4
  clear ew1 eg Z1 Y1
  have C1 := rCheck9_any A c L s d deg b n m w1 (HX.out.below HB0.out)
  have HLN := Lib.hid (pns_len L)
  go_wp2_with fail
  refine C1.mono ?_
  rintro e w2 ⟨rfl, b2⟩
  dsimp only
  have HB2 := Lib.hid (HB0.out.trans (b2.mono HB0.out.size))
  have HZ2 := Lib.hid (HW0.out.below b2 HW0.out.lt)
  have HY2 := Lib.hid (HW1.out.below b2 HW1.out.lt)
  clear C1 b2 y0 y1 q0 q1 q2 q3 q4
  cases hc : checkB (pns L) s d deg b n m with
  | false =>
    have HC := Lib.hid hc
    clear hc
    have E := Lib.hid (keep_no (G := pns L) (s := s) (d := d) (deg := deg) (b := b) (n := n) (m := m) (at_ := at_) (P := P) (fun h => by rw [(keepB_part h).2.1] at HC; exact absurd HC.out (by simp)))
    go_wp2
    go_ret2
    rw [E.out.1, E.out.2]
    exact IAns.nil w 1 HB2.out
  | true =>
    have HC := Lib.hid hc
    by_cases h1 : at_ < 0
    case pos =>
      have g1 : decide (at_ < 0) = true := decide_eq_true h1
      have E := Lib.hid (keep_no (G := pns L) (s := s) (d := d) (deg := deg) (b := b) (n := n) (m := m) (at_ := at_) (P := P) (fun h => by have := (keepB_part h).2.2.1; omega))
      go_wp2
      go_ret2
      rw [E.out.1, E.out.2]
      exact IAns.nil w 1 HB2.out
    have g1 : decide (at_ < 0) = false := decide_eq_false h1
    by_cases h2 : (L.length : Int) ≤ at_
    case pos =>
      have g2 : decide ((L.length : Int) ≤ at_) = true := decide_eq_true h2
      have E := Lib.hid (keep_no (G := pns L) (s := s) (d := d) (deg := deg) (b := b) (n := n) (m := m) (at_ := at_) (P := P) (fun h => by have := (keepB_part h).2.2.1; rw [HLN.out] at this; omega))
      go_wp2
      go_ret2
      rw [E.out.1, E.out.2]
      exact IAns.nil w 1 HB2.out
    have g2 : decide ((L.length : Int) ≤ at_) = false := decide_eq_false h2
    by_cases h3 : 2048 < P.length
    case pos =>
      have g3 : decide ((2048 : Int) < (P.length : Int)) = true := decide_eq_true (by omega)
      have E := Lib.hid (keep_no (G := pns L) (s := s) (d := d) (deg := deg) (b := b) (n := n) (m := m) (at_ := at_) (P := P) (fun h => by have := (keepB_part h).1; omega))
      go_wp2
      go_ret2
      rw [E.out.1, E.out.2]
      exact IAns.nil w 1 HB2.out
    have g3 : decide ((2048 : Int) < (P.length : Int)) = false := decide_eq_false (by omega)
    obtain ⟨a, rfl⟩ := Int.eq_ofNat_of_zero_le (show 0 ≤ at_ by omega)
    have hPG := PG_of hc HX.out.ok
    have hs2 := of_decide_eq_true (show setupB d deg b n m = true by unfold checkB at hc; simp only [Bool.and_eq_true] at hc; exact hc.1)
    have haL : a < L.length := by omega
    have hn1 : 1 ≤ n ∧ n ≤ 1000 := by omega
    have hm1 : 1 ≤ m ∧ m ≤ 1000 := by omega
    have hdg : 1 ≤ deg ∧ deg ≤ 32 := by omega
    have HPG := Lib.hid hPG
    have hL : L.length ≤ 2048 := by have := hPG.len; rw [HLN.out] at this; exact this
    have hPl : P.length ≤ 2048 := by omega
    have HCL : Hid (∀ W, Below w2.heap.size w2 W → (W.cell? ⟨g, 0, none⟩ = some (.slice A L.length c) ∧ W.cell? ⟨g, 1, none⟩ = some (.int .i64 s)) ∧ W.cell? ⟨g + 1, 0, none⟩ = some (.int .i64 d) ∧ W.cell? ⟨g + 1, 1, none⟩ = some (.int .i64 deg) ∧ W.cell? ⟨g + 1, 2, none⟩ = some (.int .i64 b) ∧ W.cell? ⟨g + 1, 3, none⟩ = some (.int .i64 n) ∧ W.cell? ⟨g + 1, 4, none⟩ = some (.int .i64 m)) := Lib.hid (fun W h => by
      have z := HZ2.out.below h HZ2.out.lt
      have z' := HY2.out.below h HY2.out.lt
      exact ⟨⟨z.cell 0, z.cell 1⟩, z'.cell 0, z'.cell 1, z'.cell 2, z'.cell 3, z'.cell 4⟩)
    have hmk : ∀ W : World, (Instr.makeSlice 86 (.int .i64 (L.length : Int)) (.int .i64 (L.length : Int))).run Tryz.prog W = .ok (.slice (some ⟨W.heap.size, 0, none⟩) L.length L.length) (W.alloc (.cells (cellsB (List.replicate L.length false)) 4)) := fun W => by
      have := run_make_row' (P := Tryz.prog) 86 4 (.bool false) 1 Tryz.underlying86 Tryz.info4w (by rfl) .i64 .i64 L.length (by omega) (by omega) W
      rw [cellsB_made] at this
      exact this
    have ya : (0 : Int) ≤ (a : Int) := by omega
    have yb : (a : Int) < (L.length : Int) := by omega
    clear hc hPG hs2 h1 h2 h3
    have g2n : decide (L.length ≤ a) = false := decide_eq_false (by omega)
    go_wp2
    try simp only [g1, g2, g2n, g3]
    have HM0 : Hid (Whole (w2.alloc (.cells (cellsB (List.replicate L.length false)) 4)) w2.heap.size 4 (cellsB (goneL L.length (P.take 0)))) := Lib.hid (by rw [List.take_zero, goneL_nil]; exact Whole.new _ _ _)
    have CB : Hid (Below w2.heap.size w2 (w2.alloc (.cells (cellsB (List.replicate L.length false)) 4))) := Lib.hid (below_one (Below.refl _ _) _)
    clear hmk g1 g2 g2n g3
    go_loopw [12] (fun i wr => ∃ k : Nat, k ≤ P.length ∧ i = .int .i64 k ∧ Hid (∀ p ∈ P.take k, 0 ≤ p ∧ p < ((pns L).length : Int)) ∧ Hid (Whole wr w2.heap.size 4 (cellsB (goneL L.length (P.take k)))) ∧ Hid (Below w2.heap.size w2 wr)) (fun i _ => P.length - (intOf i).toNat)
    case atStart => exact ⟨0, by omega, rfl, Lib.hid (fun p hp => absurd hp (by simp)), HM0, CB⟩
    case round =>
      clear HM0 CB
      obtain ⟨k, hk, rfl, HR, HM, HB⟩ := hrel
      by_cases hlt : k < P.length
      · have e1 : decide ((k : Int) < (P.length : Int)) = true := decide_eq_true (by omega)
        have hw2 : Below w.heap.size w wr := HB2.out.trans (HB.out.mono HB2.out.size)
        obtain ⟨b5, o5, p, rfl, hB5, hc5, hv5⟩ := (HP.out.below hw2).at_ hlt
        have hmem : P[k]? = some p := by
          have := hv5.out
          rw [List.getElem?_eq_getElem hlt] at this ⊢
          exact congrArg some this
        have HMEM := Lib.hid hmem
        have HTK : Hid (P.take (k + 1) = P.take k ++ [p]) := Lib.hid (by rw [List.take_add_one, hmem]; rfl)
        have x1 : (0 : Int) ≤ (k : Int) := by omega
        have x2 : (k : Int) < (P.length : Int) := by omega
        clear hv5 hmem
        by_cases hp0 : p < 0
        · have a1 : decide (p < 0) = true := decide_eq_true hp0
          have E := Lib.hid (keep_no (G := pns L) (s := s) (d := d) (deg := deg) (b := b) (n := n) (m := m) (at_ := (a : Int)) (P := P) (fun h => by have := (keepB_part h).2.2.2 p (List.mem_of_getElem? HMEM.out); omega))
          go_wp2
          go_ret2
          rw [E.out.1, E.out.2]
          exact IAns.nil w 1 hw2
        have a1 : decide (p < 0) = false := decide_eq_false hp0
        by_cases hp1 : (L.length : Int) ≤ p
        · have a2 : decide ((L.length : Int) ≤ p) = true := decide_eq_true hp1
          have E := Lib.hid (keep_no (G := pns L) (s := s) (d := d) (deg := deg) (b := b) (n := n) (m := m) (at_ := (a : Int)) (P := P) (fun h => by have := (keepB_part h).2.2.2 p (List.mem_of_getElem? HMEM.out); rw [HLN.out] at this; omega))
          go_wp2
          go_ret2
          rw [E.out.1, E.out.2]
          exact IAns.nil w 1 hw2
        have a2 : decide ((L.length : Int) ≤ p) = false := decide_eq_false hp1
        obtain ⟨pN, rfl⟩ := Int.eq_ofNat_of_zero_le (show 0 ≤ p by omega)
        have hpN : pN < L.length := by omega
        have y2 : (0 : Int) ≤ (pN : Int) := by omega
        have y3 : (pN : Int) < (L.length : Int) := by omega
        have cg := (HM.out.cell pN).trans (cellsB_at (by rw [goneL_len]; exact hpN))
        have fg := HM.out.frozen pN
        have HM2 := Lib.hid (HM.out.set pN (.bool true))
        rw [cellsB_set, goneL_set hpN, ← HTK.out] at HM2
        have HR2 : Hid (∀ p ∈ P.take (k + 1), 0 ≤ p ∧ p < ((pns L).length : Int)) := Lib.hid (fun x hx => by
          rw [HTK.out] at hx
          rcases List.mem_append.1 hx with h | h
          · exact HR.out x h
          · rw [List.mem_singleton] at h; subst h; rw [HLN.out]; omega)
        have HB3 : Hid (Below w2.heap.size w2 (wr.setCell ⟨w2.heap.size, pN, none⟩ (.bool true))) := Lib.hid (HB.out.setCell (p := ⟨w2.heap.size, pN, none⟩) (Nat.le_refl _) _)
        clear hw2 hp0 hp1 hB5
        go_wp2
        go_roundw
        case rel => exact ⟨k + 1, by omega, by go_num, HR2, HM2, HB3⟩
        case measure => simp [intOf]; omega
      · obtain rfl : k = P.length := by omega
        have e1 : decide ((P.length : Int) < (P.length : Int)) = false := decide_eq_false (by omega)
        rw [List.take_length] at HR HM
        have EK := keepB_all (at_ := (a : Int)) hPl HC.out (by rw [HLN.out]; omega) HR.out
        have E := Lib.hid (show keepA (pns L) s d deg b n m (a : Int) P = natI (keepL (pns L) n m deg a P) ∧ errG (keepB (pns L) s d deg b n m (a : Int) P) = 0 by unfold keepA; rw [EK]; exact ⟨rfl, rfl⟩)
        clear EK
        have HM0 : Hid (Whole wr w2.heap.size 4 (cellsB (goneL L.length P))) := HM
        have HO0 : Hid (wr.ownsRow (w2.heap.size + 1) 79 2 (.slice none 0 0) 0 (flatH ((inU P a 0).map (kQ (pns L) a)))) := Lib.hid ⟨rfl, .inl ⟨rfl, rfl⟩⟩
        have HB0' := HB
        clear HM HB hlt hk
        obtain ⟨i0, hi, hz0, hz1, hz2⟩ := info_parts Tryz.info79h
        go_wp2
        go_loopw [13, 14] (fun v i wr => ∃ (k N : Nat) (V : Option Addr) (vc : Nat), k ≤ L.length ∧ N ≤ k ∧ i = .int .i64 k ∧ v = .slice V N vc ∧ Hid (N = (inU P a k).length) ∧ Hid (wr.ownsRow (w2.heap.size + 1) 79 2 (.slice V N vc) N (flatH ((inU P a k).map (kQ (pns L) a)))) ∧ Hid (Whole wr w2.heap.size 4 (cellsB (goneL L.length P))) ∧ Hid (Below w2.heap.size w2 wr)) (fun _ i _ => L.length - (intOf i).toNat)
        case atStart => exact ⟨0, 0, none, 0, by omega, by omega, rfl, rfl, Lib.hid rfl, HO0, HM0, HB0'⟩
        case round =>
          clear HM0 HO0 HB0'
          obtain ⟨k, N, V, vc, hk, hNk, rfl, rfl, HN, HO, HM, HB⟩ := hrel
          by_cases hlt : k < L.length
          · have e2 : decide ((k : Int) < (L.length : Int)) = true := decide_eq_true (by omega)
            have x1 : (0 : Int) ≤ (k : Int) := by omega
            have x2 : (k : Int) < (L.length : Int) := by omega
            have cg := (HM.out.cell k).trans (cellsB_at (by rw [goneL_len]; exact hlt))
            rw [goneL_at hlt] at cg
            by_cases hno : goneAt P k = false ∨ k = a
            · have HS := Lib.hid (inU_no hno)
              cases hf : goneAt P k with
              | false =>
                rw [hf] at cg
                clear hf hno
                go_wp2
                go_roundw
                case rel => exact ⟨k + 1, N, V, vc, by omega, by omega, by go_num, rfl, Lib.hid (by rw [HS.out]; exact HN.out), Lib.hid (by rw [HS.out]; exact HO.out), HM, HB⟩
                case measure => simp [intOf]; omega
              | true =>
                rw [hf] at cg
                have hka : k = a := by
                  rcases hno with h | h
                  · rw [hf] at h; cases h
                  · exact h
                subst hka
                have e3 : ((k : Int) != (k : Int)) = false := by simp
                clear hf hno
                go_wp2
                go_roundw
                case rel => exact ⟨k + 1, N, V, vc, by omega, by omega, by go_num, rfl, Lib.hid (by rw [HS.out]; exact HN.out), Lib.hid (by rw [HS.out]; exact HO.out), HM, HB⟩
                case measure => simp [intOf]; omega
            · have hf : goneAt P k = true := by
                cases hf : goneAt P k with
                | true => rfl
                | false => exact absurd (Or.inl hf) hno
              have hka : k ≠ a := fun h => hno (Or.inr h)
              have HS := Lib.hid (inU_yes hf hka)
              rw [hf] at cg
              have e3 : ((k : Int) != (a : Int)) = true := by simp; omega
              clear hf hno
              obtain ⟨bb, ob, idk, vk, ck, vvk, vok, cok, ook, rfl, hBb, n1, n2, n3, hr1, hr2, hv⟩ := (HX.out.below HB2.out).rd.at_ hlt
              obtain ⟨bb2, ob2, ida, va, ca, vva, voa, coa, ooa, eA, hBb2, m1, m2, m3, hs1, hs2', hva⟩ := (HX.out.below HB2.out).rd.at_ haL
              cases eA
              have HEK := Lib.hid (nAt_get (pns_at hv.out))
              have HEA := Lib.hid (nAt_get (pns_at hva.out))
              have hKQ : kQ (pns L) a k = (idk, far vva vvk) := by
                unfold kQ
                rw [clQ_id (by rw [HLN.out]; exact hlt), HEK.out, fI_comm]
                unfold fI
                rw [HEK.out, HEA.out]
              have HKQ := Lib.hid hKQ
              have l1 := HPG.out.each a (by rw [HLN.out]; exact haL)
              have l2 := HPG.out.each k (by rw [HLN.out]; exact hlt)
              have k1 := HPG.out.num a (by rw [HLN.out]; exact haL)
              have k2 := HPG.out.num k (by rw [HLN.out]; exact hlt)
              have hdm := HPG.out.dim
              rw [HEA.out] at l1 k1
              rw [HEK.out] at l2 k2
              have l1' : vva.length = d.toNat := l1
              have l2' : vvk.length = d.toNat := l2
              have FA := Lib.hid (fun W (h : Below w2.heap.size w2 W) => (refFarQ_any va vk ca ck vva vvk (by omega) (by omega) W w2.heap.size (hs1.below h) (hr1.below h) k1 k2).mono (fun e w' qq => (by
                obtain ⟨q1, nq, rfl⟩ := qq
                exact ⟨q1, below_drewN (Below.refl _ _) nq⟩ : e = .returned (.int .i64 (far vva vvk)) ∧ Below W.heap.size W w')))
              obtain ⟨F, eF⟩ : ∃ F, far vva vvk = F := ⟨_, rfl⟩
              rw [eF] at FA HKQ
              obtain ⟨lvk, elk⟩ : ∃ x, vvk.length = x := ⟨_, rfl⟩
              obtain ⟨lva, ela⟩ : ∃ x, vva.length = x := ⟨_, rfl⟩
              rw [elk] at n2 FA
              rw [ela] at m2 FA
              have HCK : Hid (∀ W, Below w2.heap.size w2 W → W.cell? ⟨g, 0, none⟩ = some (.slice (some ⟨bb, ob, none⟩) L.length c) ∧ W.cell? ⟨bb, ob + k * 3, none⟩ = some (.int .u64 idk) ∧ W.cell? ⟨bb, ob + k * 3 + 1, none⟩ = some (.slice vk lvk ck) ∧ W.cell? ⟨bb, ob + a * 3 + 1, none⟩ = some (.slice va lva ca) ∧ Below w2.heap.size w2 W) := Lib.hid (fun W h => ⟨(HCL.out W h).1.1, (h.cell (p := ⟨bb, ob + k * 3, none⟩) hBb).trans n1, (h.cell (p := ⟨bb, ob + k * 3 + 1, none⟩) hBb).trans n2, (h.cell (p := ⟨bb, ob + a * 3 + 1, none⟩) hBb).trans m2, h⟩)
              have hsz := HB.out.size
              have hbs := HM.out.lt
              have AP := Lib.hid ((FA.out wr.drew HB.out.drew).mono (fun e w' q => (⟨q.1, ((Below.refl wr.heap.size wr).drew).trans q.2, HCK.out w' (HB.out.drew.trans (q.2.mono hsz))⟩ : e = .returned (.int .i64 F) ∧ Below wr.heap.size wr w' ∧ w'.cell? ⟨g, 0, none⟩ = some (.slice (some ⟨bb, ob, none⟩) L.length c) ∧ w'.cell? ⟨bb, ob + k * 3, none⟩ = some (.int .u64 idk) ∧ w'.cell? ⟨bb, ob + k * 3 + 1, none⟩ = some (.slice vk lvk ck) ∧ w'.cell? ⟨bb, ob + a * 3 + 1, none⟩ = some (.slice va lva ca) ∧ Below w2.heap.size w2 w')))
              obtain ⟨j0, j1, j2, j3, j4⟩ := HCK.out wr.drew HB.out.drew
              clear n1 n2 n3 m1 m2 m3 hr1 hr2 hs1 hs2' hv hva eF elk ela l1 l2 l1' l2' k1 k2 hKQ hBb hBb2 FA hdm HEK HEA
              go_wp2
              go_region_held3 (fun w' => w'.cell? ⟨g, 0, none⟩ = some (.slice (some ⟨bb, ob, none⟩) L.length c) ∧ w'.cell? ⟨bb, ob + k * 3, none⟩ = some (.int .u64 idk) ∧ w'.cell? ⟨bb, ob + k * 3 + 1, none⟩ = some (.slice vk lvk ck) ∧ w'.cell? ⟨bb, ob + a * 3 + 1, none⟩ = some (.slice va lva ca) ∧ Below w2.heap.size w2 w')
                (first | exact ⟨by with_reducible assumption, by with_reducible assumption, by with_reducible assumption, by with_reducible assumption, by with_reducible assumption⟩ | exact HCK.out _ (Below.alloc (by with_reducible assumption) (Below.size (by with_reducible assumption)) _))
                (first
                  | (go_at_call 34; (with_reducible refine AP.out.mono ?_); rintro e w5 ⟨rfl, b5, p1, p2, p3, p4, p5⟩)
                  | (refine step_append_lies _ (by rfl) _ _ _ (by rfl) (w2.heap.size + 1) 79 i0 (.agg #[.int .u64 0, .int .i64 0]) 2 16 Tryz.underlying60 hi hz0 hz1 hz2 rfl (by omega) (.slice V N vc) N (flatH ((inU P a k).map (kQ (pns L) a))) (by rfl) (own_below HO.out (below_one b5 _)) ⟨w5.heap.size, 0, none⟩ 1 1 [.int .u64 idk, .int .i64 F] (by rfl) (by rfl) (World.news_of_block (cs := #[.int .u64 idk, .int .i64 F]) (t := 79) (fr := (0, 0)) (heap_alloc_new w5 _)) (by simp [Value.oneCell']) (by omega) (by unfold maxLen; omega) (by omega) (by have h1 := b5.size; rw [World.size_alloc]; omega) (w5.heap.size + 1) (by simp) ?_; intro gg gcap w6 hown6 hgrow6 hat6 hlt6
                     have hbk : ∀ x, (Value.slice V N vc).ownBlock = some x → w2.heap.size + 1 ≤ x := fun x hx => (HO.out.lt x hx).1
                     have b6' : Below w2.heap.size w2 w6 := (Below.alloc p5 p5.size _).grown hgrow6 (by have h1 := b5.size; rw [World.size_alloc]; omega) (fun r hr => by have := hbk r hr; omega)
                     have hm6 := whole_grownW (HM.out.below (below_one b5 _) hbs) hgrow6 hbk (Nat.lt_succ_self _)
                     obtain ⟨z1, z2, z3, z4, z5⟩ := HCK.out w6 b6')
                  | fail)
              all_goals
                have HR6 : Hid (w6.ownsRow (w2.heap.size + 1) 79 2 (.slice (some ⟨gg, 0, none⟩) (N + 1) gcap) (N + 1) (flatH ((inU P a (k + 1)).map (kQ (pns L) a)))) := Lib.hid (by rw [HS.out, List.map_append, List.map_singleton, encH_bare, HKQ.out]; exact hown6)
                have HB6 := Lib.hid b6'
                have HM6 := Lib.hid hm6
                have HN6 : Hid (N + 1 = (inU P a (k + 1)).length) := Lib.hid (by rw [HS.out, List.length_append, ← HN.out]; rfl)
                clear hown6 hgrow6 hat6 hlt6 b6' hm6 hbk p1 p2 p3 p4 p5 z1 z2 z3 z4 z5 j0 j1 j2 j3 j4
                go_wp2
                go_roundw
                case rel => exact ⟨k + 1, N + 1, some ⟨gg, 0, none⟩, gcap, by omega, by omega, by go_num, rfl, HN6, HR6, HM6, HB6⟩
                case measure => simp [intOf]; omega
          · obtain rfl : k = L.length := by omega
            have e2 : decide ((L.length : Int) < (L.length : Int)) = false := decide_eq_false (by omega)
            have hxs := own_sliceH HO.out
            obtain ⟨A5, c5, eV, hN5, hrd5⟩ := hxs
            injection eV with v1 v2 v3
            subst v1; subst v3
            clear v2
            have SK := srt_keys HPG.out a (P := P) HR.out
            rw [HLN.out] at SK
            obtain ⟨U, eU⟩ : ∃ U, srtU (ltP (pns L) a) (spK P a P.length) = U := ⟨_, rfl⟩
            have HUlt : Hid (∀ x ∈ U, x < L.length) := Lib.hid (fun x hx => by
              have h1 := spK_lt (a := a) (k := P.length) HR.out
              rw [← eU, srtU_mem (ordP HPG.out a) _ h1] at hx
              have := h1 x hx
              rw [HLN.out] at this; exact this)
            have HKE := Lib.hid (keepL_eq (pns L) n m deg a P)
            rw [eU] at SK HKE
            have hUl : N = U.length := by
              have h1 := congrArg List.length SK
              rw [srt_len, List.length_map, List.length_map] at h1
              have h2 := HN.out
              omega
            have ST := refSort_any V vc _ N hN5 wr hrd5 (by rw [List.length_map]; have := inU_len P a L.length; omega)
            rw [SK] at ST
            have HU9 := Lib.hid hUl
            clear hUl hN5 hrd5 SK
            go_wp2_with fail
            refine ST.mono ?_
            rintro e w5 ⟨SV, rfl, ho5, b5⟩
            dsimp only
            obtain ⟨A6, c6, rfl, hN6, hrd6⟩ := own_sliceH ho5
            rw [List.length_map] at hN6
            subst hN6
            have HB5 := Lib.hid (HB.out.trans (b5.mono HB.out.size))
            have HRD := Lib.hid hrd6
            clear ST ho5 b5 hrd6 HO HM HB HN eU HU9
            have hUL : U.length ≤ L.length := hNk
            have HC5 : Hid (∀ W, Below w5.heap.size w5 W → (W.cell? ⟨g, 0, none⟩ = some (.slice A L.length c) ∧ W.cell? ⟨g, 1, none⟩ = some (.int .i64 s)) ∧ W.cell? ⟨g + 1, 0, none⟩ = some (.int .i64 d) ∧ W.cell? ⟨g + 1, 1, none⟩ = some (.int .i64 deg) ∧ W.cell? ⟨g + 1, 2, none⟩ = some (.int .i64 b) ∧ W.cell? ⟨g + 1, 3, none⟩ = some (.int .i64 n) ∧ W.cell? ⟨g + 1, 4, none⟩ = some (.int .i64 m)) := Lib.hid (fun W h => HCL.out W (HB5.out.trans (h.mono HB5.out.size)))
            have HUP5 : Hid (∀ W, Below w5.heap.size w5 W → Below w.heap.size w W) := Lib.hid (fun W h => (HB2.out.trans (HB5.out.mono HB2.out.size)).trans (h.mono (HB2.out.trans (HB5.out.mono HB2.out.size)).size))
            have HG0 : Hid (grd (ndP (pns L) n m a) deg.toNat [] (U.drop 0) = keepL (pns L) n m deg a P) := Lib.hid (by rw [List.drop_zero]; exact HKE.out.symm)
            have HO0 : Hid (w5.ownsRow w5.heap.size 3 1 (.slice none 0 0) 0 ((natI []).map (Value.int .i64))) := Lib.hid (own_nil_row _ _ _)
            have CB : Hid (Below w5.heap.size w5 w5) := Lib.hid (Below.refl _ _)
            obtain ⟨t0, ti, tz0, tz1, tz2⟩ := info_parts Tryz.info3k
            go_wp2
            go_loopw [15, 16] (fun ov i wr => ∃ (k : Nat) (K : List Nat) (KV : Option Addr) (kc : Nat), k ≤ U.length ∧ (K.length : Int) ≤ deg ∧ i = .int .i64 k ∧ ov = .slice KV K.length kc ∧ Hid (grd (ndP (pns L) n m a) deg.toNat K (U.drop k) = keepL (pns L) n m deg a P) ∧ Hid (∀ x ∈ K, x < L.length) ∧ Hid (wr.ownsRow w5.heap.size 3 1 (.slice KV K.length kc) K.length ((natI K).map (Value.int .i64))) ∧ Hid (Below w5.heap.size w5 wr)) (fun _ i _ => U.length - (intOf i).toNat)
            case atStart => exact ⟨0, [], none, 0, by omega, by simp; omega, rfl, rfl, HG0, Lib.hid (fun x hx => by simp at hx), HO0, CB⟩
            case round =>
              clear HG0 HO0 CB
              obtain ⟨k, K, KV, kc, hk, hKd, rfl, rfl, HGR, HKL, HO, HB⟩ := hrel
              have hK32 : K.length ≤ 32 := by omega
              have q1 := (HC5.out _ HB.out).2.2.1
              by_cases hlt : k < U.length
              · have e4 : decide ((k : Int) < (U.length : Int)) = true := decide_eq_true (by omega)
                by_cases hfull : (K.length : Int) < deg
                · have e5 : decide ((K.length : Int) < deg) = true := decide_eq_true hfull
                  obtain ⟨p, ep⟩ : ∃ p, U[k] = p := ⟨_, rfl⟩
                  have hpl : p < L.length := HUlt.out p (by rw [← ep]; exact List.getElem_mem hlt)
                  have HDR : Hid (U.drop k = p :: U.drop (k + 1)) := Lib.hid (by rw [List.drop_eq_getElem_cons hlt, ep])
                  obtain ⟨hb, ho, idk, fk, rfl, hHb, n1, n2, hv⟩ := HRD.out.at_ (i := k) (by rw [List.length_map]; exact hlt)
                  have hidk : idk = (kQ (pns L) a p).1 := by
                    have h1 := hv.out
                    rw [List.getElem?_map, List.getElem?_eq_getElem hlt, ep] at h1
                    injection h1 with h1
                    rw [h1]
                  have x5 : (0 : Int) ≤ (k : Int) := by omega
                  have x6 : (k : Int) < (U.length : Int) := by omega
                  have KS : ∀ W, Below wr.heap.size wr W → W.cell? ⟨g, 0, none⟩ = some (.slice A L.length c) ∧ W.cell? ⟨g, 1, none⟩ = some (.int .i64 s) ∧ W.cell? ⟨hb, ho + k * 2, none⟩ = some (.int .u64 idk) := fun W h => by
                    have h5 := HB.out.trans (h.mono HB.out.size)
                    have z := HC5.out W h5
                    exact ⟨z.1.1, z.1.2, (h5.cell (p := ⟨hb, ho + k * 2, none⟩) hHb).trans n1⟩
                  have KC : ∀ {f : Nat} {args : Array Value} {W : World} {e0 : Ending}, Below wr.heap.size wr W → (Calls Tryz.prog f args W fun e w' => e = e0 ∧ Below W.heap.size W w') → Calls Tryz.prog f args W fun e w' => e = e0 ∧ Below wr.heap.size wr w' ∧ w'.cell? ⟨g, 0, none⟩ = some (.slice A L.length c) ∧ w'.cell? ⟨g, 1, none⟩ = some (.int .i64 s) ∧ w'.cell? ⟨hb, ho + k * 2, none⟩ = some (.int .u64 idk) := fun h C => C.mono fun e w' q => (by
                    have hw := h.trans (q.2.mono h.size)
                    exact ⟨q.1, hw, KS w' hw⟩)
                  have A1 := Lib.hid (fun W (h : Below wr.heap.size wr W) => KC h (by
                    have h1 := rFind_any A c L s idk W W.heap.size (Nat.le_refl _) (HX.out.below (HUP5.out W (HB.out.trans (h.mono HB.out.size)))).rd (by omega)
                    rw [hidk, findI_key HC.out (by rw [HLN.out]; exact hpl), ← hidk] at h1
                    exact h1))
                  have HDK := (Below.refl wr.heap.size wr).drew
                  obtain ⟨j0, j1, j2⟩ := KS _ HDK
                  clear KS KC n1 n2 hv hHb hidk ep
                  go_wp2
                  first
                  | (go_region_held3 (fun w' => w'.cell? ⟨g, 0, none⟩ = some (.slice A L.length c) ∧ w'.cell? ⟨g, 1, none⟩ = some (.int .i64 s) ∧ w'.cell? ⟨hb, ho + k * 2, none⟩ = some (.int .u64 idk))
                    (first | exact ⟨by with_reducible assumption, by with_reducible assumption, by with_reducible assumption⟩)
                    (first
                      | (go_at_call 36; (with_reducible refine (A1.out _ (by with_reducible assumption)).mono ?_); rintro e wf ⟨rfl, bwf, zwf0, zwf1, zwf2⟩)
                      | fail))
                  | fail
                  all_goals
                    have HBf := Lib.hid (HB.out.trans (bwf.mono HB.out.size))
                    have HOf := Lib.hid (own_below HO.out bwf)
                    have HKR := Lib.hid (own_rdW HOf.out)
                    clear zwf0 zwf1 zwf2 bwf j0 j1 j2 HDK q1 HB HO A1
                    have HN0 : Hid (Below wf.heap.size wf wf) := Lib.hid (Below.refl _ _)
                    have HA0 : Hid ((!(K.take 0).any (fun x => ndP (pns L) n m a x p)) = true) := Lib.hid rfl
                    go_wp2
                    go_loopw [18, 19] (fun nv jv wr => ∃ (j : Nat) (bv : Bool), j ≤ K.length ∧ jv = .int .i64 j ∧ nv = .bool bv ∧ Hid ((!(K.take j).any (fun x => ndP (pns L) n m a x p)) = bv) ∧ Hid (Below wf.heap.size wf wr)) (fun _ jv _ => K.length - (intOf jv).toNat)
                    case atStart => exact ⟨0, true, by omega, rfl, rfl, HA0, HN0⟩
                    case round =>
                      clear HN0 HA0
                      obtain ⟨j, bv, hj, rfl, rfl, HA, HBq⟩ := hrel
                      by_cases hjl : j < K.length
                      · have e6 : decide ((j : Int) < (K.length : Int)) = true := decide_eq_true (by omega)
                        obtain ⟨kp, ekp⟩ : ∃ x, K[j] = x := ⟨_, rfl⟩
                        have hkl : kp < L.length := HKL.out kp (by rw [← ekp]; exact List.getElem_mem hjl)
                        have HTS := Lib.hid (show K.take (j + 1) = K.take j ++ [kp] by rw [List.take_add_one, List.getElem?_eq_getElem hjl, ekp]; rfl)
                        cases bv with
                        | false =>
                          have HA1 : Hid ((!(K.take (j + 1)).any (fun x => ndP (pns L) n m a x p)) = false) := Lib.hid (by
                            have h1 := HA.out
                            rw [HTS.out, List.any_append]
                            simp only [Bool.not_eq_false'] at h1 ⊢
                            rw [h1]; rfl)
                          clear ekp
                          go_wp2
                          go_quiet (fail)
                          go_wp2
                          go_roundw
                          case rel => exact ⟨j + 1, false, by omega, by go_num, rfl, HA1, Lib.hid (below_drewN HBq.out _)⟩
                          case measure => simp [intOf]; omega
                        | true =>
                          obtain ⟨kb, ko, t, rfl, hKb, c1, hv⟩ := HKR.out.at_ (i := j) (by rw [natI_len]; exact hjl)
                          have et : t = (kp : Int) := by
                            rw [← hv.out]
                            simp [natI, List.getElem?_eq_getElem hjl, ekp]
                          subst et
                          have x7 : (0 : Int) ≤ (j : Int) := by omega
                          have x8 : (j : Int) < (K.length : Int) := by omega
                          have KS : ∀ W, Below wf.heap.size wf W → W.cell? ⟨g, 0, none⟩ = some (.slice A L.length c) ∧ W.cell? ⟨g, 1, none⟩ = some (.int .i64 s) ∧ W.cell? ⟨g + 1, 0, none⟩ = some (.int .i64 d) ∧ W.cell? ⟨g + 1, 1, none⟩ = some (.int .i64 deg) ∧ W.cell? ⟨g + 1, 2, none⟩ = some (.int .i64 b) ∧ W.cell? ⟨g + 1, 3, none⟩ = some (.int .i64 n) ∧ W.cell? ⟨g + 1, 4, none⟩ = some (.int .i64 m) ∧ W.cell? ⟨kb, ko + j, none⟩ = some (.int .i64 (kp : Int)) := fun W h => by
                            have z := HC5.out W (HBf.out.trans (h.mono HBf.out.size))
                            exact ⟨z.1.1, z.1.2, z.2.1, z.2.2.1, z.2.2.2.1, z.2.2.2.2.1, z.2.2.2.2.2, (h.cell (p := ⟨kb, ko + j, none⟩) hKb).trans c1⟩
                          have KC : ∀ {f : Nat} {args : Array Value} {W : World} {e0 : Ending}, Below wf.heap.size wf W → (Calls Tryz.prog f args W fun e w' => e = e0 ∧ Below W.heap.size W w') → Calls Tryz.prog f args W fun e w' => e = e0 ∧ Below wf.heap.size wf w' ∧ w'.cell? ⟨g, 0, none⟩ = some (.slice A L.length c) ∧ w'.cell? ⟨g, 1, none⟩ = some (.int .i64 s) ∧ w'.cell? ⟨g + 1, 0, none⟩ = some (.int .i64 d) ∧ w'.cell? ⟨g + 1, 1, none⟩ = some (.int .i64 deg) ∧ w'.cell? ⟨g + 1, 2, none⟩ = some (.int .i64 b) ∧ w'.cell? ⟨g + 1, 3, none⟩ = some (.int .i64 n) ∧ w'.cell? ⟨g + 1, 4, none⟩ = some (.int .i64 m) ∧ w'.cell? ⟨kb, ko + j, none⟩ = some (.int .i64 (kp : Int)) := fun h C => C.mono fun e w' q => (by
                            have hw := h.trans (q.2.mono h.size)
                            exact ⟨q.1, hw, KS w' hw⟩)
                          have A2 := Lib.hid (fun W (h : Below wf.heap.size wf W) => KC h (rNeedless_any A c L d.toNat a kp p HPG.out haL hkl hpl s d deg b n m hn1 hm1 W (HX.out.below (HUP5.out W (HBf.out.trans (h.mono HBf.out.size)))).rd))
                          have HA1 : Hid ((!(K.take (j + 1)).any (fun x => ndP (pns L) n m a x p)) = !(ndP (pns L) n m a kp p)) := Lib.hid (by
                            have h1 := HA.out
                            rw [HTS.out, List.any_append]
                            simp only [Bool.not_eq_true'] at h1
                            rw [h1]; simp)
                          obtain ⟨dv, edv⟩ : ∃ x, ndP (pns L) n m a kp p = x := ⟨_, rfl⟩
                          rw [edv] at A2 HA1
                          have HDK := HBq.out.drew
                          obtain ⟨j0, j1, j2, j3, j4, j5, j6, j7⟩ := KS _ HDK
                          clear KS KC c1 hv hKb ekp edv
                          go_wp2
                          first
                          | (go_region_held3 (fun w' => w'.cell? ⟨g, 0, none⟩ = some (.slice A L.length c) ∧ w'.cell? ⟨g, 1, none⟩ = some (.int .i64 s) ∧ w'.cell? ⟨g + 1, 0, none⟩ = some (.int .i64 d) ∧ w'.cell? ⟨g + 1, 1, none⟩ = some (.int .i64 deg) ∧ w'.cell? ⟨g + 1, 2, none⟩ = some (.int .i64 b) ∧ w'.cell? ⟨g + 1, 3, none⟩ = some (.int .i64 n) ∧ w'.cell? ⟨g + 1, 4, none⟩ = some (.int .i64 m) ∧ w'.cell? ⟨kb, ko + j, none⟩ = some (.int .i64 (kp : Int)))
                            (first | exact ⟨by with_reducible assumption, by with_reducible assumption, by with_reducible assumption, by with_reducible assumption, by with_reducible assumption, by with_reducible assumption, by with_reducible assumption, by with_reducible assumption⟩)
                            (first
                              | (go_at_call 37; (with_reducible refine (A2.out _ (by with_reducible assumption)).mono ?_); rintro e wg ⟨rfl, bwg, zwg0, zwg1, zwg2, zwg3, zwg4, zwg5, zwg6, zwg7⟩)
                              | fail))
                          | fail
                          all_goals
                            have HBg := Lib.hid bwg
                            clear zwg0 zwg1 zwg2 zwg3 zwg4 zwg5 zwg6 zwg7 bwg j0 j1 j2 j3 j4 j5 j6 j7 HDK
                            go_wp2
                            go_roundw
                            case rel => exact ⟨j + 1, !dv, by omega, by go_num, rfl, HA1, HBg⟩
                            case measure => simp [intOf]; omega
                      · obtain rfl : j = K.length := by omega
                        have e6 : decide ((K.length : Int) < (K.length : Int)) = false := decide_eq_false (by omega)
                        rw [List.take_length] at HA
                        have HBw := Lib.hid (HBf.out.trans (HBq.out.mono HBf.out.size))
                        have HOw := Lib.hid (own_below HOf.out HBq.out)
                        have hsw := HBw.out.size
                        cases bv with
                        | false =>
                          have HG2 : Hid (grd (ndP (pns L) n m a) deg.toNat K (U.drop (k + 1)) = keepL (pns L) n m deg a P) := Lib.hid (by
                            have h1 := HGR.out
                            have h2 := HA.out
                            rw [HDR.out, grd_step (by omega), if_pos (by simpa using h2)] at h1
                            exact h1)
                          go_wp2
                          go_roundw
                          case rel => exact ⟨k + 1, K, KV, kc, by omega, by omega, by go_num, rfl, HG2, HKL, HOw, HBw⟩
                          case measure => simp [intOf]; omega
                        | true =>
                          have HG2 : Hid (grd (ndP (pns L) n m a) deg.toNat (K ++ [p]) (U.drop (k + 1)) = keepL (pns L) n m deg a P) := Lib.hid (by
                            have h1 := HGR.out
                            have h2 := HA.out
                            rw [HDR.out, grd_step (by omega), if_neg (by simpa using h2)] at h1
                            exact h1)
                          have HK2 : Hid (∀ x ∈ K ++ [p], x < L.length) := Lib.hid (fun x hx => by
                            rcases List.mem_append.1 hx with h | h
                            · exact HKL.out x h
                            · rw [List.mem_singleton] at h; subst h; exact hpl)
                          go_wp2_with (at_builtin; refine wpList_append_lies _ rfl (.tmp 147) (.tmp 149) 29 rfl w5.heap.size 3 t0 (.int .i64 0) 1 8 Tryz.underlying29 ti tz0 tz1 tz2 rfl (by omega) _ K.length ((natI K).map (Value.int .i64)) rfl (own_below HOw.out (below_one (Below.refl _ _) _)) ⟨wr.heap.size, 0, none⟩ 1 1 [.int .i64 (p : Int)] rfl rfl (World.news_of_block (cs := #[.int .i64 (p : Int)]) (t := 3) (fr := (0, 0)) (heap_alloc_new wr _)) (by simp [Value.oneCell']) (by omega) (by unfold maxLen; omega) (by omega) (by rw [World.size_alloc]; omega) (wr.heap.size + 1) (by simp) ?_; intro gg gcap w6 hown6 hgrow6 hat6 hlt6)
                          have HB6 : Hid (Below w5.heap.size w5 w6) := Lib.hid ((below_one HBw.out _).grown hgrow6 (by rw [World.size_alloc]; omega) (fun r hr => (HOw.out.lt r hr).1))
                          have HO6 : Hid (w6.ownsRow w5.heap.size 3 1 (.slice (some ⟨gg, 0, none⟩) (K ++ [p]).length gcap) (K ++ [p]).length ((natI (K ++ [p])).map (Value.int .i64))) := Lib.hid (by rw [natI_snoc, List.map_append, List.length_append]; exact hown6)
                          clear hown6 hgrow6 hat6 hlt6
                          go_wp2
                          go_roundw
                          case rel => exact ⟨k + 1, K ++ [p], some ⟨gg, 0, none⟩, gcap, by omega, by simp; omega, by go_num, by simp, HG2, HK2, HO6, HB6⟩
                          case measure => simp [intOf]; omega
                · have e5 : decide ((K.length : Int) < deg) = false := decide_eq_false hfull
                  have hfin : keepL (pns L) n m deg a P = K := by rw [← HGR.out]; exact grd_full (by omega) _
                  rw [hfin] at E
                  go_wp2
                  go_ret2
                  rw [E.out.1, E.out.2]
                  exact ⟨KV, kc, by simp [natI_len], by rw [natI_len]; exact own_base HO.out (HUP5.out _ (Below.refl _ _)).size, HUP5.out _ HB.out⟩
              · obtain rfl : k = U.length := by omega
                have e4 : decide ((U.length : Int) < (U.length : Int)) = false := decide_eq_false (by omega)
                have hfin : keepL (pns L) n m deg a P = K := by rw [← HGR.out, List.drop_length]; rfl
                rw [hfin] at E
                go_wp2
                go_ret2
                rw [E.out.1, E.out.2]
                exact ⟨KV, kc, by simp [natI_len], by rw [natI_len]; exact own_base HO.out (HUP5.out _ (Below.refl _ _)).size, HUP5.out _ HB.out⟩
end Go.Proofs.YtfokejlancmahaaGreat
