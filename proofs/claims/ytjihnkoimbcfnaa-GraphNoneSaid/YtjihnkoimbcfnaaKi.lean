/- The walk of the document's Tree (layer 9). -/
import Derived.Test.YtjihnkoimbcfnaaKh
import Derived.Test.YtjihnkoimbcfnaaBi
import Derived.Test.YtjihnkoimbcfnaaOw
import Derived.Deep.OwnRows
import Derived.Deep.RegionHeld3
import Derived.Deep.AppendLies
namespace Go.Proofs.Ytjihnkoimbcfnaa
open Go.RowKit
set_option linter.unusedVariables false
/-- The cells of a row of numbers. -/
def cellsI (H : List Int) : Array Value := (H.map (Value.int .i64)).toArray
theorem cellsI_made (n : Nat) : madeCells #[Value.int .i64 0] n = cellsI (List.replicate n 0) := by
  apply Array.ext'
  rw [made_one]
  simp [cellsI]
theorem cellsI_set (H : List Int) (i : Nat) (v : Int) : (cellsI H).setIfInBounds i (.int .i64 v) = cellsI (H.set i v) := by
  unfold cellsI
  apply Array.ext'
  simp [List.map_set]
theorem cellsI_at {H : List Int} {i : Nat} (h : i < H.length) : (cellsI H)[i]? = some (.int .i64 (hAt H i)) := by
  unfold cellsI hAt
  simp [List.getElem?_eq_getElem h]
def fillK (n k : Nat) : List Int := List.replicate k (-1) ++ List.replicate (n - k) 0
theorem fillK_len {n k : Nat} (h : k ≤ n) : (fillK n k).length = n := by simp [fillK]; omega
theorem fillK_set {n k : Nat} (h : k < n) : (fillK n k).set k (-1) = fillK n (k + 1) := by
  unfold fillK
  rw [List.set_append_right _ _ (by simp), List.length_replicate, Nat.sub_self]
  obtain ⟨m, hm⟩ : ∃ m, n - k = m + 1 := ⟨n - k - 1, by omega⟩
  rw [hm, show n - (k + 1) = m by omega, List.replicate_succ, List.set_cons_zero, List.replicate_succ']
  simp
/-- What Tree's rows are. -/
structure TrSt (w : World) (g n : Nat) (box : Array Value) (H F : List Int) (W : World) : Prop where
  bel : Below g w W
  bx : Whole W g 24 box
  h : Whole W (g + 1) 3 (cellsI H)
  f : Whole W (g + 1 + 1) 3 (cellsI F)
  hl : H.length = n
  fl : F.length = n
theorem TrSt.setH {w W : World} {g n : Nat} {box : Array Value} {H F : List Int} (t : TrSt w g n box H F W) (i : Nat) (v : Int) : TrSt w g n box (H.set i v) F (W.setCell ⟨g + 1, i, none⟩ (.int .i64 v)) :=
  ⟨t.bel.setCell (p := ⟨g + 1, i, none⟩) (Nat.le_succ _) _, t.bx.far (a := ⟨g + 1, i, none⟩) (by show g ≠ g + 1; omega) _, by rw [← cellsI_set]; exact t.h.set i _, t.f.far (a := ⟨g + 1, i, none⟩) (by show g + 1 + 1 ≠ g + 1; omega) _, by rw [List.length_set]; exact t.hl, t.fl⟩
theorem TrSt.setF {w W : World} {g n : Nat} {box : Array Value} {H F : List Int} (t : TrSt w g n box H F W) (i : Nat) (v : Int) : TrSt w g n box H (F.set i v) (W.setCell ⟨g + 1 + 1, i, none⟩ (.int .i64 v)) :=
  ⟨t.bel.setCell (p := ⟨g + 1 + 1, i, none⟩) (by show g ≤ g + 1 + 1; omega) _, t.bx.far (a := ⟨g + 1 + 1, i, none⟩) (by show g ≠ g + 1 + 1; omega) _, t.h.far (a := ⟨g + 1 + 1, i, none⟩) (by show g + 1 ≠ g + 1 + 1; omega) _, by rw [← cellsI_set]; exact t.f.set i _, t.hl, by rw [List.length_set]; exact t.fl⟩
theorem TrSt.below {w W W' : World} {g n : Nat} {box : Array Value} {H F : List Int} (t : TrSt w g n box H F W) (hb : Below W.heap.size W W') : TrSt w g n box H F W' :=
  ⟨t.bel.trans (hb.mono (Nat.le_of_lt t.bx.lt)), t.bx.below hb t.bx.lt, t.h.below hb t.h.lt, t.f.below hb t.f.lt, t.hl, t.fl⟩
theorem TrSt.grown {w W W' : World} {g n qa : Nat} {box : Array Value} {H F : List Int} (t : TrSt w g n box H F W) (hg : W.grownBy W' (some qa)) (hq : g + 1 + 1 < qa) : TrSt w g n box H F W' :=
  ⟨t.bel.grown hg (Nat.le_of_lt t.bx.lt) (fun r hr => by injection hr with hr; omega), (hg.block g t.bx.lt (fun e => by injection e with e; omega)).trans t.bx, (hg.block (g + 1) t.h.lt (fun e => by injection e with e; omega)).trans t.h, (hg.block (g + 1 + 1) t.f.lt (fun e => by injection e with e; omega)).trans t.f, t.hl, t.fl⟩
theorem row_setK {w : World} {base n size b i : Nat} {e : TypeId} {v u : Value} {xs : List Value} (h : w.ownsRow base e size v n xs) (hne : v.ownBlock ≠ some b) : (w.setCell ⟨b, i, none⟩ u).ownsRow base e size v n xs := by
  obtain ⟨h1, h2⟩ := h
  refine ⟨h1, ?_⟩
  rcases h2 with h2 | ⟨g', cap, cur, hv, hb, hw, h4⟩
  · exact .inl h2
  · have : g' ≠ b := fun e => hne (by rw [hv, e]; rfl)
    exact .inr ⟨g', cap, cur, hv, hb, (Below.heap_setCell _ _ _ _ this).trans hw, h4⟩
/-- The cells of a queue. -/
def qv (Q : List Nat) : List Value := Q.map fun x => Value.int .i64 ((x : Nat) : Int)
theorem qv_at {Q : List Nat} {a : Nat} (h : a < Q.length) : (qv Q)[a]? = some (.int .i64 ((qAt Q a : Nat) : Int)) := by unfold qv qAt; simp [List.getElem?_eq_getElem h]
theorem qv_snoc (Q : List Nat) (x : Nat) : qv (Q ++ [x]) = qv Q ++ [.int .i64 ((x : Nat) : Int)] := by simp [qv]
set_option maxRecDepth 100000 in
set_option maxHeartbeats 4000000 in
theorem rTree_any (A : Option Addr) (c : Nat) (L : List Gn) (s : Int) (w : World) (D : Nat) (hD : D ≤ w.heap.size) (hx : RdG w D A L) (hh : holdsB (pns L) s = true) (hs : ∀ x ∈ pns L, x.2.2.length ≤ 20000) :
    Calls Try.prog 45 #[.agg #[.slice A L.length c, .int .i64 s]] w fun e w' => ∃ g1 g2 F, e = .returned (.tuple #[.slice (some ⟨g1, 0, none⟩) L.length L.length, .slice (some ⟨g2, 0, none⟩) L.length L.length]) ∧ w.heap.size ≤ g1 ∧ w.heap.size ≤ g2 ∧ g1 ≠ g2 ∧ Whole w' g1 3 (cellsI (hopsL (pns L) s)) ∧ Whole w' g2 3 (cellsI F) ∧ F.length = L.length ∧ Below w.heap.size w w' := by
  have HH := holdsB_yes hh
  have hL : L.length ≤ 2048 := by have := HH.1; rwa [pns_len] at this
  have W0 := Whole.new w 24 #[.slice A L.length c, .int .i64 s]
  have B0 : Below w.heap.size w (w.alloc (.cells #[.slice A L.length c, .int .i64 s] 24)) := below_one (Below.refl _ _) _
  have HXW := Lib.hid hx
  have HSM := Lib.hid hs
  have HL := Lib.hid (pns_len L)
  have HHS := Lib.hid HH
  have p0 := W0.cell 0
  have p1 := W0.cell 1
  have HB0 := Lib.hid B0
  have HW0 := Lib.hid W0
  have hmk : ∀ W : World, (Instr.makeSlice 35 (.int .i64 (L.length : Int)) (.int .i64 (L.length : Int))).run Try.prog W = .ok (.slice (some ⟨W.heap.size, 0, none⟩) L.length L.length) (W.alloc (.cells (cellsI (List.replicate L.length 0)) 3)) := fun W => by
    have := run_make_row' (P := Try.prog) 35 3 (.int .i64 0) 8 Try.underlying35 Try.info3 (by rfl) .i64 .i64 L.length (by omega) (by omega) W
    rw [cellsI_made] at this
    exact this
  clear W0 B0 hx hh HH hs
  obtain ⟨i0, hi, hz0, hz1, hz2⟩ := info_parts Try.info3
  go_enter Try.func45, Try.ntmps45
  go_wp2
  have st0 : TrSt w w.heap.size L.length #[.slice A L.length c, .int .i64 s] (fillK L.length 0) (fillK L.length 0) (((w.alloc (.cells #[.slice A L.length c, .int .i64 s] 24)).alloc (.cells (cellsI (List.replicate L.length 0)) 3)).alloc (.cells (cellsI (List.replicate L.length 0)) 3)) := by
    have e0 : fillK L.length 0 = List.replicate L.length 0 := by simp [fillK]
    rw [e0]
    refine ⟨below_one (below_one (below_one (Below.refl _ _) _) _) _, ((Whole.new w 24 _).alloc _).alloc _, ?_, ?_, by simp, by simp⟩
    · have := (Whole.new (w.alloc (.cells #[.slice A L.length c, .int .i64 s] 24)) 3 (cellsI (List.replicate L.length 0))).alloc (.cells (cellsI (List.replicate L.length 0)) 3)
      rw [World.size_alloc] at this
      exact this
    · have := Whole.new ((w.alloc (.cells #[.slice A L.length c, .int .i64 s] 24)).alloc (.cells (cellsI (List.replicate L.length 0)) 3)) 3 (cellsI (List.replicate L.length 0))
      rw [World.size_alloc, World.size_alloc] at this
      exact this
  obtain ⟨w1, ew1⟩ : ∃ w1, ((w.alloc (.cells #[.slice A L.length c, .int .i64 s] 24)).alloc (.cells (cellsI (List.replicate L.length 0)) 3)).alloc (.cells (cellsI (List.replicate L.length 0)) 3) = w1 := ⟨_, rfl⟩
  rw [ew1] at st0 ⊢
  obtain ⟨g, eg⟩ : ∃ g, w.heap.size = g := ⟨_, rfl⟩
  rw [eg] at st0 ⊢
  have HG := Lib.hid eg
  clear ew1 eg hmk p0 p1 HB0 HW0
  obtain ⟨box, ebox⟩ : ∃ box : Array Value, #[Value.slice A L.length c, .int .i64 s] = box := ⟨_, rfl⟩
  rw [ebox] at st0
  have HBOX := Lib.hid ebox
  clear ebox
  go_loopw [7] (fun i wr => ∃ k : Nat, k ≤ L.length ∧ i = .int .i64 k ∧ Hid (TrSt w g L.length box (fillK L.length k) (fillK L.length k) wr)) (fun i _ => L.length - (intOf i).toNat)
  case atStart => exact ⟨0, by omega, rfl, st0⟩
  case round =>
    clear st0
    obtain ⟨k, hk, rfl, HS⟩ := hrel
    by_cases hlt : k < L.length
    · have e1 : decide ((k : Int) < (L.length : Int)) = true := decide_eq_true (by omega)
      have x1 : (0 : Int) ≤ (k : Int) := by omega
      have x2 : (k : Int) < (L.length : Int) := by omega
      have c1 : wr.cell? ⟨g + 1, k, none⟩ = some (.int .i64 (hAt (fillK L.length k) k)) := (HS.out.h.cell k).trans (cellsI_at (by rw [fillK_len hk]; exact hlt))
      have f1 := HS.out.h.frozen k
      have n1 := HS.out.setH k (-1)
      have c2 : (wr.setCell ⟨g + 1, k, none⟩ (.int .i64 (-1))).cell? ⟨g + 1 + 1, k, none⟩ = some (.int .i64 (hAt (fillK L.length k) k)) := (n1.f.cell k).trans (cellsI_at (by rw [fillK_len hk]; exact hlt))
      have f2 := n1.f.frozen k
      have n2 := n1.setF k (-1)
      rw [fillK_set hlt] at n2
      have HN := Lib.hid n2
      clear n1 n2
      go_wp2
      exact ⟨⟨k + 1, by omega, by go_num, HN⟩, by simp [intOf]; omega⟩
    · obtain rfl : k = L.length := by omega
      have e1 : decide ((L.length : Int) < (L.length : Int)) = false := decide_eq_false (by omega)
      have ef : fillK L.length L.length = List.replicate L.length (-1) := by simp [fillK]
      rw [ef] at HS
      clear ef
      by_cases h0 : L.length = 0
      · have e2 : ((L.length : Int) == 0) = true := beq_iff_eq.2 (by omega)
        have HE := Lib.hid (show List.replicate L.length (-1 : Int) = hopsL (pns L) s by
          have : (hopsL (pns L) s).length = 0 := by rw [hopsL_len, HL.out]; exact h0
          rw [List.length_eq_zero_iff.1 this, h0]; rfl)
        clear h0
        go_wp2
        go_ret2
        rw [HG.out]
        exact ⟨g + 1, g + 1 + 1, _, rfl, by omega, by omega, by omega, by rw [← HE.out]; exact HS.out.h, HS.out.f, HS.out.fl, HS.out.bel⟩
      · have e2 : ((L.length : Int) == 0) = false := by rw [beq_eq_false_iff_ne]; omega
        have hst := HHS.out.start (by rw [HL.out]; omega)
        rw [HL.out] at hst
        obtain ⟨sN, rfl⟩ := Int.eq_ofNat_of_zero_le hst.1
        have hsN : sN < L.length := by omega
        have b0 : wr.cell? ⟨g, 0, none⟩ = some (.slice A L.length c) := (HS.out.bx.cell 0).trans (by rw [← HBOX.out]; rfl)
        have b1 : wr.cell? ⟨g, 1, none⟩ = some (.int .i64 (sN : Int)) := (HS.out.bx.cell 1).trans (by rw [← HBOX.out]; rfl)
        have c1 : wr.cell? ⟨g + 1, sN, none⟩ = some (.int .i64 (hAt (List.replicate L.length (-1)) sN)) := (HS.out.h.cell sN).trans (cellsI_at (by simpa using hsN))
        have f1 := HS.out.h.frozen sN
        have n1 := HS.out.setH sN 0
        have HB : Hid (Bfs (pns L) sN ((List.replicate L.length (-1)).set sN 0) [sN] 0 0) := Lib.hid (by
          have := Bfs.begin_ (G := pns L) (s := sN) (by rw [HL.out]; exact hsN)
          rw [HL.out] at this
          exact this)
        have x1 : (0 : Int) ≤ (sN : Int) := by omega
        have x2 : (sN : Int) < (L.length : Int) := by omega
        have b1' : (wr.setCell ⟨g + 1, sN, none⟩ (.int .i64 0)).cell? ⟨g, 1, none⟩ = some (.int .i64 (sN : Int)) := (n1.bx.cell 1).trans (by rw [← HBOX.out]; rfl)
        have HN := Lib.hid n1
        clear n1 hst h0
        go_wp2
        obtain ⟨B2, eB2⟩ : ∃ B2, wr.heap.size = B2 := ⟨_, rfl⟩
        have hB2 : g + 1 + 1 < B2 := by rw [← eB2]; exact HS.out.f.lt
        have hsz : (wr.setCell ⟨g + 1, sN, none⟩ (.int .i64 0)).heap.size = B2 := by simp [eB2]
        have own0 : ((wr.setCell ⟨g + 1, sN, none⟩ (.int .i64 0)).alloc (.cells #[.int .i64 (sN : Int)] 3)).ownsRow B2 3 1 (.slice (some ⟨B2, 0, none⟩) 1 1) 1 (qv [sN]) := by
          have := World.ownsRow_lit (base := B2) (e := 3) (size := 1) (wr.setCell ⟨g + 1, sN, none⟩ (.int .i64 0)) #[.int .i64 (sN : Int)] 1 (by omega) (by decide) rfl
          rw [hsz] at this
          exact this
        have st2 := HN.out.below (below_one (Below.refl _ _) (.cells #[.int .i64 (sN : Int)] 3))
        rw [eB2]
        obtain ⟨w2, ew2⟩ : ∃ w2, (wr.setCell ⟨g + 1, sN, none⟩ (.int .i64 0)).alloc (.cells #[.int .i64 (sN : Int)] 3) = w2 := ⟨_, rfl⟩
        rw [ew2] at own0 st2 ⊢
        have HO0 := Lib.hid own0
        have HS2 := Lib.hid st2
        clear ew2 own0 st2 hsz eB2 HN HS b0 b1 b1' c1 f1 e2 e1
        go_loopw [8, 9] (fun l a wz => ∃ (at_ : Nat) (H F : List Int) (Q : List Nat) (qa qc : Nat), a = .int .i64 at_ ∧ l = .slice (some ⟨qa, 0, none⟩) Q.length qc ∧ Hid (Bfs (pns L) sN H Q at_ 0) ∧ Hid (TrSt w g L.length box H F wz) ∧ Hid (wz.ownsRow B2 3 1 (.slice (some ⟨qa, 0, none⟩) Q.length qc) Q.length (qv Q))) (fun _ a _ => L.length - (intOf a).toNat)
        case atStart => exact ⟨0, _, _, [sN], B2, 1, rfl, rfl, HB, HS2, HO0⟩
        case round =>
          clear HB HS2 HO0
          obtain ⟨at_, H, F, Q, qa, qc, rfl, rfl, HB, HS, HO⟩ := hrel
          have hql : Q.length ≤ L.length := by have := HB.out.qlen; rwa [HL.out] at this
          have hal : at_ ≤ Q.length := HB.out.al
          by_cases hat : at_ < Q.length
          · have e1 : decide ((at_ : Int) < (Q.length : Int)) = true := decide_eq_true (by omega)
            have cq := (HO.out.cellAt at_ (by omega)).trans (qv_at hat)
            obtain ⟨cN, ecN⟩ : ∃ cN, qAt Q at_ = cN := ⟨_, rfl⟩
            have hcN : cN < L.length := by rw [← ecN, ← HL.out]; exact HB.out.ql _ (qAt_mem hat)
            rw [ecN] at cq
            have HC := Lib.hid ecN
            have b0 : wr.cell? ⟨g, 0, none⟩ = some (.slice A L.length c) := (HS.out.bx.cell 0).trans (by rw [← HBOX.out]; rfl)
            obtain ⟨b, off, id', a1, c1, v, a2, c2, o, rfl, hBb, h1, h2, h3, hr1, hr2, hv⟩ := HXW.out.at_ hcN
            have bW : Below D w wr := HS.out.bel.mono (by rw [← HG.out]; exact hD)
            have h3' : wr.cell? ⟨b, off + cN * 3 + 2, none⟩ = some (.slice a2 o.length c2) := (bW.cell (p := ⟨b, off + cN * 3 + 2, none⟩) hBb).trans h3
            have EO := Lib.hid (show outAt (pns L) cN = o by unfold outAt; rw [nAt_get (pns_at hv.out)])
            have HR := Lib.hid hr2
            have hol : o.length ≤ 20000 := HSM.out _ (List.mem_of_getElem? (pns_at hv.out))
            have x1 : (0 : Int) ≤ (at_ : Int) := by omega
            have x2 : (at_ : Int) < (Q.length : Int) := by omega
            have x3 : (0 : Int) ≤ (cN : Int) := by omega
            have x4 : (cN : Int) < (L.length : Int) := by omega
            clear ecN hv hr1 hr2 h1 h2 h3 bW
            go_wp2
            go_quiet (fail)
            have HSd := Lib.hid (fun q => HS.out.below (below_drewN (Below.refl _ wr) q))
            have HOd := Lib.hid (fun q => own_below HO.out (below_drewN (Below.refl _ wr) q))
            have C0 : Hid (qAt Q at_ = cN ∧ at_ < Q.length) := Lib.hid ⟨HC.out, hat⟩
            go_wp2
            go_loopw [8, 11] (fun l a wz => ∃ (k : Nat) (H F : List Int) (Q : List Nat) (qa qc : Nat), k ≤ o.length ∧ a = .int .i64 k ∧ l = .slice (some ⟨qa, 0, none⟩) Q.length qc ∧ Hid (qAt Q at_ = cN ∧ at_ < Q.length) ∧ Hid (Bfs (pns L) sN H Q at_ k) ∧ Hid (TrSt w g L.length box H F wz) ∧ Hid (wz.ownsRow B2 3 1 (.slice (some ⟨qa, 0, none⟩) Q.length qc) Q.length (qv Q))) (fun _ a _ => o.length - (intOf a).toNat)
            case atStart => exact ⟨0, H, F, Q, qa, qc, by omega, rfl, rfl, C0, HB, HSd.out _, HOd.out _⟩
            case round =>
              clear HSd HOd C0 HB HS HO HC b0 cq h3' hat hal hql x1 x2
              obtain ⟨k, H, F, Q, qa, qc, hk, rfl, rfl, HC, HB, HS, HO⟩ := hrel
              have hql : Q.length ≤ L.length := by have := HB.out.qlen; rwa [HL.out] at this
              by_cases hlt : k < o.length
              · have g1 : decide ((k : Int) < (o.length : Int)) = true := decide_eq_true (by omega)
                obtain ⟨bo, oo, t, rfl, hBo, hco, hvo⟩ := HR.out.at_ hlt
                have et : (outAt (pns L) (qAt Q at_))[k]? = some t := by rw [HC.out.1, EO.out, ← hvo.out, List.getElem?_eq_getElem hlt]; rfl
                have htr := HHS.out.out (i := qAt Q at_) (by rw [HC.out.1, HL.out]; exact hcN) (List.mem_of_getElem? et)
                rw [HL.out] at htr
                obtain ⟨tN, rfl⟩ := Int.eq_ofNat_of_zero_le htr.1
                have htN : tN < L.length := by omega
                have bW : Below D w wr := HS.out.bel.mono (by rw [← HG.out]; exact hD)
                have co' : wr.cell? ⟨bo, oo + k, none⟩ = some (.int .i64 (tN : Int)) := (bW.cell (p := ⟨bo, oo + k, none⟩) hBo).trans hco
                have ch : wr.cell? ⟨g + 1, tN, none⟩ = some (.int .i64 (hAt H tN)) := (HS.out.h.cell tN).trans (cellsI_at (by rw [HS.out.hl]; exact htN))
                have y1 : (0 : Int) ≤ (k : Int) := by omega
                have y2 : (k : Int) < (o.length : Int) := by omega
                have y3 : (0 : Int) ≤ (tN : Int) := by omega
                have y4 : (tN : Int) < (L.length : Int) := by omega
                have ET := Lib.hid et
                have HT1 : Hid ((0 : Int) ≤ (tN : Int) ∧ (tN : Int) < ((pns L).length : Int)) := Lib.hid ⟨y3, by rw [HL.out]; exact y4⟩
                clear hvo hco bW et
                by_cases hneg : hAt H tN < 0
                · have q1 : decide (hAt H tN < 0) = true := decide_eq_true hneg
                  obtain ⟨hT, ehT⟩ : ∃ hT, hAt H tN = hT := ⟨_, rfl⟩
                  have HN := Lib.hid ehT
                  rw [ehT] at ch q1
                  clear ehT
                  have hat := HC.out.2
                  have hcb := HB.out.bd _ (qAt_mem hat)
                  rw [HC.out.1] at hcb
                  have hcs := HB.out.snd _ (qAt_mem hat)
                  rw [HC.out.1] at hcs
                  obtain ⟨dC, hdC, -⟩ := hcs
                  obtain ⟨hC, ehC⟩ : ∃ hC, hAt H cN = hC := ⟨_, rfl⟩
                  have hc0 : 0 ≤ hC := by rw [← ehC, hdC]; omega
                  rw [ehC] at hcb
                  have wk : IntKind.i64.wrap (hC + 1) = hC + 1 := by rw [IntKind.wrap_i64]; omega
                  have hne : tN ≠ cN := fun e => by rw [e] at hneg; rw [ehC] at hneg; omega
                  have hne' : cN ≠ tN := fun e => hne e.symm
                  have cl : wr.cell? ⟨qa, at_, none⟩ = some (.int .i64 (cN : Int)) := (HO.out.cellAt at_ (by omega)).trans (by rw [qv_at hat, HC.out.1])
                  have cc : wr.cell? ⟨g + 1, cN, none⟩ = some (.int .i64 hC) := (HS.out.h.cell cN).trans (by rw [cellsI_at (by rw [HS.out.hl]; exact hcN), ehC])
                  have hqa : B2 ≤ qa := (HO.out.lt qa rfl).1
                  have hbo : bo < g := by have := hBo; rw [← HG.out]; omega
                  have fh := HS.out.h.frozen tN
                  have x1 : (0 : Int) ≤ (at_ : Int) := by omega
                  have x2 : (at_ : Int) < (Q.length : Int) := by omega
                  have HB2 := Lib.hid (HB.out.new hat ET.out HT1.out (by rw [Int.toNat_natCast, HN.out]; rw [HN.out] at hneg; exact hneg))
                  rw [HC.out.1, Int.toNat_natCast, ehC] at HB2
                  have nS := (HS.out.setH tN (hC + 1)).below (Below.refl _ _).drew
                  have HK : Hid (∀ (W : World) (v : Value), W.cell? ⟨bo, oo + k, none⟩ = some (.int .i64 (tN : Int)) → W.cell? ⟨qa, at_, none⟩ = some (.int .i64 (cN : Int)) → W.cell? ⟨g + 1, cN, none⟩ = some (.int .i64 hC) → ((W.setCell ⟨g + 1, tN, none⟩ v).cell? ⟨bo, oo + k, none⟩ = some (.int .i64 (tN : Int)) ∧ (W.setCell ⟨g + 1, tN, none⟩ v).cell? ⟨qa, at_, none⟩ = some (.int .i64 (cN : Int)) ∧ (W.setCell ⟨g + 1, tN, none⟩ v).cell? ⟨g + 1, cN, none⟩ = some (.int .i64 hC))) := Lib.hid (fun W v z1 z2 z3 => by
                    refine ⟨?_, ?_, ?_⟩
                    · rw [World.cell?_setCell_other _ _ _ _ (fun e => by injection e with e1 e2; omega)]; exact z1
                    · rw [World.cell?_setCell_other _ _ _ _ (fun e => by injection e with e1 e2; omega)]; exact z2
                    · rw [World.cell?_setCell_other _ _ _ _ (fun e => by injection e with e1 e2; omega)]; exact z3)
                  have d1 : wr.drew.cell? ⟨bo, oo + k, none⟩ = some (.int .i64 (tN : Int)) := co'
                  have d2 : wr.drew.cell? ⟨qa, at_, none⟩ = some (.int .i64 (cN : Int)) := cl
                  have d3 : wr.drew.cell? ⟨g + 1, cN, none⟩ = some (.int .i64 hC) := cc
                  have d4 : wr.drew.cell? ⟨g + 1, tN, none⟩ = some (.int .i64 hT) := ch
                  have d5 : wr.drew.frozen? ⟨g + 1, tN, none⟩ = false := fh
                  have HNS := Lib.hid nS
                  have HO2 := Lib.hid (own_below (row_setK (i := tN) (u := .int .i64 (hC + 1)) (b := g + 1) HO.out (by intro e; have e2 : qa = g + 1 := (by simpa [Value.ownBlock] using e); omega)) (Below.refl _ _).drew)
                  clear nS hdC ehC hcb HB HS HO hneg
                  go_wp2
                  clear co' cl cc ch fh
                  go_region_held3 (fun w' => w'.cell? ⟨bo, oo + k, none⟩ = some (.int .i64 (tN : Int)) ∧ w'.cell? ⟨qa, at_, none⟩ = some (.int .i64 (cN : Int)) ∧ w'.cell? ⟨g + 1, cN, none⟩ = some (.int .i64 hC))
                    (first | exact ⟨by with_reducible assumption, by with_reducible assumption, by with_reducible assumption⟩ | exact HK.out wr _ d1 d2 d3)
                    (first | fail)
                  all_goals
                    obtain ⟨wA, ewA⟩ : ∃ wA, (wr.setCell ⟨g + 1, tN, none⟩ (.int .i64 (hC + 1))).drew = wA := ⟨_, rfl⟩
                    have k3 := HK.out wr (.int .i64 (hC + 1)) d1 d2 d3
                    have r1 : wA.cell? ⟨bo, oo + k, none⟩ = some (.int .i64 (tN : Int)) := by rw [← ewA]; exact k3.1
                    have r2 : wA.cell? ⟨qa, at_, none⟩ = some (.int .i64 (cN : Int)) := by rw [← ewA]; exact k3.2.1
                    rw [ewA] at HNS HO2 ⊢
                    clear ewA k3 HK d1 d2 d3 d4 d5
                    have r4 : wA.cell? ⟨g + 1 + 1, tN, none⟩ = some (.int .i64 (hAt F tN)) := (HNS.out.f.cell tN).trans (cellsI_at (by rw [HNS.out.fl]; exact htN))
                    obtain ⟨fT, efT⟩ : ∃ fT, hAt F tN = fT := ⟨_, rfl⟩
                    rw [efT] at r4
                    clear efT
                    have HK : Hid (∀ (v : Value), ((wA.setCell ⟨g + 1 + 1, tN, none⟩ v).cell? ⟨bo, oo + k, none⟩ = some (.int .i64 (tN : Int)) ∧ (wA.setCell ⟨g + 1 + 1, tN, none⟩ v).cell? ⟨qa, at_, none⟩ = some (.int .i64 (cN : Int)))) := Lib.hid (fun v => by
                      refine ⟨?_, ?_⟩
                      · rw [World.cell?_setCell_other _ _ _ _ (fun e => by injection e with e1 e2; omega)]; exact r1
                      · rw [World.cell?_setCell_other _ _ _ _ (fun e => by injection e with e1 e2; omega)]; exact r2)
                    have HNS2 := Lib.hid ((HNS.out.setF tN (cN : Int)).below (Below.refl _ _).drew)
                    have HO3 := Lib.hid (own_below (row_setK (i := tN) (u := .int .i64 (cN : Int)) (b := g + 1 + 1) HO2.out (by intro e; have e2 : qa = g + 1 + 1 := (by simpa [Value.ownBlock] using e); omega)) (Below.refl _ _).drew)
                    have s1 : wA.drew.cell? ⟨bo, oo + k, none⟩ = some (.int .i64 (tN : Int)) := r1
                    have s2 : wA.drew.cell? ⟨qa, at_, none⟩ = some (.int .i64 (cN : Int)) := r2
                    have s4 : wA.drew.cell? ⟨g + 1 + 1, tN, none⟩ = some (.int .i64 fT) := r4
                    have s5 : wA.drew.frozen? ⟨g + 1 + 1, tN, none⟩ = false := HNS.out.f.frozen tN
                    go_wp2
                    go_region_held3 (fun w' => w'.cell? ⟨bo, oo + k, none⟩ = some (.int .i64 (tN : Int)) ∧ w'.cell? ⟨qa, at_, none⟩ = some (.int .i64 (cN : Int)))
                      (first | exact ⟨by with_reducible assumption, by with_reducible assumption⟩ | exact HK.out _)
                      (first | fail)
                    all_goals
                      obtain ⟨wB, ewB⟩ : ∃ wB, (wA.setCell ⟨g + 1 + 1, tN, none⟩ (.int .i64 (cN : Int))).drew = wB := ⟨_, rfl⟩
                      have t1 : wB.cell? ⟨bo, oo + k, none⟩ = some (.int .i64 (tN : Int)) := by rw [← ewB]; exact (HK.out _).1
                      rw [ewB] at HNS2 HO3 ⊢
                      clear ewB HK s1 s2 s4 s5 r1 r2 r4 HNS HO2
                      have hBw : B2 ≤ wB.heap.size := by have := (HO3.out.lt qa rfl).2; omega
                      go_wp2_with (at_builtin; refine wpList_append_own_at _ rfl _ _ 35 rfl B2 3 i0 (.int .i64 0) 1 8 Try.underlying35 hi hz0 hz1 hz2 rfl (by decide) _ _ _ rfl (HO3.out.alloc _) ⟨wB.heap.size, 0, none⟩ 1 1 [.int .i64 (tN : Int)] rfl rfl (cell_one_new _ _ _) (by simp [Value.oneCell']) (by show Q.length + 1 ≤ 9223372036854775807; omega) (by omega) (by rw [World.size_alloc]; omega) ?_; intro v' wC hown' hgrow hnil hloc
                                   obtain ⟨va, vm, vc, rfl⟩ := own_form hown'
                                   obtain rfl := own_len hown'
                                   obtain ⟨qa2, rfl, -⟩ := own_some hown' (by omega)
                                   rw [← qv_snoc] at hown'
                                   have HO4 := Lib.hid hown'
                                   have HNS4 := Lib.hid ((HNS2.out.below (below_one (Below.refl _ _) (.cells #[.int .i64 (tN : Int)] 3))).grown (qa := qa) hgrow (by omega))
                                   clear hown' hgrow hnil hloc)
                      have hq1 : Q.length + 1 = (Q ++ [tN]).length := by simp
                      have HC2 : Hid (qAt (Q ++ [tN]) at_ = cN ∧ at_ < (Q ++ [tN]).length) := Lib.hid ⟨(qAt_app hat).trans HC.out.1, by omega⟩
                      go_roundw
                      case rel => exact ⟨k + 1, _, _, Q ++ [tN], qa2, vc, by omega, by go_num, by rw [hq1], HC2, HB2, HNS4, by rw [← hq1]; exact HO4⟩
                      case measure => simp [intOf]; omega
                · have q1 : decide (hAt H tN < 0) = false := decide_eq_false hneg
                  have HB2 := Lib.hid (HB.out.old HC.out.2 ET.out HT1.out (by rw [Int.toNat_natCast]; omega))
                  obtain ⟨hT, ehT⟩ : ∃ hT, hAt H tN = hT := ⟨_, rfl⟩
                  rw [ehT] at ch q1
                  clear ehT hneg
                  go_wp2
                  go_roundw
                  case rel => exact ⟨k + 1, H, F, Q, qa, qc, by omega, by go_num, rfl, HC, HB2, HS, HO⟩
                  case measure => simp [intOf]; omega
              · obtain rfl : k = o.length := by omega
                have g1 : decide ((o.length : Int) < (o.length : Int)) = false := decide_eq_false (by omega)
                have HB2 := Lib.hid (HB.out.next HC.out.2 (by rw [HC.out.1, EO.out]; exact Nat.le_refl _))
                have hal := HC.out.2
                go_wp2
                go_roundw
                case rel => exact ⟨at_ + 1, H, F, Q, qa, qc, by go_num, rfl, HB2, HS, HO⟩
                case measure => simp [intOf]; omega
          · obtain rfl : at_ = Q.length := by omega
            have e1 : decide ((Q.length : Int) < (Q.length : Int)) = false := decide_eq_false (by omega)
            have HE := Lib.hid (show H = hopsL (pns L) (sN : Int) from HB.out.hops)
            go_wp2
            go_ret2
            rw [HG.out]
            exact ⟨g + 1, g + 1 + 1, F, rfl, by omega, by omega, by omega, by rw [← HE.out]; exact HS.out.h, HS.out.f, HS.out.fl, HS.out.bel⟩
end Go.Proofs.Ytjihnkoimbcfnaa
