/- The document's search of some width, and its answers. -/
import Derived.Test.YtkmngbkghgelfaaGreatZe
import Derived.Test.YtkmngbkghgelfaaGreatFl
import Derived.Test.YtkmngbkghgelfaaGreatKr
import Derived.Deep.QuietTactic
import Derived.Deep.AppendLies
import Derived.BigQuiet
import Derived.Deep.Cut
import Derived.Deep.RegionHeld3
namespace Go.Proofs.YtkmngbkghgelfaaGreat
open Go.Shelf Go.RowKit Go.Lib
open Go.Sort hiding Below
set_option linter.unusedVariables false
set_option linter.unusedSimpArgs false
theorem Tryz.info4z : (Tryz.prog.info? 4).map (fun i => (i.zero, i.size, i.bytes)) = some (some (.bool false), 1, 1) := by kernel_rfl
theorem own_wholeZ {w : World} {base n size g : Nat} {e : TypeId} {v : Value} {xs : List Value} (h : w.ownsRow base e size v n xs) (hg : v.ownBlock = some g) : ∃ cs, Whole w g e cs := by
  rcases h.2 with ⟨rfl, _⟩ | ⟨g', cap, cur, rfl, _, hc, _⟩
  · simp [Value.ownBlock] at hg
  · obtain rfl : g' = g := by simpa [Value.ownBlock] using hg
    exact ⟨cur, hc⟩
theorem own_neZ {w : World} {base base' n n' size size' : Nat} {e e' : TypeId} {v v' : Value} {xs xs' : List Value} (h : w.ownsRow base e size v n xs) (h' : w.ownsRow base' e' size' v' n' xs') (he : e ≠ e') : v.ownBlock = none ∨ v.ownBlock ≠ v'.ownBlock := by
  cases hv : v.ownBlock with
  | none => exact .inl rfl
  | some g =>
    refine .inr fun e2 => ?_
    obtain ⟨cs, hw⟩ := own_wholeZ h hv
    exact own_apart h' hw he e2.symm
theorem whole_grownZ {w w' : World} {g hi : Nat} {e : TypeId} {cs : Array Value} {o : Option Nat} (h : Whole w g e cs) (hg : w.grownBy w' o) (ho : ∀ k, o = some k → hi ≤ k) (hh : g < hi) : Whole w' g e cs :=
  (hg.block g h.lt (fun e => by have := ho g e.symm; omega)).trans h
theorem own_rdHz {w : World} {base n c : Nat} {e : TypeId} {A : Option Addr} {xs : HL} (h : w.ownsRow base e 2 (.slice A n c) n (flatH xs)) : RdH w w.heap.size A xs := by
  obtain ⟨A', c', hv, _, hr⟩ := own_sliceH h
  injection hv with q1 q2 q3
  subst q1
  exact hr
theorem own_capZ {w : World} {base c n sz : Nat} {e : TypeId} {A : Option Addr} {xs : List Value} (h : w.ownsRow base e sz (.slice A n c) n xs) : n ≤ c := by
  rcases h.2 with ⟨h0, h00⟩ | ⟨g', cap, cur, e5, h1', h2', h3', h4'⟩
  · injection h0 with _ q1 q2; omega
  · injection e5 with _ _ q2; omega
def lenV : Value → Nat
  | .slice _ n _ => n
  | _ => 0
/-- The first of those from place j on that was not looked at. -/
def nxI (t : Sr) (j : Nat) : Int := match (t.ps.drop j).find? (fun p => !decide (p ∈ t.od)) with
  | some p => (p : Int)
  | none => -1
theorem nxI_end {t : Sr} : nxI t t.ps.length = -1 := by unfold nxI; rw [List.drop_length]; rfl
theorem nxI_old {t : Sr} {j p : Nat} (h : t.ps[j]? = some p) (ho : p ∈ t.od) : nxI t j = nxI t (j + 1) := by
  obtain ⟨hj, e⟩ := List.getElem?_eq_some_iff.1 h
  unfold nxI
  rw [List.drop_eq_getElem_cons hj, e, List.find?_cons_of_neg (by simp [ho])]
theorem nxI_new {t : Sr} {j p : Nat} (h : t.ps[j]? = some p) (ho : p ∉ t.od) : nxI t j = (p : Int) := by
  obtain ⟨hj, e⟩ := List.getElem?_eq_some_iff.1 h
  unfold nxI
  rw [List.drop_eq_getElem_cons hj, e, List.find?_cons_of_pos (by simp [ho])]
theorem nxI_zero (t : Sr) : nxI t 0 = match nextP t with
  | some p => (p : Int)
  | none => -1 := rfl
theorem gone_nat (P : List Nat) (i : Nat) : goneAt (natS P) i = decide (i ∈ P) := by
  unfold goneAt natS
  refine decide_eq_decide.2 ⟨fun h => ?_, fun h => List.mem_map_of_mem h⟩
  obtain ⟨x, hx, e⟩ := List.mem_map.1 h
  obtain rfl : x = i := by omega
  exact hx
/-- The document's search under way. -/
structure ScI (w0 : World) (qc ql hi n : Nat) (G : List Pn) (v : List Int) (t : Sr) (X : Option Addr) (xc : Nat) (Y : Option Addr) (yc : Nat) (W : World) : Prop where
  bel : Below w0.heap.size w0 W
  hs : hi ≤ W.heap.size
  came : Whole W qc 4 (cellsB (goneL n (natS t.cm)))
  look : Whole W ql 4 (cellsB (goneL n (natS t.od)))
  list : W.ownsRow hi 78 2 (.slice X t.ps.length xc) t.ps.length (flatH (hlP G v t.ps))
  ord : W.ownsRow hi 3 1 (.slice Y t.od.length yc) t.od.length ((natS t.od).map (Value.int .i64))
theorem ScI.below {w0 W W' : World} {qc ql hi n xc yc : Nat} {G : List Pn} {v : List Int} {t : Sr} {X Y : Option Addr} (h : ScI w0 qc ql hi n G v t X xc Y yc W) (k : Below W.heap.size W W') : ScI w0 qc ql hi n G v t X xc Y yc W' :=
  ⟨h.bel.trans (k.mono h.bel.size), Nat.le_trans h.hs k.size, h.came.below k h.came.lt, h.look.below k h.look.lt, own_below h.list k, own_below h.ord k⟩
/-- The same without the list. -/
structure ScR (w0 : World) (qc ql n : Nat) (cm od : List Nat) (Y : Option Addr) (yc : Nat) (W : World) : Prop where
  bel : Below w0.heap.size w0 W
  hs : ql + 1 ≤ W.heap.size
  came : Whole W qc 4 (cellsB (goneL n (natS cm)))
  look : Whole W ql 4 (cellsB (goneL n (natS od)))
  ord : W.ownsRow (ql + 1) 3 1 (.slice Y od.length yc) od.length ((natS od).map (Value.int .i64))
theorem ScR.below {w0 W W' : World} {qc ql n yc : Nat} {cm od : List Nat} {Y : Option Addr} (h : ScR w0 qc ql n cm od Y yc W) (k : Below W.heap.size W W') : ScR w0 qc ql n cm od Y yc W' :=
  ⟨h.bel.trans (k.mono h.bel.size), Nat.le_trans h.hs k.size, h.came.below k h.came.lt, h.look.below k h.look.lt, own_below h.ord k⟩
theorem ScR.grown {w0 W W' : World} {qc ql n yc k xc : Nat} {cm od : List Nat} {Y X : Option Addr} {xs : List Value} (h : ScR w0 qc ql n cm od Y yc W) (hqc : w0.heap.size ≤ qc) (hq1 : qc < ql) (hl : W.ownsRow (ql + 1) 78 2 (.slice X k xc) k xs) (hg : W.grownBy W' (Value.slice X k xc).ownBlock) : ScR w0 qc ql n cm od Y yc W' := by
  have hr : ∀ r, (Value.slice X k xc).ownBlock = some r → ql + 1 ≤ r := fun r hr => (hl.lt r hr).1
  exact ⟨h.bel.grown hg h.bel.size (fun r h' => by have := hr r h'; omega), Nat.le_trans h.hs hg.size, whole_grownZ h.came hg hr (by omega), whole_grownZ h.look hg hr (by omega), h.ord.kept hg (own_neZ h.ord hl (by decide))⟩
theorem ScI.rest {w0 W : World} {qc ql n xc yc : Nat} {G : List Pn} {v : List Int} {t : Sr} {X Y : Option Addr} (h : ScI w0 qc ql (ql + 1) n G v t X xc Y yc W) : ScR w0 qc ql n t.cm t.od Y yc W := ⟨h.bel, h.hs, h.came, h.look, h.ord⟩
theorem ScR.with_ {w0 W : World} {qc ql n xc yc : Nat} {G : List Pn} {v : List Int} {t : Sr} {X Y : Option Addr} (h : ScR w0 qc ql n t.cm t.od Y yc W) (hl : W.ownsRow (ql + 1) 78 2 (.slice X t.ps.length xc) t.ps.length (flatH (hlP G v t.ps))) : ScI w0 qc ql (ql + 1) n G v t X xc Y yc W := ⟨h.bel, h.hs, h.came, h.look, hl, h.ord⟩
/-- What comes of one that comes, as the document has it. -/
theorem come_doc {G : List Pn} {s : Int} {v : List Int} {m : Nat} {t : Sr} {q : Nat} (ok : OkS G v m t) (hN : (G.map (·.1)).Nodup) (hm : 0 < m) (hq : q < G.length) (hc : q ∉ t.cm) :
    (comeP G v m t q).cm = t.cm ++ [q] ∧ (comeP G v m t q).od = t.od ∧ hlP G v (comeP G v m t q).ps = (srt (hlP G v t.ps ++ [hitP G v q])).take m ∧ (comeP G v m t q).ps.length = min m (t.ps.length + 1) := by
  have hnew := ok.new (s := s) hN hq hc
  have e : comeP G v m t q = ⟨pushP G v m t.ps q, t.cm ++ [q], t.od⟩ := by unfold comeP; rw [if_neg hc]
  have h1 := pushP_srt hnew ok.up ok.le hm
  rw [e]
  refine ⟨rfl, rfl, h1, ?_⟩
  have := congrArg List.length h1
  rw [hlP_len, List.length_take, srt_len, List.length_append, hlP_len] at this
  simpa using this
theorem come_old {G : List Pn} {v : List Int} {m : Nat} {t : Sr} {q : Nat} (hc : q ∈ t.cm) : comeP G v m t q = t := by unfold comeP; rw [if_pos hc]
set_option maxRecDepth 100000 in
set_option maxHeartbeats 8000000 in
theorem refSearch_any (A : Option Addr) (c : Nat) (L : List Gn) (s : Int) (B : Option Addr) (q : Nat) (v : List Int) (m : Nat) (w : World) (hx : GArg w A L) (hv : Rd .i8 w w.heap.size B v) (bv : ∀ n ∈ v, -128 ≤ n ∧ n ≤ 127) (hM : MaySearch (pns L) s v) (hm1 : 1 ≤ m) (hm2 : m ≤ 256) :
    Calls Tryz.prog 71 #[.agg #[.slice A L.length c, .int .i64 s], .slice B v.length q, .int .i64 (m : Int)] w fun e w' => ∃ A1 c1 A2 c2, e = .returned (.tuple #[.slice A1 (finP (pns L) v m s.toNat).ps.length c1, .slice A2 (finP (pns L) v m s.toNat).od.length c2]) ∧ RdH w' w'.heap.size A1 (hlP (pns L) v (finP (pns L) v m s.toNat).ps) ∧ Rd .i64 w' w'.heap.size A2 (natS (finP (pns L) v m s.toNat).od) ∧ Below w.heap.size w w' ∧ (finP (pns L) v m s.toNat).ps.length ≤ c1 := by
  have HX := Lib.hid hx
  have HVV := Lib.hid hv
  have HBV := Lib.hid bv
  have HMS := Lib.hid hM
  have hl : L.length ≤ 2048 := by have := hM.ho.1; rwa [pns_len] at this
  have HPL := Lib.hid (pns_len L)
  have HW0 := Lib.hid (Whole.new w 24 #[.slice A L.length c, .int .i64 s])
  have HB0 := Lib.hid (below_one (Below.refl w.heap.size w) (.cells #[.slice A L.length c, .int .i64 s] 24))
  obtain ⟨w0, ew0⟩ : ∃ w0, w.alloc (.cells #[.slice A L.length c, .int .i64 s] 24) = w0 := ⟨_, rfl⟩
  obtain ⟨g, eg⟩ : ∃ g, w.heap.size = g := ⟨_, rfl⟩
  rw [ew0] at HW0 HB0
  rw [eg] at HW0
  have HCL : Hid (∀ W, Below w0.heap.size w0 W → W.cell? ⟨g, 0, none⟩ = some (.slice A L.length c) ∧ W.cell? ⟨g, 1, none⟩ = some (.int .i64 s)) := Lib.hid (fun W h => by
    have z0 := HW0.out.below h HW0.out.lt
    exact ⟨z0.cell 0, z0.cell 1⟩)
  have HUP : Hid (∀ W, Below w0.heap.size w0 W → Below w.heap.size w W) := Lib.hid (fun W h => HB0.out.trans (h.mono HB0.out.size))
  have HGR : Hid (∀ W, Below w0.heap.size w0 W → RdG W W.heap.size A L) := Lib.hid (fun W h => (HX.out.below (HUP.out W h)).rd)
  have HVR : Hid (∀ W, Below w0.heap.size w0 W → Rd .i8 W W.heap.size B v) := Lib.hid (fun W h => (HVV.out.below (HUP.out W h)).more (HUP.out W h).size)
  obtain ⟨FP, eFP⟩ : ∃ FP, finP (pns L) v m s.toNat = FP := ⟨_, rfl⟩
  have HFP := Lib.hid eFP
  rw [eFP]
  have HM12 := Lib.hid (And.intro hm1 hm2)
  obtain ⟨y0, y1⟩ := HCL.out _ (Below.refl _ _)
  clear hx hv bv hM eFP
  go_enter Tryz.func71, Tryz.ntmps71
  go_upto_region 1 with fail
  try rw [ew0]
  try rw [eg]
  have HEG := Lib.hid eg
  clear ew0 eg
  by_cases h0 : L.length = 0
  · have e0 : ((L.length : Int) == 0) = true := by simp [h0]
    have e1 : FP = ⟨[], [], []⟩ := by rw [← HFP.out]; unfold finP; rw [if_pos (by rw [HPL.out]; exact h0)]
    have HEM : Hid (∃ A1 c1 A2 c2, Ending.returned (.tuple #[.slice none 0 0, .slice none 0 0]) = .returned (.tuple #[.slice A1 FP.ps.length c1, .slice A2 FP.od.length c2]) ∧ RdH w0 w0.heap.size A1 (hlP (pns L) v FP.ps) ∧ Rd .i64 w0 w0.heap.size A2 (natS FP.od) ∧ Below w.heap.size w w0 ∧ FP.ps.length ≤ c1) := Lib.hid (by
      rw [e1]
      exact ⟨none, 0, none, 0, rfl, fun h => absurd h (Nat.lt_irrefl _), fun h => absurd h (Nat.lt_irrefl _), HUP.out _ (Below.refl _ _), Nat.le_refl _⟩)
    clear h0 e1
    go_wp2
    go_ret2
    exact HEM.out
  have e0 : ((L.length : Int) == 0) = false := by rw [beq_eq_false_iff_ne]; omega
  have hst := HMS.out.ho.start (by rw [HPL.out]; omega)
  obtain ⟨sN, rfl⟩ := Int.eq_ofNat_of_zero_le hst.1
  have hsN : sN < L.length := by have := hst.2; rw [HPL.out] at this; omega
  have hsG : sN < (pns L).length := by rw [HPL.out]; exact hsN
  have HF0 : Hid (FP = runP (pns L) v m ((pns L).length - (⟨[sN], [sN], []⟩ : Sr).od.length) ⟨[sN], [sN], []⟩ ∧ OkS (pns L) v m ⟨[sN], [sN], []⟩) := Lib.hid (by
    have e1 := comeP_first (pns L) v m sN (by omega)
    have e2 := finP_pos (v := v) (m := m) (s := sN) (by rw [HPL.out]; omega : (pns L).length ≠ 0)
    rw [e1] at e2
    refine ⟨by rw [← HFP.out]; exact e2, ?_⟩
    rw [← e1]
    exact (OkS.nil (pns L) v m).come (s := (sN : Int)) HMS.out.nd (by omega) hsG)
  have hmk : ∀ W : World, (Instr.makeSlice 175 (.int .i64 (L.length : Int)) (.int .i64 (L.length : Int))).run Tryz.prog W = .ok (.slice (some ⟨W.heap.size, 0, none⟩) L.length L.length) (W.alloc (.cells (cellsB (List.replicate L.length false)) 4)) := fun W => by
    have := run_make_row' (P := Tryz.prog) 175 4 (.bool false) 1 Tryz.underlying175 Tryz.info4z (by rfl) .i64 .i64 L.length (by omega) (by omega) W
    rw [cellsB_made] at this
    exact this
  have HMK := Lib.hid hmk
  clear h0 hst hmk
  go_upto_region 4 with fail
  have hmk := HMK.out w0
  obtain ⟨w1, ew1⟩ : ∃ w1, w0.alloc (.cells (cellsB (List.replicate L.length false)) 4) = w1 := ⟨_, rfl⟩
  obtain ⟨qc, eqc⟩ : ∃ qc, w0.heap.size = qc := ⟨_, rfl⟩
  have C1 : Whole w1 qc 4 (cellsB (goneL L.length (natS []))) := by rw [show natS [] = ([] : List Int) from rfl, goneL_nil, ← ew1, ← eqc]; exact Whole.new w0 _ _
  have b1 : Below w0.heap.size w0 w1 := by rw [← ew1]; exact below_one (Below.refl _ _) _
  rw [ew1, eqc] at hmk
  have z1 : w1.heap.size = qc + 1 := by rw [← ew1, ← eqc]; simp
  go_upto_region 5 with fail
  clear hmk
  have hmk := HMK.out w1
  obtain ⟨w2, ew2⟩ : ∃ w2, w1.alloc (.cells (cellsB (List.replicate L.length false)) 4) = w2 := ⟨_, rfl⟩
  obtain ⟨ql, eql⟩ : ∃ ql, w1.heap.size = ql := ⟨_, rfl⟩
  have D2 : Whole w2 ql 4 (cellsB (goneL L.length (natS []))) := by rw [show natS [] = ([] : List Int) from rfl, goneL_nil, ← ew2, ← eql]; exact Whole.new w1 _ _
  have b12 : Below w1.heap.size w1 w2 := by rw [← ew2]; exact below_one (Below.refl _ _) _
  have C2 := C1.below b12 C1.lt
  rw [ew2, eql] at hmk
  have z2 : w2.heap.size = ql + 1 := by rw [← ew2, ← eql]; simp
  have hq1 : qc < ql := by rw [← eql, z1]; exact Nat.lt_succ_self _
  have b2 := b1.trans (b12.mono b1.size)
  have hqc : w0.heap.size ≤ qc := by rw [eqc]; exact Nat.le_refl _
  go_upto_region 6 with fail
  clear hmk
  have cs := C2.cell sN
  rw [cellsB_at (by rw [goneL_len]; exact hsN), goneL_at hsN, gone_nat] at cs
  have cf := C2.frozen sN
  have C3 := C2.set sN (.bool true)
  rw [cellsB_set, goneL_set hsN, show natS [] ++ [(sN : Int)] = natS [sN] from rfl] at C3
  have D3 : Whole (w2.setCell ⟨qc, sN, none⟩ (.bool true)) ql 4 (cellsB (goneL L.length (natS []))) := D2.far (a := ⟨qc, sN, none⟩) (by show ql ≠ qc; omega) _
  have b3 : Below w0.heap.size w0 (w2.setCell ⟨qc, sN, none⟩ (.bool true)) := b2.setCell (p := ⟨qc, sN, none⟩) hqc _
  have z3 : (w2.setCell ⟨qc, sN, none⟩ (.bool true)).heap.size = ql + 1 := by rw [World.size_setCell, z2]
  obtain ⟨w3, ew3⟩ : ∃ w3, w2.setCell ⟨qc, sN, none⟩ (.bool true) = w3 := ⟨_, rfl⟩
  have k2 := HCL.out _ b2
  obtain ⟨k20, k21⟩ := k2
  have x1 : (0 : Int) ≤ (sN : Int) := by omega
  have x2 : (sN : Int) < (L.length : Int) := by omega
  rw [ew3] at C3 D3 b3 z3
  go_upto_region 7 with fail
  try rw [ew3]
  clear y0 y1 cs cf k20 k21 C1 C2 D2 b1 b12 b2 z1 z2 ew1 ew2 ew3 eqc eql
  obtain ⟨y0, y1⟩ := HCL.out _ b3
  have CH := refHit_any A c L (sN : Int) sN B q v w3 (HGR.out _ b3) hsN (HVR.out _ b3) HBV.out HX.out.ok HMS.out.dim.2 (HMS.out.same _ (nAt_mem hsG))
  obtain ⟨h1, h2, hh⟩ : ∃ h1 h2, hitP (pns L) v sN = (h1, h2) := ⟨_, _, rfl⟩
  rw [hh] at CH
  have HCH := Lib.hid CH
  have HC3 := Lib.hid C3
  have HD3 := Lib.hid D3
  have HB3 := Lib.hid b3
  have HH1 : Hid (hlP (pns L) v [sN] = [(h1, h2)]) := Lib.hid (by unfold hlP; rw [List.map_cons, hh]; rfl)
  clear CH C3 D3 b3 hh HMK
  go_wp2_with fail
  refine HCH.out.mono ?_
  rintro e w4 ⟨rfl, b4⟩
  dsimp only
  go_upto_region 8 with fail
  obtain ⟨w5, ew5⟩ : ∃ w5, w4.alloc (.cells #[.int .u64 h1, .int .i64 h2] 78) = w5 := ⟨_, rfl⟩
  obtain ⟨lx, elx⟩ : ∃ lx, w4.heap.size = lx := ⟨_, rfl⟩
  have b5 : Below w3.heap.size w3 w5 := by rw [← ew5]; exact below_one b4 _
  have hlx : ql + 1 ≤ lx := by rw [← elx, ← z3]; exact b4.size
  have O5 : w5.ownsRow (ql + 1) 78 2 (.slice (some ⟨lx, 0, none⟩) 1 1) 1 (flatH (hlP (pns L) v [sN])) := by
    rw [HH1.out, ← ew5, ← elx]
    exact own_base (World.ownsRow_lit (base := w4.heap.size) (e := 78) (size := 2) w4 #[.int .u64 h1, .int .i64 h2] 1 (Nat.le_refl _) (by decide) rfl) (by rw [elx]; exact hlx)
  have HI0 : Hid (ScI w0 qc ql (ql + 1) L.length (pns L) v ⟨[sN], [sN], []⟩ (some ⟨lx, 0, none⟩) 1 none 0 w5) := Lib.hid ⟨HB3.out.trans (b5.mono HB3.out.size), by rw [← z3]; exact b5.size, HC3.out.below b5 HC3.out.lt, HD3.out.below b5 HD3.out.lt, O5, ⟨rfl, .inl ⟨rfl, rfl⟩⟩⟩
  rw [ew5, elx]
  clear y0 y1 b4 b5 O5 ew5 elx HCH HC3 HD3 HB3 hlx z3
  obtain ⟨i0, hi, hz0, hz1, hz2⟩ := info_parts Tryz.info3F
  obtain ⟨j0, hj, jz0, jz1, jz2⟩ := info_parts Tryz.info78h
  have hll : L.length ≤ 2048 := hl
  go_wp2
  go_loopw [11, 12] (fun l o wr => ∃ (t : Sr) (X : Option Addr) (xc : Nat) (Y : Option Addr) (yc : Nat), l = .slice X t.ps.length xc ∧ o = .slice Y t.od.length yc ∧ Hid (ScI w0 qc ql (ql + 1) L.length (pns L) v t X xc Y yc wr) ∧ Hid (FP = runP (pns L) v m ((pns L).length - t.od.length) t ∧ OkS (pns L) v m t)) (fun _ o _ => L.length - lenV o)
  case atStart => exact ⟨⟨[sN], [sN], []⟩, some ⟨lx, 0, none⟩, 1, none, 0, rfl, rfl, HI0, HF0⟩
  case round =>
    clear HI0 HF0
    obtain ⟨t, X, xc, Y, yc, rfl, rfl, HI, HF⟩ := hrel
    have hpsl : t.ps.length ≤ 256 := by have := HF.out.2.le; have := HM12.out.2; omega
    obtain ⟨PL, ePL⟩ : ∃ PL, t.ps.length = PL := ⟨_, rfl⟩
    obtain ⟨OL, eOL⟩ : ∃ OL, t.od.length = OL := ⟨_, rfl⟩
    have HPN := Lib.hid ePL
    have HON := Lib.hid eOL
    have HNE : Hid (nxI t PL = -1) := Lib.hid (by rw [← ePL]; exact nxI_end)
    rw [ePL] at hpsl ⊢
    rw [eOL]
    have epl : IntKind.i64.wrap ((PL : Int) - 1) = (PL : Int) - 1 := by rw [IntKind.wrap_i64]; omega
    clear ePL eOL
    go_wp2
    go_loopw [13, 14] (fun nx i wr2 => ∃ j : Nat, j ≤ PL ∧ i = .int .i64 ((j : Int) - 1) ∧ nx = .int .i64 (nxI t j) ∧ Hid (ScI w0 qc ql (ql + 1) L.length (pns L) v t X xc Y yc wr2)) (fun _ i _ => (intOf i + 1).toNat)
    case atStart => exact ⟨PL, by omega, by first | rfl | go_num, by rw [HNE.out], HI⟩
    case round =>
      clear HI
      obtain ⟨j, hj', rfl, rfl, HI⟩ := hrel
      by_cases hj0 : 0 < j
      · obtain ⟨i, rfl⟩ : ∃ i, j = i + 1 := ⟨j - 1, by omega⟩
        have ei : (((i + 1 : Nat) : Int) - 1) = (i : Int) := by omega
        rw [ei]
        have f1 : decide ((0 : Int) ≤ (i : Int)) = true := decide_eq_true (by omega)
        have hil : i < t.ps.length := by rw [HPN.out]; omega
        obtain ⟨p, hp⟩ : ∃ p, t.ps[i]? = some p := ⟨_, List.getElem?_eq_getElem hil⟩
        have hpc := HF.out.2.sub p (List.mem_of_getElem? hp)
        have hpl := HF.out.2.lt p hpc
        obtain ⟨hb, hoff, x, y, hA, _, kc1, kc2, hv2⟩ := (own_rdHz HI.out.list).at_ (i := i) (by rw [hlP_len]; exact hil)
        have hxy : x = (nAt (pns L) p).1 := by
          have := hv2.out
          unfold hlP at this
          rw [List.getElem?_map, hp] at this
          have := Option.some.inj this
          exact (congrArg Prod.fst this).symm
        have hfi : findI (pns L) x = (p : Int) := by
          rw [hxy]
          exact findI_at hpl rfl (fun i hi e => by
            have := ids_inj HMS.out.nd (by omega) hpl e
            omega)
        have hpL : p < L.length := by rw [← HPL.out]; exact hpl
        subst hA
        have HKX : Hid (∀ W, Below wr.heap.size wr W → (W.cell? ⟨g, 0, none⟩ = some (.slice A L.length c) ∧ W.cell? ⟨g, 1, none⟩ = some (.int .i64 (sN : Int))) ∧ W.cell? ⟨hb, hoff + i * 2, none⟩ = some (.int .u64 x)) := Lib.hid (fun W h => by
          have h5 := HI.out.below h
          obtain ⟨b1, off1, x', y', hA1, _, q1, q2, hv'⟩ := (own_rdHz h5.list).at_ (i := i) (by rw [hlP_len]; exact hil)
          have e2 : (x', y') = (x, y) := Option.some.inj (hv'.out.symm.trans hv2.out)
          have e3 := congrArg Prod.fst e2
          simp only at e3
          subst e3
          simp only [Option.some.injEq, Addr.mk.injEq, and_true] at hA1
          obtain ⟨rfl, rfl⟩ := hA1
          exact ⟨HCL.out _ h5.bel, q1⟩)
        have HCF : Hid (∀ W, Below wr.heap.size wr W → Calls Tryz.prog 85 #[.agg #[.slice A L.length c, .int .i64 (sN : Int)], .int .u64 x] W fun e w' => e = .returned (.int .i64 (p : Int)) ∧ Below wr.heap.size wr w' ∧ (w'.cell? ⟨g, 0, none⟩ = some (.slice A L.length c) ∧ w'.cell? ⟨g, 1, none⟩ = some (.int .i64 (sN : Int))) ∧ w'.cell? ⟨hb, hoff + i * 2, none⟩ = some (.int .u64 x)) := Lib.hid (fun W h => by
          have := rFind_any A c L (sN : Int) x W W.heap.size (Nat.le_refl _) (HGR.out W (HI.out.below h).bel) (by omega)
          rw [hfi] at this
          exact this.mono fun e w' hh => ⟨hh.1, h.trans (hh.2.mono h.size), HKX.out _ (h.trans (hh.2.mono h.size))⟩)
        have HNX : Hid (nxI t i = if p ∈ t.od then nxI t (i + 1) else (p : Int)) := Lib.hid (by
          split
          · rename_i ho; exact nxI_old hp ho
          · rename_i ho; exact nxI_new hp ho)
        have x3 : (0 : Int) ≤ (i : Int) := by omega
        have x4 : (i : Int) < (PL : Int) := by omega
        have x5 : (0 : Int) ≤ (p : Int) := by omega
        have x6 : (p : Int) < (L.length : Int) := by omega
        have HDR := (Below.refl wr.heap.size wr).drew
        obtain ⟨⟨s0, s1⟩, s2⟩ := HKX.out _ HDR
        clear hv2 hxy hfi kc1 kc2 hp hpc hpl hil hj0 ei
        go_upto_region 13 with fail
        go_region_held3 (fun w' => (w'.cell? ⟨g, 0, none⟩ = some (.slice A L.length c) ∧ w'.cell? ⟨g, 1, none⟩ = some (.int .i64 (sN : Int))) ∧ w'.cell? ⟨hb, hoff + i * 2, none⟩ = some (.int .u64 x))
          (exact ⟨⟨by with_reducible assumption, by with_reducible assumption⟩, by with_reducible assumption⟩)
          (first
            | (go_at_call 85; (with_reducible refine (HCF.out _ (by with_reducible assumption)).mono ?_); rintro e w8 ⟨rfl, b8, ⟨z0, z1⟩, z2⟩)
            | fail)
        have HI8 := Lib.hid (HI.out.below b8)
        have lc := HI8.out.look.cell p
        rw [cellsB_at (by rw [goneL_len]; exact hpL), goneL_at hpL, gone_nat] at lc
        clear b8 s0 s1 s2 z0 z1 z2 HKX HCF HI HDR
        by_cases ho : p ∈ t.od
        · rw [decide_eq_true ho] at lc
          have e2 : Hid (nxI t i = nxI t (i + 1)) := Lib.hid (by rw [HNX.out, if_pos ho])
          clear ho
          go_wp2
          go_roundw
          case rel => exact ⟨i, by omega, by first | rfl | go_num, by rw [e2.out], by first | exact HI8 | exact Lib.hid (HI8.out.below (below_drewN (Below.refl _ _) _))⟩
          case measure => first | (simp [intOf]; done) | (simp [intOf]; omega)
        · rw [decide_eq_false ho] at lc
          have e2 : Hid (nxI t i = (p : Int)) := Lib.hid (by rw [HNX.out, if_neg ho])
          clear ho
          go_wp2
          go_roundw
          case rel => exact ⟨i, by omega, by first | rfl | go_num, by rw [e2.out], by first | exact HI8 | exact Lib.hid (HI8.out.below (below_drewN (Below.refl _ _) _))⟩
          case measure => first | (simp [intOf]; done) | (simp [intOf]; omega)
      · obtain rfl : j = 0 := by omega
        have f1 : decide ((0 : Int) ≤ ((0 : Nat) : Int) - 1) = false := by decide
        cases hnx : nextP t with
        | none =>
          have e2 : nxI t 0 = -1 := by rw [nxI_zero, hnx]
          have e3 : FP = t := by rw [HF.out.1]; exact runP_none hnx _
          subst e3
          have HPR := Lib.hid (own_rdHz HI.out.list)
          have HPO := Lib.hid (own_rdK (n := FP.od.length) HI.out.ord)
          have hxc : PL ≤ xc := own_capZ (by have := HI.out.list; rw [HPN.out] at this; exact this)
          rw [e2]
          clear hnx HF HNE
          go_wp2
          go_ret2
          refine ⟨X, xc, Y, yc, ?_, HPR.out, HPO.out, HUP.out _ HI.out.bel, ?_⟩
          · rw [HPN.out, HON.out]; rfl
          · rw [HPN.out]; exact hxc
        | some p =>
          have e2 : nxI t 0 = (p : Int) := by rw [nxI_zero, hnx]
          obtain ⟨hpp, hpo⟩ := nextP_some hnx
          have hpc := HF.out.2.sub p hpp
          have hpl := HF.out.2.lt p hpc
          have hpL : p < L.length := by rw [← HPL.out]; exact hpl
          have hroom := HF.out.2.room hpc hpo
          have HST := Lib.hid (HF.out.1.trans (runP_step HF.out.2 hnx))
          have HOK1 := Lib.hid (HF.out.2.look1 hpc hpo)
          have f2 : decide ((p : Int) < 0) = false := decide_eq_false (by omega)
          have x5 : (0 : Int) ≤ (p : Int) := by omega
          have x6 : (p : Int) < (L.length : Int) := by omega
          have lc := HI.out.look.cell p
          rw [cellsB_at (by rw [goneL_len]; exact hpL), goneL_at hpL, gone_nat, decide_eq_false hpo] at lc
          have lf := HI.out.look.frozen p
          have L2 := HI.out.look.set p (.bool true)
          rw [cellsB_set, goneL_set hpL, ← natS_snoc] at L2
          have hqn : qc ≠ ql := by omega
          have HI2 : Hid (Below w0.heap.size w0 (wr.setCell ⟨ql, p, none⟩ (.bool true)) ∧ (ql + 1 ≤ (wr.setCell ⟨ql, p, none⟩ (.bool true)).heap.size) ∧ Whole (wr.setCell ⟨ql, p, none⟩ (.bool true)) qc 4 (cellsB (goneL L.length (natS t.cm))) ∧ Whole (wr.setCell ⟨ql, p, none⟩ (.bool true)) ql 4 (cellsB (goneL L.length (natS (t.od ++ [p])))) ∧ (wr.setCell ⟨ql, p, none⟩ (.bool true)).ownsRow (ql + 1) 78 2 (.slice X PL xc) PL (flatH (hlP (pns L) v t.ps)) ∧ (wr.setCell ⟨ql, p, none⟩ (.bool true)).ownsRow (ql + 1) 3 1 (.slice Y OL yc) OL ((natS t.od).map (Value.int .i64))) := Lib.hid ⟨HI.out.bel.setCell (p := ⟨ql, p, none⟩) (by show w0.heap.size ≤ ql; omega) _, by rw [World.size_setCell]; exact HI.out.hs, HI.out.came.far (a := ⟨ql, p, none⟩) hqn _, L2, by rw [← HPN.out]; exact own_far HI.out.list HI.out.look (by decide) p _, by rw [← HON.out]; exact own_far HI.out.ord HI.out.look (by decide) p _⟩
          obtain ⟨w8, ew8⟩ : ∃ w8, wr.setCell ⟨ql, p, none⟩ (.bool true) = w8 := ⟨_, rfl⟩
          rw [ew8] at HI2
          have hOL : OL ≤ 2048 := by have := HF.out.2.room hpc hpo; rw [HON.out, HPL.out] at this; omega
          have hOL2 : OL < L.length := by have := hroom; rw [HON.out, HPL.out] at this; exact this
          rw [e2]
          clear hnx hpp hpc hroom L2 e2 HNE
          go_upto_region 19 with fail
          try rw [ew8]
          clear lc lf ew8 HI
          have h8s := HI2.out.2.1
          go_upto_region 20 with (at_builtin; refine wpList_append_own _ rfl _ _ 57 rfl (ql + 1) 3 i0 (.int .i64 0) 1 8 Tryz.underlying57 hi hz0 hz1 hz2 rfl (by decide) _ OL ((natS t.od).map (Value.int .i64)) rfl (HI2.out.2.2.2.2.2.alloc _) ⟨w8.heap.size, 0, none⟩ 1 1 [.int .i64 (p : Int)] rfl rfl (World.news_of_block (cs := #[.int .i64 (p : Int)]) (t := 3) (fr := (0, 0)) (heap_alloc_new w8 _)) (by simp [Value.oneCell']) (by show OL + 1 ≤ 9223372036854775807; omega) (by omega) (by simp; omega) ?_; intro v2 w9 hown2 hgrow2 hnl2)
          obtain ⟨Y4, y4, yc4, rfl⟩ := own_form hown2
          obtain rfl := own_len hown2
          have hrY : ∀ k, (Value.slice Y OL yc).ownBlock = some k → ql + 1 ≤ k := fun k hk => (HI2.out.2.2.2.2.2.lt k hk).1
          have bA : Below w8.heap.size w8 (w8.alloc (.cells #[.int .i64 (p : Int)] 3)) := below_one (Below.refl _ _) _
          have b9 : Below w0.heap.size w0 w9 := (HI2.out.1.trans (bA.mono HI2.out.1.size)).grown hgrow2 (by have := HI2.out.1.size; have := bA.size; omega) (fun r hr => by have h9 := hrY r hr; have h8 := hqc; have h7 := hq1; omega)
          have hs9 : ql + 1 ≤ w9.heap.size := by have := hgrow2.size; have := bA.size; omega
          have hgrow3 : (w8.alloc (.cells #[.int .i64 (p : Int)] 3)).grownBy w9 (Value.slice Y OL yc).ownBlock := hgrow2
          have hL9 : w9.ownsRow (ql + 1) 78 2 (.slice X PL xc) PL (flatH (hlP (pns L) v t.ps)) := (HI2.out.2.2.2.2.1.alloc _).kept hgrow3 (own_neZ HI2.out.2.2.2.2.1 HI2.out.2.2.2.2.2 (by decide))
          have H9 : Hid (ScI w0 qc ql (ql + 1) L.length (pns L) v ⟨t.ps, t.cm, t.od ++ [p]⟩ X xc Y4 yc4 w9) := Lib.hid ⟨b9, hs9, whole_grownZ (HI2.out.2.2.1.below bA HI2.out.2.2.1.lt) hgrow2 hrY (by omega), whole_grownZ (HI2.out.2.2.2.1.below bA HI2.out.2.2.2.1.lt) hgrow2 hrY (by omega), by
            show w9.ownsRow (ql + 1) 78 2 (.slice X t.ps.length xc) t.ps.length (flatH (hlP (pns L) v t.ps))
            rw [HPN.out]
            exact hL9, by
            show w9.ownsRow (ql + 1) 3 1 (.slice Y4 (t.od ++ [p]).length yc4) (t.od ++ [p]).length ((natS (t.od ++ [p])).map (Value.int .i64))
            rw [natS_snoc, List.map_append, List.length_append, HON.out]
            exact hown2⟩
          have HOD : Hid ((t.od ++ [p]).length = OL + 1) := Lib.hid (by rw [List.length_append, HON.out]; rfl)
          clear hown2 hgrow2 hnl2 bA hs9 HI2 hrY h8s b9 hgrow3 hL9
          obtain ⟨bb, off, id, a1, c1, u, a2, c2, o, hAA, hBg, m1, m2, m3, hr1, hr2, hvv⟩ := HX.out.rd.at_ hpL
          have hna : nAt (pns L) p = (id, u, o) := nAt_get (pns_at hvv.out)
          subst hAA
          have HRO : Hid (∀ W, Below w0.heap.size w0 W → W.cell? ⟨bb, off + p * 3 + 2, none⟩ = some (.slice a2 o.length c2) ∧ Rd .i64 W W.heap.size a2 o) := Lib.hid (fun W h => ⟨((HUP.out W h).cell (p := ⟨bb, off + p * 3 + 2, none⟩) hBg).trans m3, (hr2.below (HUP.out W h)).more (HUP.out W h).size⟩)
          have hol : o.length ≤ 20000 := by
            have := (HX.out.sm.at_ (List.mem_of_getElem? (pns_at hvv.out))).2
            exact this
          have HOO : Hid ((∀ x ∈ o, 0 ≤ x ∧ x < (L.length : Int)) ∧ outN (pns L) p = o.map Int.toNat) := Lib.hid ⟨fun x hx => by
            have := HMS.out.ho.out hpl (t := x) (by unfold outAt; rw [hna]; exact hx)
            rwa [HPL.out] at this, by unfold outN outAt; rw [hna]⟩
          obtain ⟨y0, y1⟩ := HCL.out _ H9.out.bel
          have m4 := (HRO.out _ H9.out.bel).1
          clear hvv hna hr1 hr2 hpl hBg m1 m2 m3
          go_upto_region 21 with fail
          clear y0 y1 m4
          go_wp2
          go_loopw [11, 17] (fun l k wr3 => ∃ (j : Nat) (t2 : Sr) (X2 : Option Addr) (xc2 : Nat), j ≤ o.length ∧ k = .int .i64 j ∧ l = .slice X2 t2.ps.length xc2 ∧ Hid (t2 = ((o.map Int.toNat).take j).foldl (comeP (pns L) v m) ⟨t.ps, t.cm, t.od ++ [p]⟩ ∧ OkS (pns L) v m t2 ∧ t2.od = t.od ++ [p]) ∧ Hid (ScI w0 qc ql (ql + 1) L.length (pns L) v t2 X2 xc2 Y4 yc4 wr3)) (fun _ k _ => o.length - (intOf k).toNat)
          case atStart => exact ⟨0, ⟨t.ps, t.cm, t.od ++ [p]⟩, X, xc, by omega, rfl, by first | rfl | (show Value.slice X PL xc = Value.slice X t.ps.length xc; rw [HPN.out]), Lib.hid ⟨rfl, HOK1.out, rfl⟩, H9⟩
          case round =>
            clear H9
            obtain ⟨j, t2, X2, xc2, hjl, rfl, rfl, HT, HI⟩ := hrel
            by_cases hlt : j < o.length
            · have e1 : decide ((j : Int) < (o.length : Int)) = true := decide_eq_true (by omega)
              obtain ⟨bo, oo, x, hA, hBo, kc, hvo⟩ := (HRO.out _ HI.out.bel).2.at_ hlt
              have hxm : o[j]? = some x := by rw [← hvo.out, List.getElem?_eq_getElem hlt]; rfl
              have hxb := HOO.out.1 x (List.mem_of_getElem? hxm)
              obtain ⟨qn, rfl⟩ := Int.eq_ofNat_of_zero_le hxb.1
              have hqL : qn < L.length := by omega
              have hqG : qn < (pns L).length := by rw [HPL.out]; exact hqL
              obtain ⟨TF, eTF⟩ : ∃ TF, comeP (pns L) v m t2 qn = TF := ⟨_, rfl⟩
              have HT3 : Hid (TF = ((o.map Int.toNat).take (j + 1)).foldl (comeP (pns L) v m) ⟨t.ps, t.cm, t.od ++ [p]⟩ ∧ OkS (pns L) v m TF ∧ TF.od = t.od ++ [p]) := Lib.hid (by
                have e3 : (o.map Int.toNat).take (j + 1) = (o.map Int.toNat).take j ++ [qn] := by
                  rw [List.take_add_one, List.getElem?_map, hxm]; rfl
                rw [e3, List.foldl_append, ← HT.out.1, ← eTF]
                exact ⟨rfl, HT.out.2.1.come (s := (sN : Int)) HMS.out.nd (by have := HM12.out.1; omega) hqG, by rw [comeP_od]; exact HT.out.2.2⟩)
              subst hA
              have x7 : (0 : Int) ≤ (j : Int) := by omega
              have x8 : (j : Int) < (o.length : Int) := by omega
              have x9 : (0 : Int) ≤ (qn : Int) := by omega
              have xA : (qn : Int) < (L.length : Int) := by omega
              have cc := HI.out.came.cell qn
              rw [cellsB_at (by rw [goneL_len]; exact hqL), goneL_at hqL, gone_nat] at cc
              by_cases hc : qn ∈ t2.cm
              · rw [decide_eq_true hc] at cc
                have e3 : TF = t2 := by rw [← eTF]; exact come_old hc
                rw [e3] at HT3
                clear hvo hxm hxb eTF e3 hc hBo
                go_wp2
                go_roundw
                case rel => exact ⟨j + 1, t2, X2, xc2, by omega, by go_num, rfl, HT3, by first | exact HI | exact Lib.hid (HI.out.below (below_drewN (Below.refl _ _) _))⟩
                case measure => simp [intOf]; omega
              · rw [decide_eq_false hc] at cc
                have cf := HI.out.came.frozen qn
                obtain ⟨d1, d2, d3, d4⟩ := come_doc (s := (sN : Int)) HT.out.2.1 HMS.out.nd (by have := HM12.out.1; omega) hqG hc
                rw [eTF] at d1 d2 d3 d4
                have hp2 : t2.ps.length ≤ 256 := by have := HT.out.2.1.le; have := HM12.out.2; omega
                have hple := HT.out.2.1.le
                obtain ⟨h1', h2', hhx⟩ : ∃ h1' h2', hitP (pns L) v qn = (h1', h2') := ⟨_, _, rfl⟩
                obtain ⟨T2, eT2⟩ : ∃ T2, hlP (pns L) v t2.ps = T2 := ⟨_, rfl⟩
                obtain ⟨P2, eP2⟩ : ∃ P2, t2.ps.length = P2 := ⟨_, rfl⟩
                have hT2 : T2.length = P2 := by rw [← eT2, hlP_len, eP2]
                rw [hhx, eT2] at d3
                rw [eP2] at d4 hp2 hple
                have HD := Lib.hid (And.intro d1 (And.intro d2 (And.intro d3 d4)))
                have hqq : qc ≠ ql := by omega
                have HI4 : Hid (ScR w0 qc ql L.length (t2.cm ++ [qn]) t2.od Y4 yc4 (wr.setCell ⟨qc, qn, none⟩ (.bool true)) ∧ (wr.setCell ⟨qc, qn, none⟩ (.bool true)).ownsRow (ql + 1) 78 2 (.slice X2 P2 xc2) P2 (flatH T2)) := Lib.hid ⟨⟨HI.out.bel.setCell (p := ⟨qc, qn, none⟩) hqc _, by rw [World.size_setCell]; exact HI.out.hs, by
                  have := HI.out.came.set qn (.bool true)
                  rw [cellsB_set, goneL_set hqL, ← natS_snoc] at this
                  exact this, HI.out.look.far (a := ⟨qc, qn, none⟩) (by show ql ≠ qc; omega) _, own_far HI.out.ord HI.out.came (by decide) qn _⟩, by
                  have := own_far HI.out.list HI.out.came (by decide) qn (.bool true)
                  rw [eT2, eP2] at this
                  exact this⟩
                rw [eP2]
                obtain ⟨w4, ew4⟩ : ∃ w4, wr.setCell ⟨qc, qn, none⟩ (.bool true) = w4 := ⟨_, rfl⟩
                rw [ew4] at HI4
                have CHH : Hid (∀ W, Below w4.heap.size w4 W → Calls Tryz.prog 28 #[.agg #[.slice (some ⟨bb, off, none⟩) L.length c, .int .i64 (sN : Int)], .int .i64 (qn : Int), .slice B v.length q] W fun e w' => e = .returned (.agg #[.int .u64 h1', .int .i64 h2']) ∧ Below w4.heap.size w4 w') := Lib.hid (fun W h => by
                  have hb := (HI4.out.1.below h).bel
                  have := refHit_any (some ⟨bb, off, none⟩) c L (sN : Int) qn B q v W (HGR.out W hb) hqL (HVR.out W hb) HBV.out HX.out.ok HMS.out.dim.2 (HMS.out.same _ (nAt_mem hqG))
                  rw [hhx] at this
                  exact this.mono fun e w' hh => ⟨hh.1, h.trans (hh.2.mono h.size)⟩)
                have KX4 : Hid (∀ W, Below w4.heap.size w4 W → W.cell? ⟨g, 0, none⟩ = some (.slice (some ⟨bb, off, none⟩) L.length c) ∧ W.cell? ⟨g, 1, none⟩ = some (.int .i64 (sN : Int)) ∧ W.cell? ⟨bo, oo + j, none⟩ = some (.int .i64 (qn : Int))) := Lib.hid (fun W h => by
                  have hb := (HI4.out.1.below h).bel
                  obtain ⟨b1, o1, x1', hA1, _, q1, hv1⟩ := (HRO.out _ hb).2.at_ hlt
                  have e4 : x1' = (qn : Int) := by
                    have h5 : o[j]? = some x1' := by rw [← hv1.out, List.getElem?_eq_getElem hlt]; rfl
                    rw [hxm] at h5
                    exact (Option.some.inj h5).symm
                  subst e4
                  simp only [Option.some.injEq, Addr.mk.injEq, and_true] at hA1
                  obtain ⟨rfl, rfl⟩ := hA1
                  exact ⟨(HCL.out _ hb).1, (HCL.out _ hb).2, q1⟩)
                have hcf : wr.heap.size = w4.heap.size := by rw [← ew4, World.size_setCell]
                have HTL := Lib.hid hT2
                have HBO : Hid (∀ W, Below w0.heap.size w0 W → W.cell? ⟨bo, oo + j, none⟩ = some (.int .i64 (qn : Int))) := Lib.hid (fun W hb => by
                  obtain ⟨b1, o1, x1', hA1, _, q1, hv1⟩ := (HRO.out _ hb).2.at_ hlt
                  have e4 : x1' = (qn : Int) := by
                    have h5 : o[j]? = some x1' := by rw [← hv1.out, List.getElem?_eq_getElem hlt]; rfl
                    rw [hxm] at h5
                    exact (Option.some.inj h5).symm
                  subst e4
                  simp only [Option.some.injEq, Addr.mk.injEq, and_true] at hA1
                  obtain ⟨rfl, rfl⟩ := hA1
                  exact q1)
                obtain ⟨y0, y1⟩ := HCL.out _ HI.out.bel
                clear hvo hxm hxb hBo hc d1 d2 d3 d4 hhx eT2 eP2 hT2 eTF hqq
                go_upto_region 26 with fail
                try rw [ew4]
                clear y0 y1 cc cf ew4 kc hcf HI
                have hdr : Below w4.heap.size w4 w4.drew := (Below.refl _ _).drew
                obtain ⟨q0, q1, q2⟩ := KX4.out _ hdr
                refine wp_region_held_drew (S := fun w' => w'.cell? ⟨g, 0, none⟩ = some (.slice (some ⟨bb, off, none⟩) L.length c) ∧ w'.cell? ⟨g, 1, none⟩ = some (.int .i64 (sN : Int)) ∧ w'.cell? ⟨bo, oo + j, none⟩ = some (.int .i64 (qn : Int))) (by kernel_rfl) ⟨q0, q1, q2⟩ (fun hHeld => ?_)
                try simp only [List.setIfInBounds_toArray, List.set_cons_zero, List.set_cons_succ]
                refine wpAnyH_take (i := 0) (v := .slice X2 P2 xc2) rfl (by kernel_rfl) (by kernel_rfl) (by kernel_rfl) (fun _ _ _ h => h) (Or.inl ⟨by rfl, ?_⟩) (by assumption) ?_
                · intro w' hSw
                  obtain ⟨t0, t1, t2⟩ := hSw
                  go_simp
                try simp only [Act.put, List.setIfInBounds_toArray, List.set_cons_zero, List.set_cons_succ]
                refine wpAnyH_take (i := 1) (v := .agg #[.slice (some ⟨bb, off, none⟩) L.length c, .int .i64 (sN : Int)]) rfl (by kernel_rfl) (by kernel_rfl) (by kernel_rfl) (fun _ _ _ h => h) (Or.inl ⟨by rfl, ?_⟩) (by assumption) ?_
                · intro w' hSw
                  obtain ⟨t0, t1, t2⟩ := hSw
                  go_simp
                try simp only [Act.put, List.setIfInBounds_toArray, List.set_cons_zero, List.set_cons_succ]
                refine wpAnyH_take (i := 2) (v := .slice (some ⟨bo, oo, none⟩) o.length c2) rfl (by kernel_rfl) (by kernel_rfl) (by kernel_rfl) (fun _ _ _ h => h) (Or.inl ⟨by rfl, ?_⟩) (by assumption) ?_
                · intro w' hSw
                  obtain ⟨t0, t1, t2⟩ := hSw
                  go_simp
                try simp only [Act.put, List.setIfInBounds_toArray, List.set_cons_zero, List.set_cons_succ]
                refine wpAnyH_take (i := 3) (v := .int .i64 (j : Int)) rfl (by kernel_rfl) (by kernel_rfl) (by kernel_rfl) (fun _ _ _ h => h) (Or.inl ⟨by rfl, ?_⟩) (by assumption) ?_
                · intro w' hSw
                  obtain ⟨t0, t1, t2⟩ := hSw
                  go_simp
                try simp only [Act.put, List.setIfInBounds_toArray, List.set_cons_zero, List.set_cons_succ]
                refine wpAnyH_take (i := 4) (v := .pointer (some ⟨bo, oo + j, none⟩)) rfl (by kernel_rfl) (by kernel_rfl) (by kernel_rfl) (fun _ _ _ h => h) (Or.inl ⟨by rfl, ?_⟩) (by assumption) ?_
                · intro w' hSw
                  obtain ⟨t0, t1, t2⟩ := hSw
                  go_simp
                try simp only [Act.put, List.setIfInBounds_toArray, List.set_cons_zero, List.set_cons_succ]
                refine wpAnyH_take (i := 5) (v := .int .i64 (qn : Int)) rfl (by kernel_rfl) (by kernel_rfl) (by kernel_rfl) (fun _ _ _ h => h) (Or.inl ⟨by rfl, ?_⟩) (by assumption) ?_
                · intro w' hSw
                  obtain ⟨t0, t1, t2⟩ := hSw
                  go_simp
                try simp only [Act.put, List.setIfInBounds_toArray, List.set_cons_zero, List.set_cons_succ]
                refine wpAnyH_take (i := 6) (v := .slice B v.length q) rfl (by kernel_rfl) (by kernel_rfl) (by kernel_rfl) (fun _ _ _ h => h) (Or.inl ⟨by rfl, ?_⟩) (by assumption) ?_
                · intro w' hSw
                  obtain ⟨t0, t1, t2⟩ := hSw
                  go_simp
                try simp only [Act.put, List.setIfInBounds_toArray, List.set_cons_zero, List.set_cons_succ]
                refine wpAnyH_ready (rs := [7]) (by kernel_rfl) (by simp) ?_
                refine AllReadyH.cons rfl (fun K hK => ?_) AllReadyH.nil
                go_simp
                go_at_call 28
                refine (CHH.out _ hdr).mono ?_
                rintro e w6 ⟨rfl, b6⟩
                obtain ⟨m0, m1, m2⟩ := KX4.out _ b6
                refine hK.out _ _ ?_ (fun hHeld => ?_)
                · exact ⟨m0, m1, m2⟩
                clear hK K
                try simp only [Act.put, List.setIfInBounds_toArray, List.set_cons_zero, List.set_cons_succ]
                have bA : Below w4.heap.size w4 (w6.alloc (.cells #[.int .u64 h1', .int .i64 h2'] 78)) := below_one b6 _
                obtain ⟨n0, n1, n2⟩ := KX4.out _ bA
                have HOA := Lib.hid (own_below HI4.out.2 bA)
                have HRA := Lib.hid (HI4.out.1.below bA)
                have HSA : Hid (ql + 1 ≤ (w6.alloc (.cells #[.int .u64 h1', .int .i64 h2'] 78)).heap.size) := Lib.hid HRA.out.hs
                refine wpAnyH_ready (rs := [8]) (by kernel_rfl) (by simp) ?_
                refine AllReadyH.cons rfl (fun K hK => ?_) AllReadyH.nil
                go_simp
                refine hK.out _ _ ?_ (fun hHeld => ?_)
                · exact ⟨n0, n1, n2⟩
                clear hK K
                try simp only [Act.put, List.setIfInBounds_toArray, List.set_cons_zero, List.set_cons_succ]
                refine wpAnyH_ready (rs := [9]) (by kernel_rfl) (by simp) ?_
                refine AllReadyH.cons rfl (fun K hK => ?_) AllReadyH.nil
                refine step_append_lies _ (by rfl) (.tmp 94) (.tmp 102) _ (by rfl) (ql + 1) 78 j0 (.agg #[.int .u64 0, .int .i64 0]) 2 16 Tryz.underlying30 hj jz0 jz1 jz2 rfl (by omega) (.slice X2 P2 xc2) P2 (flatH T2) (by rfl) HOA.out ⟨w6.heap.size, 0, none⟩ 1 1 [.int .u64 h1', .int .i64 h2'] (by rfl) (by rfl) (World.news_of_block (cs := #[.int .u64 h1', .int .i64 h2']) (t := 78) (fr := (0, 0)) (heap_alloc_new w6 _)) (by simp [Value.oneCell']) (by omega) (by unfold maxLen; omega) (by omega) HSA.out (w6.heap.size + 1) (by simp) ?_
                intro gg gcap w8 hown8 hgrow8 hat8 hlt8
                have HR8 := Lib.hid (HRA.out.grown hqc hq1 HOA.out hgrow8)
                have HO8 : Hid (w8.ownsRow (ql + 1) 78 2 (.slice (some ⟨gg, 0, none⟩) (P2 + 1) gcap) (P2 + 1) (flatH (T2 ++ [(h1', h2')]))) := Lib.hid (by rw [flatH_app]; exact hown8)
                obtain ⟨m0', m1'⟩ := HCL.out _ HR8.out.bel
                have m2' : w8.cell? ⟨bo, oo + j, none⟩ = some (.int .i64 (qn : Int)) := HBO.out _ HR8.out.bel
                clear hown8 hgrow8 hat8 hlt8
                refine hK.out _ _ ?_ (fun hHeld => ?_)
                · exact ⟨m0', m1', m2'⟩
                clear hK K
                try simp only [Act.put, List.setIfInBounds_toArray, List.set_cons_zero, List.set_cons_succ]
                refine wpAnyH_ready (rs := [10]) (by kernel_rfl) (by simp) ?_
                refine AllReadyH.cons rfl (fun K hK => ?_) AllReadyH.nil
                go_simp
                go_at_call 29
                refine (refSort_any (some ⟨gg, 0, none⟩) gcap (T2 ++ [(h1', h2')]) (P2 + 1) (by rw [List.length_append, HTL.out]; rfl) w8 (own_rdHz HO8.out) (by rw [List.length_append, HTL.out]; simp; omega)).mono ?_
                rintro e w9 ⟨S9, rfl, o9, b9⟩
                obtain ⟨A9, c9, rfl, -, -⟩ := own_sliceH o9
                have HR9 := Lib.hid (HR8.out.below b9)
                have HO9 := Lib.hid (own_base o9 HR8.out.hs)
                obtain ⟨p0, p1⟩ := HCL.out _ HR9.out.bel
                have p2 : w9.cell? ⟨bo, oo + j, none⟩ = some (.int .i64 (qn : Int)) := HBO.out _ HR9.out.bel
                clear o9 b9
                refine hK.out _ _ ?_ (fun hHeld => ?_)
                · exact ⟨p0, p1, p2⟩
                clear hK K
                try simp only [Act.put, List.setIfInBounds_toArray, List.set_cons_zero, List.set_cons_succ]
                refine wpAnyH_take (i := 11) (v := .slice A9 (P2 + 1) c9) rfl (by kernel_rfl) (by kernel_rfl) (by kernel_rfl) (fun _ _ _ h => h) (Or.inl ⟨by rfl, ?_⟩) (by assumption) ?_
                · intro w' hSw
                  obtain ⟨t0, t1, t2⟩ := hSw
                  go_simp
                try simp only [Act.put, List.setIfInBounds_toArray, List.set_cons_zero, List.set_cons_succ]
                refine wpAnyH_done (by kernel_rfl) ?_ _
                try simp only [Exit.then]
                clear m0 m1 m2 n0 n1 n2 m0' m1' m2' p0 p1 p2 bA b6
                clear hdr q0 q1 q2 KX4 CHH
                have HSL : Hid ((srt (T2 ++ [(h1', h2')])).length = P2 + 1) := Lib.hid (by rw [srt_len, List.length_append, HTL.out]; rfl)
                rcases Nat.lt_or_ge m (P2 + 1) with hmp | hmp
                · have f3 : decide ((m : Int) < ((P2 + 1 : Nat) : Int)) = true := decide_eq_true (by omega)
                  have f3' : decide ((m : Int) < (P2 : Int) + 1) = true := decide_eq_true (by omega)
                  have hlen : TF.ps.length = m := by rw [HD.out.2.2.2]; omega
                  have xB : (0 : Int) ≤ (m : Int) := by omega
                  have hcap : P2 + 1 ≤ c9 := own_capZ HO9.out
                  have xC : (m : Int) ≤ (c9 : Int) := by omega
                  have HIF : Hid (ScI w0 qc ql (ql + 1) L.length (pns L) v TF A9 c9 Y4 yc4 w9) := Lib.hid (ScR.with_ (by rw [HD.out.1, HD.out.2.1]; exact HR9.out) (by
                    rw [HD.out.2.2.1, hlen]
                    have := Bk.own_take (c := m) (by omega) HO9.out
                    rw [flatH_take] at this
                    exact this))
                  have HLE := Lib.hid hlen
                  clear hlen hcap
                  go_wp2
                  go_roundw
                  case rel => exact ⟨j + 1, TF, A9, c9, by omega, by go_num, by rw [HLE.out], HT3, by first | exact HIF | exact Lib.hid (HIF.out.below (below_drewN (Below.refl _ _) _))⟩
                  case measure => simp [intOf]; omega
                · have f3 : decide ((m : Int) < ((P2 + 1 : Nat) : Int)) = false := decide_eq_false (by omega)
                  have f3' : decide ((m : Int) < (P2 : Int) + 1) = false := decide_eq_false (by omega)
                  have hlen : TF.ps.length = P2 + 1 := by rw [HD.out.2.2.2]; omega
                  have HIF : Hid (ScI w0 qc ql (ql + 1) L.length (pns L) v TF A9 c9 Y4 yc4 w9) := Lib.hid (ScR.with_ (by rw [HD.out.1, HD.out.2.1]; exact HR9.out) (by
                    rw [HD.out.2.2.1, hlen, List.take_of_length_le (by rw [HSL.out]; exact hmp)]
                    exact HO9.out))
                  have HLE := Lib.hid hlen
                  clear hlen
                  go_wp2
                  go_roundw
                  case rel => exact ⟨j + 1, TF, A9, c9, by omega, by go_num, by rw [HLE.out], HT3, by first | exact HIF | exact Lib.hid (HIF.out.below (below_drewN (Below.refl _ _) _))⟩
                  case measure => simp [intOf]; omega
            · obtain rfl : j = o.length := by omega
              have e1 : decide ((o.length : Int) < (o.length : Int)) = false := decide_eq_false (by omega)
              have htk : (o.map Int.toNat).take o.length = o.map Int.toNat := List.take_of_length_le (by rw [List.length_map]; exact Nat.le_refl _)
              have HE : Hid (t2 = lookP (pns L) v m t p ∧ OkS (pns L) v m t2 ∧ t2.od.length = OL + 1) := Lib.hid ⟨by
                have h5 := HT.out.1
                rw [htk] at h5
                rw [h5]; unfold lookP; rw [HOO.out.2], HT.out.2.1, by rw [HT.out.2.2]; exact HOD.out⟩
              have HF2 : Hid (FP = runP (pns L) v m ((pns L).length - t2.od.length) t2 ∧ OkS (pns L) v m t2) := Lib.hid ⟨by rw [HST.out, ← HE.out.1], HE.out.2.1⟩
              clear htk HT
              go_wp2
              go_roundw
              case rel => exact ⟨t2, X2, xc2, Y4, yc4, rfl, by rw [HE.out.2.2], HI, HF2⟩
              case measure => simp [lenV]; omega
end Go.Proofs.YtkmngbkghgelfaaGreat
