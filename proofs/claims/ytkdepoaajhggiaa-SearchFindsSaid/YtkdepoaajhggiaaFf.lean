/- The walk of newSearch. -/
import Derived.Test.YtkdepoaajhggiaaFe
import Derived.Test.YtkdepoaajhggiaaLe
namespace Go.Proofs.Ytkdepoaajhggiaa
open Go.Shelf Go.RowKit Go.Lib
open Go.Sort hiding Below
set_option linter.unusedVariables false
set_option linter.unusedSimpArgs false
def widB (k : Int) : Bool := decide (1 ≤ k ∧ k ≤ 256)
theorem goB_may {G : List Pn} {s : Int} {v : List Int} : mayS G s v = (holdsB G s && (goB G v.length && decide ((idsG G).Nodup))) := by
  unfold mayS goB idsG
  by_cases h1 : 1 ≤ v.length ∧ v.length ≤ 64 <;> by_cases h2 : (∀ x ∈ G, x.2.1.length = v.length) <;> by_cases h3 : (G.map (·.1)).Nodup <;> cases holdsB G s <;> simp [h1, h2, h3]
theorem turn_nil {w w' : World} (h : Turn [] w w') : Below w.heap.size w w' := h.below (by simp) (Nat.le_refl _)
set_option maxRecDepth 100000 in
set_option maxHeartbeats 4000000 in
theorem newS_no (A : Option Addr) (c : Nat) (L : List Gn) (s : Int) (B : Option Addr) (q : Nat) (v : List Int) (k : Int) (w : World) (hx : GArg w A L) (hn : (mayS (pns L) s v && widB k) = false) :
    Calls Try.prog 20 #[.agg #[.slice A L.length c, .int .i64 s], .slice B v.length q, .int .i64 k] w fun e w' => e = .returned (.tuple #[.pointer none, .int .i64 1]) ∧ Below w.heap.size w w' := by
  have HX := Lib.hid hx
  have B0 : Below w.heap.size w (w.alloc (.cells #[.slice A L.length c, .int .i64 s] 24)) := below_one (Below.refl _ _) _
  have W0 := Whole.new w 24 #[.slice A L.length c, .int .i64 s]
  by_cases hk : k < 1 ∨ 256 < k
  · have HNW := Lib.hid (fun W => hNew_no k W hk)
    have HB0 := Lib.hid B0
    clear hx hn B0 W0 hk
    go_enter Try.func20, Try.ntmps20
    go_wp2_with (go_at_call 31; refine (HNW.out _).mono ?_; rintro e w1 ⟨rfl, rfl⟩)
    go_ret2
    exact ⟨rfl, HB0.out⟩
  · obtain ⟨m, rfl⟩ : ∃ m : Nat, k = m := ⟨k.toNat, by omega⟩
    have hm1 : 1 ≤ m := by omega
    have hm2 : m ≤ 256 := by omega
    have hmay : (holdsB (pns L) s && (goB (pns L) v.length && decide ((idsG (pns L)).Nodup))) = false := by
      rw [goB_may] at hn
      rw [show widB (m : Int) = true from decide_eq_true ⟨by omega, by omega⟩, Bool.and_true] at hn
      exact hn
    have HNW := Lib.hid (fun W => hNew_yes m W hm1 hm2)
    have HHO := Lib.hid (fun W (h : GArg W A L) => hops_any A c L s W h)
    have HW0 := Lib.hid W0
    have HB0 := Lib.hid B0
    have HM := Lib.hid hmay
    clear hx hn B0 W0 hk hmay hm1 hm2
    go_enter Try.func20, Try.ntmps20
    go_upto_region 1 with fail
    obtain ⟨w0, ew0⟩ : ∃ w0, w.alloc (.cells #[.slice A L.length c, .int .i64 s] 24) = w0 := ⟨_, rfl⟩
    obtain ⟨g0, eg0⟩ : ∃ g0, w.heap.size = g0 := ⟨_, rfl⟩
    have HG0 := Lib.hid eg0
    rw [ew0] at HW0 HB0
    rw [eg0] at HW0
    rw [ew0, eg0]
    clear ew0 eg0
    have KX : Hid (∀ W, Below w0.heap.size w0 W → (W.cell? ⟨g0, 0, none⟩ = some (.slice A L.length c) ∧ W.cell? ⟨g0, 1, none⟩ = some (.int .i64 s)) ∧ Below w.heap.size w W ∧ GArg W A L) := Lib.hid (fun W h => by
      have z := HW0.out.below h HW0.out.lt
      have hW := HB0.out.trans (h.mono HB0.out.size)
      exact ⟨⟨z.cell 0, z.cell 1⟩, hW, HX.out.below hW⟩)
    go_wp2_with fail
    refine (HNW.out w0).mono ?_
    rintro e w1 ⟨b1, F1, rfl, hI1, hF1, t1⟩
    have HB1 := Lib.hid (turn_nil t1)
    dsimp only
    clear hI1 hF1 t1
    obtain ⟨⟨y0, y1⟩, _, hg1⟩ := KX.out w1 HB1.out
    have HC := Lib.hid (HHO.out w1 hg1)
    clear hg1
    cases hh : holdsB (pns L) s with
    | false =>
      rw [hh] at HC
      clear hh HM
      go_wp2_with (go_at_call 9; refine HC.out.mono ?_; rintro e w2 ⟨V, d, rfl, _, b2⟩)
      go_ret2
      exact ⟨rfl, (KX.out w2 (HB1.out.trans (b2.mono HB1.out.size))).2.1⟩
    | true =>
      have hM2 := HM.out
      rw [hh, Bool.true_and] at hM2
      have HHL := Lib.hid (holdsB_yes hh).1
      rw [hh] at HC
      have HM2 := Lib.hid hM2
      clear hh HM hM2
      go_wp2_with (go_at_call 9; refine HC.out.mono ?_; rintro e w2 ⟨V, d, rfl, _, b2⟩; have HB2 := Lib.hid (HB1.out.trans (b2.mono HB1.out.size)); clear b2 y0 y1; obtain ⟨⟨y0, y1⟩, hw2, hg2⟩ := KX.out w2 HB2.out)
      refine (placesByID_any A c L L.length rfl w2 hg2.rd (by have := HHL.out; rwa [pns_len] at this) hg2.ok).mono ?_
      rintro e w3 ⟨rfl, hP, b3⟩
      dsimp only
      have HB3 : Hid (Below w0.heap.size w0 w3) := Lib.hid (HB2.out.trans (b3.mono HB2.out.size))
      obtain ⟨pm, epm⟩ : ∃ pm, w2.heap.size = pm := ⟨_, rfl⟩
      rw [epm] at hP ⊢
      obtain ⟨ql, hlen, hq1, hq2⟩ := hP.len
      have hq1' : ql ≤ L.length := by have : (idsG (pns L)).length = L.length := by unfold idsG; rw [List.length_map, pns_len]
                                      omega
      have hq2' : ql = L.length ↔ (idsG (pns L)).Nodup := by rw [← hq2]; unfold idsG; rw [List.length_map, pns_len]
      clear y0 y1 hw2 hg2 b3 epm hq1 hq2 hP
      obtain ⟨⟨y0, y1⟩, hw3, hg3⟩ := KX.out w3 HB3.out
      by_cases hnd : ql = L.length
      · have hN := hq2'.1 hnd
        have hgo : goB (pns L) v.length = false := by have := HM2.out; rwa [decide_eq_true hN, Bool.and_true] at this
        have HGO := Lib.hid (allGoWith_any A B c q L L.length rfl v.length w3 hg3.rd (by have := hg3.sm.len; rwa [pns_len] at this))
        rw [hgo] at HGO
        subst hnd
        have e1 : decide ((L.length : Int) < (L.length : Int)) = false := decide_eq_false (by omega)
        clear hN hgo hq1' hq2' hw3 hg3
        go_wp2_with (go_at_call 33; refine HGO.out.mono ?_; rintro e w4 ⟨rfl, b4⟩)
        go_ret2
        exact ⟨rfl, (KX.out w4 (HB3.out.trans (b4.mono HB3.out.size))).2.1⟩
      · have e1n : decide (ql < L.length) = true := decide_eq_true (by omega)
        have e1l : ql < L.length := by omega
        have HW3 := Lib.hid hw3
        clear hq1' hq2' hw3 hg3 hnd
        go_wp2
        go_ret2
        exact ⟨rfl, HW3.out⟩
theorem set_none {w : World} {b g n : Nat} {ws : List Nat} (h : SetAt w b g n ws) (hz : ∀ m, has ws m = false) : SetIs w b g n (fun x => decide (x ∈ ([] : List Nat))) := ⟨ws, h, fun m => by rw [hz m]; simp⟩
/-- A search that was made. -/
def NewS (A : Option Addr) (c : Nat) (L : List Gn) (B : Option Addr) (q : Nat) (v : List Int) (m : Nat) (w : World) (e : Ending) (w' : World) : Prop :=
  ∃ b F, e = .returned (.tuple #[.pointer (some ⟨b, 0, none⟩), .int .i64 0]) ∧ SrAt ⟨pns L, v, m, A, c, B, q, w.heap.size⟩ w' b F ⟨[], [], []⟩ ∧ Below w.heap.size w w'
set_option maxRecDepth 100000 in
set_option maxHeartbeats 8000000 in
theorem newS_yes (A : Option Addr) (c : Nat) (L : List Gn) (s : Int) (B : Option Addr) (q : Nat) (v : List Int) (m : Nat) (w : World) (hx : GArg w A L) (hmay : mayS (pns L) s v = true) (hm1 : 1 ≤ m) (hm2 : m ≤ 256) :
    Calls Try.prog 20 #[.agg #[.slice A L.length c, .int .i64 s], .slice B v.length q, .int .i64 (m : Int)] w (NewS A c L B q v m w) := by
  have HX := Lib.hid hx
  have B0 : Below w.heap.size w (w.alloc (.cells #[.slice A L.length c, .int .i64 s] 24)) := below_one (Below.refl _ _) _
  have W0 := Whole.new w 24 #[.slice A L.length c, .int .i64 s]
  have hM := hmay
  rw [goB_may] at hM
  simp only [Bool.and_eq_true, decide_eq_true_eq] at hM
  obtain ⟨hh, hgo, hN⟩ := hM
  have HNW := Lib.hid (fun W => hNew_yes m W hm1 hm2)
  have HHO := Lib.hid (fun W (h : GArg W A L) => hops_any A c L s W h)
  have hn48 : (pns L).length ≤ 2048 := (holdsB_yes hh).1
  rw [hh] at HHO
  have HPL := Lib.hid (pns_len L)
  have hL48 : L.length ≤ 2048 := by rw [← HPL.out]; exact hn48
  have HW0 := Lib.hid W0
  have HB0 := Lib.hid B0
  have HND := Lib.hid hN
  have HGB := Lib.hid hgo
  clear hx B0 W0 hmay hh hgo hN hn48
  go_enter Try.func20, Try.ntmps20
  go_upto_region 1 with fail
  obtain ⟨w0, ew0⟩ : ∃ w0, w.alloc (.cells #[.slice A L.length c, .int .i64 s] 24) = w0 := ⟨_, rfl⟩
  obtain ⟨g0, eg0⟩ : ∃ g0, w.heap.size = g0 := ⟨_, rfl⟩
  have HG0 := Lib.hid eg0
  rw [ew0] at HW0 HB0
  rw [eg0] at HW0
  rw [ew0]
  rw [show (Value.pointer (some ⟨w.heap.size, 0, none⟩) : Value) = .pointer (some ⟨g0, 0, none⟩) by rw [eg0]]
  clear ew0 eg0
  have KX : Hid (∀ W, Below w0.heap.size w0 W → (W.cell? ⟨g0, 0, none⟩ = some (.slice A L.length c) ∧ W.cell? ⟨g0, 1, none⟩ = some (.int .i64 s)) ∧ Below w.heap.size w W ∧ GArg W A L) := Lib.hid (fun W h => by
    have z := HW0.out.below h HW0.out.lt
    have hW := HB0.out.trans (h.mono HB0.out.size)
    exact ⟨⟨z.cell 0, z.cell 1⟩, hW, HX.out.below hW⟩)
  go_wp2_with fail
  refine (HNW.out w0).mono ?_
  rintro e w1 ⟨hb, F1, rfl, hI1, hF1, t1⟩
  have HB1 := Lib.hid (turn_nil t1)
  have HI1 := Lib.hid hI1
  have HF1 := Lib.hid hF1
  dsimp only
  clear hI1 hF1 t1
  obtain ⟨⟨y0, y1⟩, _, hg1⟩ := KX.out w1 HB1.out
  have HC := Lib.hid (HHO.out w1 hg1)
  clear hg1
  go_wp2_with (go_at_call 9; refine HC.out.mono ?_; rintro e w2 ⟨V, d, rfl, _, b2⟩; have HB12 := Lib.hid b2; have HB2 := Lib.hid (HB1.out.trans (b2.mono HB1.out.size)); clear b2 y0 y1; obtain ⟨⟨y0, y1⟩, hw2, hg2⟩ := KX.out w2 HB2.out)
  refine (placesByID_any A c L L.length rfl w2 hg2.rd hL48 hg2.ok).mono ?_
  rintro e w3 ⟨rfl, hP, b3⟩
  dsimp only
  have HB3 : Hid (Below w0.heap.size w0 w3) := Lib.hid (HB2.out.trans (b3.mono HB2.out.size))
  have HB23 := Lib.hid b3
  obtain ⟨pm, epm⟩ : ∃ pm, w2.heap.size = pm := ⟨_, rfl⟩
  have HPM := Lib.hid epm
  rw [epm] at hP ⊢
  have HP3 := Lib.hid hP
  obtain ⟨ql, hlen, hq1, hq2⟩ := hP.len
  have hq2' : ql = L.length := by
    have := hq2.2 HND.out
    rw [this]; unfold idsG; rw [List.length_map, HPL.out]
  subst hq2'
  clear y0 y1 hw2 hg2 b3 epm hq1 hq2 hP
  obtain ⟨⟨y0, y1⟩, hw3, hg3⟩ := KX.out w3 HB3.out
  have HGO := Lib.hid (allGoWith_any A B c q L L.length rfl v.length w3 hg3.rd (by have := hg3.sm.len; rwa [HPL.out] at this))
  rw [HGB.out] at HGO
  have e1 : decide ((L.length : Int) < (L.length : Int)) = false := decide_eq_false (by omega)
  have HSN := Lib.hid (fun W => new_yes L.length hL48 W)
  clear hw3 hg3
  go_wp2_with (go_at_call 33; refine HGO.out.mono ?_; rintro e w4 ⟨rfl, b4⟩; have HB34 := Lib.hid b4; have HB4 := Lib.hid (HB3.out.trans (b4.mono HB3.out.size)); clear b4 y0 y1 hlen; obtain ⟨⟨y0, y1⟩, _, _⟩ := KX.out w4 HB4.out)
  refine (HSN.out w4).mono ?_
  rintro e w5 ⟨cb, cg, cs, rfl, hS5, hz5, hc5, hd5, t5⟩
  dsimp only
  have HB45 := Lib.hid (turn_nil t5)
  have HB5 : Hid (Below w0.heap.size w0 w5) := Lib.hid (HB4.out.trans (HB45.out.mono HB4.out.size))
  have HS5 := Lib.hid (set_none hS5 hz5)
  have HC5 := Lib.hid (⟨hc5, hd5⟩ : _ ∧ _)
  clear y0 y1 hS5 hz5 hc5 hd5 t5
  obtain ⟨⟨y0, y1⟩, _, _⟩ := KX.out w5 HB5.out
  go_wp2_with fail
  refine (HSN.out w5).mono ?_
  rintro e w6 ⟨kb, kg, ks, rfl, hS6, hz6, hc6, hd6, t6⟩
  dsimp only
  have HB56 := Lib.hid (turn_nil t6)
  have HB6 : Hid (Below w0.heap.size w0 w6) := Lib.hid (HB5.out.trans (HB56.out.mono HB5.out.size))
  have HS6 := Lib.hid (set_none hS6 hz6)
  have HC6 := Lib.hid (⟨hc6, hd6⟩ : _ ∧ _)
  clear y0 y1 hS6 hz6 hc6 hd6 t6
  obtain ⟨⟨y0, y1⟩, _, _⟩ := KX.out w6 HB6.out
  go_wp2
  go_ret2
  have hb0 := HB0.out.size
  have z01 := HB1.out.size
  have z12 := HB12.out.size
  have z23 := HB23.out.size
  have z34 := HB34.out.size
  have z45 := HB45.out.size
  have z56 := HB56.out.size
  have hpm : pm = w2.heap.size := HPM.out.symm
  have B67 : Below w6.heap.size w6 (w6.alloc (.cells #[.pointer (some ⟨hb, 0, none⟩), .slice A L.length c, .slice B v.length q, .map (some pm), .pointer (some ⟨cb, 0, none⟩), .pointer (some ⟨kb, 0, none⟩), .slice none 0 0] 63)) := below_one (Below.refl _ _) _
  have hI6 : HeapIs w6 hb F1 m [] := HI1.out.turn (Turn.of_below (((HB12.out.trans (HB23.out.mono z12)).trans ((HB34.out.trans (HB45.out.mono z34)).mono (by omega))).trans (HB56.out.mono (by omega)))) (by simp)
  have hP6 := HP3.out.turn (Turn.of_below ((HB34.out.trans (HB45.out.mono z34)).trans (HB56.out.mono (by omega)))) (by simp)
  have hS5' := HS5.out.turn (Turn.of_below HB56.out) (by simp) (by simp)
  have hl1 := HI1.out.lt
  have hl5 := HS5.out.le
  have hl6 := HS6.out.le
  have hp3 := HP3.out.lt
  refine ⟨w6.heap.size, Gr.fp ⟨w6.heap.size, pm, cb, cg, kb, kg, F1, []⟩, rfl, ⟨⟨w6.heap.size, pm, cb, cg, kb, kg, F1, []⟩, hb, none, 0, ⟨?_, ?_, ?_, ?_, ?_, own_nil_row _ _ _, rfl, ?_, ?_⟩, rfl, rfl⟩, HB0.out.trans ((HB6.out.trans (B67.mono HB6.out.size)).mono hb0)⟩
  · have := Whole.new w6 63 #[.pointer (some ⟨hb, 0, none⟩), .slice A L.length c, .slice B v.length q, .map (some pm), .pointer (some ⟨cb, 0, none⟩), .pointer (some ⟨kb, 0, none⟩), .slice none 0 0]
    show Whole _ _ _ #[.pointer (some ⟨hb, 0, none⟩), .slice A (pns L).length c, .slice B v.length q, .map (some pm), .pointer (some ⟨cb, 0, none⟩), .pointer (some ⟨kb, 0, none⟩), .slice none 0 0]
    rw [HPL.out]; exact this
  · exact hI6.turn (Turn.of_below B67) (by simp)
  · exact hP6.turn (Turn.of_below B67) (by simp)
  · show SetIs _ cb cg (pns L).length _
    rw [HPL.out]; exact hS5'.turn (Turn.of_below B67) (by simp) (by simp)
  · show SetIs _ kb kg (pns L).length _
    rw [HPL.out]; exact HS6.out.turn (Turn.of_below B67) (by simp) (by simp)
  · have key : ∀ i, i < 6 → ∀ f ∈ (⟨w6.heap.size, pm, cb, cg, kb, kg, F1, []⟩ : Gr).at i, ((i = 0 ∧ f = w6.heap.size) ∨ (i = 1 ∧ f = w2.heap.size) ∨ (i = 2 ∧ w4.heap.size ≤ f ∧ f < w5.heap.size) ∨ (i = 3 ∧ w5.heap.size ≤ f ∧ f < w6.heap.size) ∨ (i = 4 ∧ f < w1.heap.size)) := fun i hi f hf => by
      match i, hi with
      | 0, _ => simp only [Gr.at, List.mem_singleton] at hf; exact .inl ⟨rfl, hf⟩
      | 1, _ => simp only [Gr.at, List.mem_singleton] at hf; exact .inr (.inl ⟨rfl, hf.trans hpm⟩)
      | 2, _ =>
        simp only [Gr.at, List.mem_cons, List.not_mem_nil, or_false] at hf
        refine .inr (.inr (.inl ⟨rfl, ?_⟩))
        rcases hf with rfl | rfl
        · exact ⟨HC5.out.1, hl5.2.2.1⟩
        · exact ⟨HC5.out.2, hl5.2.2.2.1⟩
      | 3, _ =>
        simp only [Gr.at, List.mem_cons, List.not_mem_nil, or_false] at hf
        refine .inr (.inr (.inr (.inl ⟨rfl, ?_⟩)))
        rcases hf with rfl | rfl
        · exact ⟨HC6.out.1, hl6.2.2.1⟩
        · exact ⟨HC6.out.2, hl6.2.2.2.1⟩
      | 4, _ => exact .inr (.inr (.inr (.inr ⟨rfl, hl1 f hf⟩)))
      | 5, _ => simp [Gr.at] at hf
    have hp23 : w2.heap.size < w3.heap.size := by rw [← hpm]; exact hp3
    intro i j hi hj hij f h1 h2
    have k1 := key i hi f h1
    have k2 := key j hj f h2
    omega
  · intro i hi f hf
    match i, hi with
    | 0, _ => simp only [Gr.at, List.mem_singleton] at hf; subst hf; show w.heap.size ≤ _; omega
    | 1, _ => simp only [Gr.at, List.mem_singleton] at hf; subst hf; show w.heap.size ≤ _; omega
    | 2, _ =>
      simp only [Gr.at, List.mem_cons, List.not_mem_nil, or_false] at hf
      show w.heap.size ≤ _
      have := HC5.out
      rcases hf with rfl | rfl <;> omega
    | 3, _ =>
      simp only [Gr.at, List.mem_cons, List.not_mem_nil, or_false] at hf
      show w.heap.size ≤ _
      have := HC6.out
      rcases hf with rfl | rfl <;> omega
    | 4, _ => show w.heap.size ≤ _; have := HF1.out f hf; omega
    | 5, _ => simp [Gr.at] at hf
end Go.Proofs.Ytkdepoaajhggiaa
