/- Several texts in one. -/
import Derived.Test.YtkmngbkghgelfaaGreatFf
import Derived.Test.YtkmngbkghgelfaaGreatBs
import Derived.Deep.AppendLies
/- The walk of lookAt. -/
namespace Go.Proofs.YtkmngbkghgelfaaGreat
open Go.Shelf Go.RowKit Go.Lib
open Go.Sort hiding Below
set_option linter.unusedVariables false
set_option linter.unusedSimpArgs false
theorem Tryz.info3F : (Tryz.prog.info? 3).map (fun i => (i.zero, i.size, i.bytes)) = some (some (.int .i64 0), 1, 8) := by kernel_rfl
theorem Tryz.underlying57F : Tryz.prog.underlying 57 = some (.slice 3) := by kernel_rfl
/-- One place more was looked at: the row of the order has turned, and the struct's cell. -/
theorem SrS.ordSet {E : Se} {w w2 : World} {g : Gr} {hb : Nat} {oA : Option Addr} {oc : Nat} {t : Sr} {ol : List Nat} (h : SrS E w g hb oA oc t ol) {o : Obj} {gg gcap p : Nat} (hown : w2.ownsRow E.base 3 1 (.slice (some ⟨gg, 0, none⟩) (ol.length + 1) gcap) (ol.length + 1) ((natS ol).map (Value.int .i64) ++ [.int .i64 (p : Int)]))
    (hgrow : (w.alloc o).grownBy w2 (Value.slice oA ol.length oc).ownBlock) (hat : (Value.slice oA ol.length oc).ownBlock = some gg ∨ gg = (w.alloc o).heap.size) (hbs : E.base ≤ w.heap.size) :
    SrS E (w2.setCell ⟨g.b, 6, none⟩ (.slice (some ⟨gg, 0, none⟩) (ol.length + 1) gcap)) { g with O := [gg] } hb (some ⟨gg, 0, none⟩) gcap t (ol ++ [p]) ∧ Turn (g.b :: g.O) w (w2.setCell ⟨g.b, 6, none⟩ (.slice (some ⟨gg, 0, none⟩) (ol.length + 1) gcap)) ∧
      Whole w2 g.b 74 #[.pointer (some ⟨hb, 0, none⟩), .slice E.A E.G.length E.c, .slice E.B E.v.length E.q, .map (some g.pm), .pointer (some ⟨g.cb, 0, none⟩), .pointer (some ⟨g.kb, 0, none⟩), .slice oA ol.length oc] := by
  have k1 : Turn g.O w w2 := by
    have k0 : Turn (Value.slice oA ol.length oc).ownBlock.toList w w2 := ((Turn.refl [] w).alloc o |>.more (by simp)).trans (Turn.of_grown hgrow) (fun a ha => .inl ha)
    refine k0.more (fun a ha => ?_)
    rw [h.oo]
    exact (obl_own a).1 (by simpa using ha)
  have n : ∀ {j x}, j < 6 → j ≠ 5 → x ∈ g.at j → x ∉ g.O := fun hj hne hx hm => h.ap _ 5 hj (by decide) hne _ hx hm
  have hgg : gg ∈ g.O ∨ w.heap.size ≤ gg := by
    rcases hat with h1 | h1
    · left; rw [h.oo]; exact (obl_own gg).1 h1
    · right; rw [h1, World.size_alloc]; omega
  have hbgg : g.b ≠ gg := fun e => by
    rcases hgg with h1 | h1
    · exact n (j := 0) (by decide) (by decide) (by simp [Gr.at]) (e ▸ h1)
    · have := h.blk.lt; omega
  have W2 := h.blk.turn k1 (n (j := 0) (by decide) (by decide) (by simp [Gr.at]))
  have k2 : Turn [g.b] w2 (w2.setCell ⟨g.b, 6, none⟩ (.slice (some ⟨gg, 0, none⟩) (ol.length + 1) gcap)) := (Turn.refl _ _).setCell (.inl (by simp)) _
  have n2 : ∀ {j x}, j < 6 → j ≠ 0 → x ∈ g.at j → x ∉ [g.b] := fun hj hne hx hm => h.ap _ 0 hj (by decide) hne _ hx (by simpa [Gr.at] using hm)
  have e : ∀ i, i < 6 → i ≠ 5 → ({ g with O := [gg] } : Gr).at i = g.at i := fun i hi hne => by
    match i, hi, hne with
    | 0, _, _ => rfl
    | 1, _, _ => rfl
    | 2, _, _ => rfl
    | 3, _, _ => rfl
    | 4, _, _ => rfl
    | 5, _, h => exact absurd rfl h
  refine ⟨⟨?_, (h.heap.turn k1 (fun f hf => n (j := 4) (by decide) (by decide) hf)).turn k2 (fun f hf => n2 (j := 4) (by decide) (by decide) hf), (h.pl.turn k1 (n (j := 1) (by decide) (by decide) (by simp [Gr.at]))).turn k2 (n2 (j := 1) (by decide) (by decide) (by simp [Gr.at])),
    (h.cm.turn k1 (n (j := 2) (by decide) (by decide) (by simp [Gr.at])) (n (j := 2) (by decide) (by decide) (by simp [Gr.at]))).turn k2 (n2 (j := 2) (by decide) (by decide) (by simp [Gr.at])) (n2 (j := 2) (by decide) (by decide) (by simp [Gr.at])),
    (h.lk.turn k1 (n (j := 3) (by decide) (by decide) (by simp [Gr.at])) (n (j := 3) (by decide) (by decide) (by simp [Gr.at]))).turn k2 (n2 (j := 3) (by decide) (by decide) (by simp [Gr.at])) (n2 (j := 3) (by decide) (by decide) (by simp [Gr.at])),
    ?_, rfl, ap_set (i0 := 5) (N := w.heap.size) e (fun x hx => ?_) (by decide) h.lt h.ap, fun i hi f hf => ?_⟩, ?_, W2⟩
  · have := W2.set 6 (.slice (some ⟨gg, 0, none⟩) (ol.length + 1) gcap)
    show Whole _ g.b _ #[.pointer (some ⟨hb, 0, none⟩), .slice E.A E.G.length E.c, .slice E.B E.v.length E.q, .map (some g.pm), .pointer (some ⟨g.cb, 0, none⟩), .pointer (some ⟨g.kb, 0, none⟩), .slice (some ⟨gg, 0, none⟩) (ol ++ [p]).length gcap]
    rw [List.length_append]
    exact this
  · have h3 := own_turn hown k2 (fun f hf => by simp [Value.ownBlock] at hf; subst hf; simp; exact fun e => hbgg e.symm)
    rw [natS_snoc, List.map_append, List.length_append]
    exact h3
  · have hx' : x = gg := by simpa [Gr.at] using hx
    subst hx'
    exact hgg
  · by_cases hne : i = 5
    · subst hne
      have hf' : f = gg := by simpa [Gr.at] using hf
      subst hf'
      rcases hgg with h1 | h1
      · exact h.ge 5 (by decide) f h1
      · omega
    · rw [e i hi hne] at hf; exact h.ge i hi f hf
  · exact (k1.more (fun a ha => List.mem_cons_of_mem _ ha)).trans k2 (fun a ha => by rw [List.mem_singleton] at ha; subst ha; simp)
/-- Behind so many of a node's neighbours. -/
def Looks (E : Se) (b : Nat) (F : List Nat) (t1 : Sr) (w wr : World) : Prop := ∃ F', SrAt E wr b F' t1 ∧ Turn F w wr ∧ ∀ f ∈ F', f ∈ F ∨ w.heap.size ≤ f
theorem Looks.came {E : Se} {b : Nat} {F : List Nat} {t2 : Sr} {w wr w2 : World} {r : Bool} {e : Ending} {F1 : List Nat} (hT : Turn F w wr) (hF : ∀ f ∈ F1, f ∈ F ∨ w.heap.size ≤ f) (h : Came E b F1 t2 r wr e w2) : e = .returned (.bool r) ∧ Looks E b F t2 w w2 := by
  obtain ⟨h1, F', h2, h3, h4⟩ := h
  refine ⟨h1, F', h2, hT.trans h3 hF, fun f hf => ?_⟩
  rcases h4 f hf with h | h
  · exact hF f h
  · exact .inr (Nat.le_trans hT.size h)
theorem base_turn {E : Se} {w w' : World} {F : List Nat} (h : Turn F w w') (hF : ∀ f ∈ F, E.base ≤ f) (hb : E.base ≤ w.heap.size) : Below E.base w w' := h.below hF hb
set_option maxRecDepth 100000 in
set_option maxHeartbeats 8000000 in
theorem lookAt_any (E : Se) (L : List Gn) (s : Int) (w : World) (b : Nat) (F : List Nat) (t : Sr) (h : SrAt E w b F t) (he : SEnv E L s w) (ok : OkS E.G E.v E.m t) (p : Nat) (hpc : p ∈ t.cm) (hpo : p ∉ t.od) (hol : ∀ x ∈ E.G, x.2.2.length ≤ 20000) :
    Calls Tryz.prog 116 #[.pointer (some ⟨b, 0, none⟩), .int .i64 (p : Int)] w (Came E b F (lookP E.G E.v E.m t p) (chgL E.G E.v E.m ⟨t.ps, t.cm, t.od ++ [p]⟩ (outN E.G p)) w) := by
  have hp : p < E.G.length := ok.lt p hpc
  have hod : t.od.length < 2048 := by have := ok.room hpc hpo; have := he.may.ho.1; omega
  obtain ⟨g, hb, oA, oc, hS, rfl, rfl⟩ := h
  have hlen : E.G.length = L.length := by rw [he.eG, pns_len]
  have ok1 := ok.look1 hpc hpo
  have HOK := Lib.hid ok1
  have HOUT := Lib.hid (outN_lt he.may.ho hp)
  obtain ⟨i0, hi0, hz0, hz1, hz2⟩ := info_parts Tryz.info3F
  have c5 : w.cell? ⟨g.b, 5, none⟩ = some (.pointer (some ⟨g.kb, 0, none⟩)) := hS.blk.cell 5
  have HA := Lib.hid (add_any g.kb g.kg E.G.length _ (p : Int) w hS.lk)
  have HP : Hid (∀ x, plus E.G.length (fun x => decide (x ∈ t.od)) (p : Int) x = decide (x ∈ t.od ++ [p])) := Lib.hid (fun x => by
    rw [plus_in hp]
    by_cases h : x = p <;> by_cases h3 : x ∈ t.od <;> simp [h, h3])
  have HS := Lib.hid hS
  have HE := Lib.hid he
  have hbs := he.bs
  have HG1 := Lib.hid (hS.ge 3 (by decide) g.kg (by simp [Gr.at]))
  have HGE := Lib.hid (fun f hf => (hS.fpt f hf).1)
  have HNL := Lib.hid (natS_len t.od)
  unfold lookP
  obtain ⟨t1, et1⟩ : ∃ t1, (⟨t.ps, t.cm, t.od ++ [p]⟩ : Sr) = t1 := ⟨_, rfl⟩
  have HT1 := Lib.hid et1
  rw [et1] at HOK ⊢
  obtain ⟨bb, off, id, a1, c1, v', a2, c2, o, hA, hBb, h1, h2, h3, hr1, hr2, hv⟩ := he.rd.at_ (i := p) (by omega)
  have hpa := pns_at hv.out
  have hna : nAt E.G p = (id, v', o) := by rw [he.eG]; exact nAt_get hpa
  have HON : Hid (outN E.G p = o.map Int.toNat) := Lib.hid (by unfold outN outAt; rw [hna])
  have hol2 : o.length ≤ 20000 := by have := hol _ (nAt_mem hp); rwa [hna] at this
  have HOR : Hid (∀ x ∈ o, 0 ≤ x ∧ x < (E.G.length : Int)) := Lib.hid (fun x hx => he.may.ho.out hp (by unfold outAt; rw [hna]; exact hx))
  have HRD : Hid (∀ W, Below E.base w W → W.cell? ⟨bb, off + p * 3 + 2, none⟩ = some (.slice a2 o.length c2) ∧ Rd .i64 W E.base a2 o ∧ SEnv E L s W) := Lib.hid (fun W k =>
    ⟨(k.cell (p := ⟨bb, off + p * 3 + 2, none⟩) hBb).trans h3, hr2.below k, HE.out.below k⟩)
  have x1 : (0 : Int) ≤ (p : Int) := by omega
  have x2 : (p : Int) < (E.G.length : Int) := by omega
  have HAA := Lib.hid hA
  clear hS he ok ok1 hlen hpc hpo hol et1 hv hpa hna h1 h2 h3 hr1 hr2 hA hp
  go_enter Tryz.func116, Tryz.ntmps116
  go_wp2_with fail
  refine HA.out.mono ?_
  rintro e w1 ⟨rfl, hset, tu⟩
  dsimp only
  have B1 : Below E.base w w1 := tu.below (by simp; exact HG1.out) hbs
  have HB1 := Lib.hid B1
  have S1 := HS.out.lkSet tu hset HP.out
  have HS1 := Lib.hid S1
  have HT01 := Lib.hid tu
  have hbs1 : E.base ≤ w1.heap.size := Nat.le_trans hbs B1.size
  have y6 : w1.cell? ⟨g.b, 6, none⟩ = some (.slice oA t.od.length oc) := S1.blk.cell 6
  have hod1 := S1.od
  clear c5 tu hset B1 S1
  go_upto_region 3 with (at_builtin; refine wpList_append_lies _ rfl (.tmp 18) (.tmp 20) 57 rfl E.base 3 i0 (.int .i64 0) 1 8 Tryz.underlying57F hi0 hz0 hz1 hz2 rfl (by omega) _ t.od.length ((natS t.od).map (Value.int .i64)) rfl (own_below hod1 (below_one (Below.refl _ _) _)) ⟨w1.heap.size, 0, none⟩ 1 1 [.int .i64 (p : Int)] rfl rfl (World.news_of_block (cs := #[.int .i64 (p : Int)]) (t := 3) (fr := (0, 0)) (heap_alloc_new w1 _)) (by simp [Value.oneCell']) (by omega) (by unfold maxLen; omega) (by omega) (by rw [World.size_alloc]; omega) (w1.heap.size + 1) (by simp) ?_; intro gg gcap w2 hown2 hgrow2 hat2 hlt2; have HO2 := Lib.hid (HS1.out.ordSet hown2 hgrow2 (by rw [World.size_alloc]; exact hat2) hbs1); have hat3 : (Value.slice oA t.od.length oc).ownBlock = some gg ∨ gg = w1.heap.size + 1 := hat2; have k6 : w2.cell? ⟨g.b, 6, none⟩ = some (.slice oA t.od.length oc) := HO2.out.2.2.cell 6; have f6 : w2.frozen? ⟨g.b, 6, none⟩ = false := HO2.out.2.2.frozen 6; clear hown2 hgrow2 hat2 hlt2)
  obtain ⟨w3, ew3⟩ : ∃ w3, w2.setCell ⟨g.b, 6, none⟩ (.slice (some ⟨gg, 0, none⟩) (t.od.length + 1) gcap) = w3 := ⟨_, rfl⟩
  have HO3 := HO2.out
  rw [ew3] at HO3 ⊢
  obtain ⟨S3, T13, _⟩ := HO3
  have HL : Hid (Looks E g.b g.fp t1 w w3) := Lib.hid ⟨Gr.fp { g with O := [gg] }, ⟨{ g with O := [gg] }, hb, some ⟨gg, 0, none⟩, gcap, by rw [← HT1.out]; exact S3, rfl, rfl⟩, by
    refine (HT01.out.more (fun a ha => ?_)).trans (T13.more (fun a ha => ?_)) (fun a ha => .inl ha)
    · rw [List.mem_singleton] at ha; subst ha; exact Gr.mem.2 ⟨3, by decide, by simp [Gr.at]⟩
    · rcases List.mem_cons.1 ha with rfl | h1
      · exact Gr.mem.2 ⟨0, by decide, by simp [Gr.at]⟩
      · exact Gr.mem.2 ⟨5, by decide, h1⟩, fun f hf => by
    obtain ⟨i, hi, hf⟩ := Gr.mem.1 hf
    by_cases hne : i = 5
    · subst hne
      have hf' : f = gg := by simpa [Gr.at] using hf
      subst hf'
      rcases hat3 with h1 | h1
      · refine .inl (Gr.mem.2 ⟨5, by decide, ?_⟩)
        show f ∈ g.O
        rw [HS.out.oo]
        exact (obl_own f).1 h1
      · have := HT01.out.size
        exact .inr (by omega)
    · refine .inl (Gr.mem.2 ⟨i, hi, ?_⟩)
      match i, hi, hne with
      | 0, _, _ => exact hf
      | 1, _, _ => exact hf
      | 2, _, _ => exact hf
      | 3, _, _ => exact hf
      | 4, _, _ => exact hf
      | 5, _, h => exact absurd rfl h⟩
  have HB3 : Hid (Below E.base w w3) := Lib.hid (by
    obtain ⟨F', h1, h2, h3⟩ := HL.out
    exact base_turn h2 HGE.out hbs)
  have y1 : w3.cell? ⟨g.b, 1, none⟩ = some (.slice (some ⟨bb, off, none⟩) E.G.length E.c) := by rw [← HAA.out]; exact S3.blk.cell 1
  obtain ⟨y2, yr, _⟩ := HRD.out w3 HB3.out
  clear S3 T13 ew3 k6 f6 HO2 y6 hod1 hat3 yr
  go_wp2
  go_loopw [5, 7, 33] (fun ch _ i wr => ∃ k : Nat, k ≤ o.length ∧ i = .int .i64 k ∧ ch = .bool (chgL E.G E.v E.m t1 ((outN E.G p).take k)) ∧ Hid (Looks E g.b g.fp (((outN E.G p).take k).foldl (comeP E.G E.v E.m) t1) w wr)) (fun _ _ i _ => o.length - (intOf i).toNat)
  case atStart => exact ⟨0, by omega, rfl, rfl, HL⟩
  case round =>
    clear HL HB3 y1 y2
    obtain ⟨k, hk, rfl, rfl, HL⟩ := hrel
    by_cases hlt : k < o.length
    · have e1 : decide ((k : Int) < (o.length : Int)) = true := decide_eq_true (by omega)
      obtain ⟨F', hSA, hT, hF⟩ := HL.out
      have hBw := base_turn hT HGE.out hbs
      obtain ⟨_, yr, hE⟩ := HRD.out wr hBw
      obtain ⟨ob, oo2, x, rfl, hOb, hox, hxv⟩ := yr.at_ hlt
      have hxm : o[k]? = some x := by rw [← hxv.out, List.getElem?_eq_getElem hlt]; rfl
      have hxr := HOR.out x (List.mem_of_getElem? hxm)
      obtain ⟨xn, rfl⟩ : ∃ xn : Nat, x = xn := ⟨x.toNat, by omega⟩
      have hxn : xn < E.G.length := by omega
      have HTK : Hid ((outN E.G p).take (k + 1) = (outN E.G p).take k ++ [xn]) := Lib.hid (by
        rw [List.take_add_one, HON.out, List.getElem?_map, hxm]; rfl)
      have hok : OkS E.G E.v E.m (((outN E.G p).take k).foldl (comeP E.G E.v E.m) t1) := OkS.comes (s := s) hE.may.nd hE.m1 _ HOK.out (fun q hq => HOUT.out q (List.mem_of_mem_take hq))
      have HC := Lib.hid ((come_any E L s wr g.b F' _ hSA hE hok xn hxn).mono (fun e w' hh => Looks.came hT hF hh))
      have HCH : Hid (chgL E.G E.v E.m t1 ((outN E.G p).take (k + 1)) = (chgL E.G E.v E.m t1 ((outN E.G p).take k) || chgP E.G E.v E.m (((outN E.G p).take k).foldl (comeP E.G E.v E.m) t1) xn)) := Lib.hid (by rw [HTK.out, chgL_snoc])
      have HFO : Hid (((outN E.G p).take (k + 1)).foldl (comeP E.G E.v E.m) t1 = comeP E.G E.v E.m (((outN E.G p).take k).foldl (comeP E.G E.v E.m) t1) xn) := Lib.hid (by rw [HTK.out, List.foldl_append]; rfl)
      have x3 : (0 : Int) ≤ (k : Int) := by omega
      have x4 : (k : Int) < (o.length : Int) := by omega
      obtain ⟨cb, ecb⟩ : ∃ cb, chgL E.G E.v E.m t1 ((outN E.G p).take k) = cb := ⟨_, rfl⟩
      rw [ecb] at HCH ⊢
      clear hSA hT hF hBw hE hxv hxm hxr hxn hok ecb HL
      cases hr : chgP E.G E.v E.m (((outN E.G p).take k).foldl (comeP E.G E.v E.m) t1) xn with
      | true =>
        rw [hr] at HC HCH
        rw [Bool.or_true] at HCH
        clear hr
        go_wp2_with (go_at_call 25; refine HC.out.mono ?_; rintro e w4 ⟨rfl, hL4⟩; have HL4 := Lib.hid hL4; clear hL4)
        go_roundw
        case rel => exact ⟨k + 1, by omega, by go_num, by rw [HCH.out], by rw [HFO.out]; exact HL4⟩
        case measure => simp [intOf]; omega
      | false =>
        rw [hr] at HC HCH
        rw [Bool.or_false] at HCH
        clear hr
        go_wp2_with (go_at_call 25; refine HC.out.mono ?_; rintro e w4 ⟨rfl, hL4⟩; have HL4 := Lib.hid hL4; clear hL4)
        go_roundw
        case rel => exact ⟨k + 1, by omega, by go_num, by rw [HCH.out], by rw [HFO.out]; exact HL4⟩
        case measure => simp [intOf]; omega
    · obtain rfl : k = o.length := by omega
      have e1 : decide ((o.length : Int) < (o.length : Int)) = false := decide_eq_false (by omega)
      have HTK : Hid ((outN E.G p).take o.length = outN E.G p) := Lib.hid (List.take_of_length_le (by rw [HON.out, List.length_map]; exact Nat.le_refl _))
      rw [HTK.out] at HL ⊢
      go_wp2
      go_ret
      exact ⟨rfl, HL.out⟩
end Go.Proofs.YtkmngbkghgelfaaGreat
/- The walk of Exact. -/
namespace Go.Proofs.YtkmngbkghgelfaaGreat
open Go.Shelf Go.RowKit Go.Lib
open Go.Sort hiding Below
set_option linter.unusedVariables false
set_option linter.unusedSimpArgs false
/-- An answer that is a list of hits, and an errno. -/
def HAns (w : World) (xs : HL) (E : Int) (e : Ending) (w' : World) : Prop :=
  ∃ A c, e = .returned (.tuple #[.slice A xs.length c, .int .i64 E]) ∧ w'.ownsRow w.heap.size 78 2 (.slice A xs.length c) xs.length (flatH xs) ∧ Below w.heap.size w w' ∧ (E = 0 → ∃ g, A = some ⟨g, 0, none⟩)
theorem HAns.nil (w : World) (E : Int) (hE : E ≠ 0) {w' : World} (h : Below w.heap.size w w') : HAns w [] E (.returned (.tuple #[.slice none 0 0, .int .i64 E])) w' := ⟨none, 0, rfl, ⟨rfl, .inl ⟨rfl, rfl⟩⟩, h, fun e => absurd e hE⟩
theorem whole_rowH {w : World} {g base n : Nat} {t : TypeId} {xs : HL} (h : Whole w g t (flatH xs).toArray) (hn : n ≤ xs.length) (hb : base ≤ g) (hm : xs.length ≤ 9223372036854775807) : w.ownsRow base t 2 (.slice (some ⟨g, 0, none⟩) n xs.length) n (flatH (xs.take n)) := by
  refine ⟨by rw [flatH_len, List.length_take]; omega, .inr ⟨g, xs.length, (flatH xs).toArray, rfl, hb, h, hn, hm, by simp [flatH_len], ?_⟩⟩
  rw [List.toList_toArray]
  conv => lhs; rw [← List.take_append_drop n xs, flatH_app]
  rw [List.take_left']
  rw [flatH_len, List.length_take]; omega
theorem widB_nat {k : Int} (h : widB k = true) : 1 ≤ k.toNat ∧ k.toNat ≤ 256 ∧ ((k.toNat : Nat) : Int) = k := by
  have := of_decide_eq_true h; omega
theorem exactB_eq (G : List Pn) (s : Int) (v : List Int) (k : Int) : exactB G s v k = (mayS G s v && widB k) := rfl
/-- Behind so many nodes that came. -/
def Comes (E : Se) (b : Nat) (k : Nat) (w wr : World) : Prop := ∃ F, SrAt E wr b F ((List.range k).foldl (comeP E.G E.v E.m) ⟨[], [], []⟩) ∧ Below E.base w wr
set_option maxRecDepth 100000 in
set_option maxHeartbeats 8000000 in
theorem exact_any (A : Option Addr) (c : Nat) (L : List Gn) (s : Int) (B : Option Addr) (q : Nat) (v : List Int) (k : Int) (w : World) (hx : GArg w A L) (hv : Rd .i8 w w.heap.size B v) (bv : ∀ n ∈ v, -128 ≤ n ∧ n ≤ 127) :
    Calls Tryz.prog 9 #[.agg #[.slice A L.length c, .int .i64 s], .slice B v.length q, .int .i64 k] w (HAns w (exactH (pns L) s v k) (errG (exactB (pns L) s v k))) := by
  have HX := Lib.hid hx
  have B0 : Below w.heap.size w (w.alloc (.cells #[.slice A L.length c, .int .i64 s] 24)) := below_one (Below.refl _ _) _
  have HW0 := Lib.hid (Whole.new w 24 #[.slice A L.length c, .int .i64 s])
  have HB0 := Lib.hid B0
  have HVV := Lib.hid hv
  have HBV := Lib.hid bv
  cases hB : exactB (pns L) s v k with
  | false =>
    have e1 : exactH (pns L) s v k = [] := by unfold exactH; rw [hB]; rfl
    have HNS := Lib.hid (fun W (h : GArg W A L) => newS_no A c L s B q v k W h hB)
    rw [e1, show errG false = 1 from rfl]
    clear hx hv bv B0 hB e1
    go_enter Tryz.func9, Tryz.ntmps9
    go_upto_region 1 with fail
    obtain ⟨w0, ew0⟩ : ∃ w0, w.alloc (.cells #[.slice A L.length c, .int .i64 s] 24) = w0 := ⟨_, rfl⟩
    rw [ew0] at HW0 HB0 ⊢
    have y0 := HW0.out.cell 0
    have y1 := HW0.out.cell 1
    clear ew0
    go_wp2_with fail
    refine (HNS.out w0 (HX.out.below HB0.out)).mono ?_
    rintro e w1 ⟨rfl, b1⟩
    dsimp only
    clear y0 y1
    go_wp2
    go_ret2
    exact HAns.nil _ _ (by decide) (HB0.out.trans (b1.mono HB0.out.size))
  | true =>
    have hB2 := hB
    rw [exactB_eq, Bool.and_eq_true] at hB2
    obtain ⟨hmay, hw⟩ := hB2
    obtain ⟨m, hm, hm1, hm2⟩ : ∃ m : Nat, k = m ∧ 1 ≤ m ∧ m ≤ 256 := by
      obtain ⟨h1, h2, h3⟩ := widB_nat hw
      exact ⟨k.toNat, h3.symm, h1, h2⟩
    subst hm
    have HMS := Lib.hid (mayS_yes hmay)
    have HEX : Hid (exactH (pns L) s v (m : Int) = (srt (hlP (pns L) v (List.range (pns L).length))).take m) := Lib.hid (by unfold exactH; rw [hB]; rfl)
    have HNS := Lib.hid (fun W (h : GArg W A L) => newS_yes A c L s B q v m W h hmay hm1 hm2)
    have HPL := Lib.hid (pns_len L)
    have hL48 : L.length ≤ 2048 := by rw [← HPL.out]; exact HMS.out.ho.1
    have HM1 := Lib.hid hm1
    have HM2 := Lib.hid hm2
    obtain ⟨ys, eys⟩ : ∃ ys, exactH (pns L) s v (m : Int) = ys := ⟨_, rfl⟩
    rw [eys] at HEX
    rw [show errG true = 0 from rfl, eys]
    clear eys hx hv bv B0 hB hmay hw hm1 hm2
    go_enter Tryz.func9, Tryz.ntmps9
    go_upto_region 1 with fail
    obtain ⟨w0, ew0⟩ : ∃ w0, w.alloc (.cells #[.slice A L.length c, .int .i64 s] 24) = w0 := ⟨_, rfl⟩
    obtain ⟨g0, eg0⟩ : ∃ g0, w.heap.size = g0 := ⟨_, rfl⟩
    rw [ew0] at HW0 HB0 ⊢
    have HGG := Lib.hid eg0
    rw [eg0] at HW0
    rw [show (Value.pointer (some ⟨w.heap.size, 0, none⟩) : Value) = .pointer (some ⟨g0, 0, none⟩) by rw [eg0]]
    have y0 := HW0.out.cell 0
    have y1 := HW0.out.cell 1
    clear ew0 eg0
    go_wp2_with fail
    refine (HNS.out w0 (HX.out.below HB0.out)).mono ?_
    rintro e w1 ⟨b, F, rfl, hS, b1⟩
    dsimp only
    have HE : Hid (∀ W, Below w0.heap.size w0 W → SEnv ⟨pns L, v, m, A, c, B, q, w0.heap.size⟩ L s W) := Lib.hid (fun W h =>
      ⟨(HX.out.below HB0.out).rd.below h, ((HVV.out.below HB0.out).more HB0.out.size).below h, rfl, HMS.out, HX.out.ok, HBV.out, HM1.out, HM2.out, h.size⟩)
    have HCM : Hid (Comes ⟨pns L, v, m, A, c, B, q, w0.heap.size⟩ b 0 w0 w1) := Lib.hid ⟨F, hS, b1⟩
    have z1 := (HW0.out.below b1 HW0.out.lt).cell 0
    clear y0 y1 hS b1
    go_wp2
    go_loopw [10, 24] (fun _ i wr => ∃ j : Nat, j ≤ L.length ∧ i = .int .i64 j ∧ Hid (Comes ⟨pns L, v, m, A, c, B, q, w0.heap.size⟩ b j w0 wr)) (fun _ i _ => L.length - (intOf i).toNat)
    case atStart => exact ⟨0, by omega, rfl, HCM⟩
    case round =>
      clear HCM z1
      obtain ⟨j, hj, rfl, HCM⟩ := hrel
      by_cases hlt : j < L.length
      · have e1 : decide ((j : Int) < (L.length : Int)) = true := decide_eq_true (by omega)
        obtain ⟨F', hS, hBw⟩ := HCM.out
        have hok : OkS (pns L) v m ((List.range j).foldl (comeP (pns L) v m) ⟨[], [], []⟩) := OkS.comes (s := s) HMS.out.nd HM1.out _ (OkS.nil _ _ _) (fun p hp => by have := List.mem_range.1 hp; rw [HPL.out]; omega)
        have HC : Hid (Calls Tryz.prog 25 #[.pointer (some ⟨b, 0, none⟩), .int .i64 (j : Int)] wr fun e w' => (∃ r, e = .returned (.bool r)) ∧ Comes ⟨pns L, v, m, A, c, B, q, w0.heap.size⟩ b (j + 1) w0 w') := Lib.hid ((come_any _ L s wr b F' _ hS (HE.out wr hBw) hok j (by show j < (pns L).length; rw [HPL.out]; exact hlt)).mono (fun e w' hh => by
          obtain ⟨h1, F2, h2, h3, h4⟩ := hh
          refine ⟨⟨_, h1⟩, F2, ?_, hBw.trans (h3.below (fun f hf => (hS.fpt f hf).1) hBw.size)⟩
          show SrAt _ w' b F2 ((List.range (j + 1)).foldl (comeP (pns L) v m) ⟨[], [], []⟩)
          rw [List.range_succ, List.foldl_append]
          exact h2))
        clear hS hBw hok HCM
        go_wp2_with (go_at_call 25; refine HC.out.mono ?_; rintro e w4 ⟨⟨r, rfl⟩, hL4⟩; have HL4 := Lib.hid hL4; clear hL4)
        go_roundw
        case rel => exact ⟨j + 1, by omega, by go_num, HL4⟩
        case measure => simp [intOf]; omega
      · obtain rfl : j = L.length := by omega
        have e1 : decide ((L.length : Int) < (L.length : Int)) = false := decide_eq_false (by omega)
        obtain ⟨F', ⟨g, hb, oA, oc, hS, hgb, hF⟩, hBw⟩ := HCM.out
        have hall := (all_come (G := pns L) (v := v) HMS.out.nd HM1.out L.length (by rw [HPL.out]; exact Nat.le_refl _)).2
        have hhp : HeapIs wr hb g.FH m (hlP (pns L) v ((List.range L.length).foldl (comeP (pns L) v m) ⟨[], [], []⟩).ps) := hS.heap
        rw [hall] at hhp
        subst hgb
        have y0 : wr.cell? ⟨g.b, 0, none⟩ = some (.pointer (some ⟨hb, 0, none⟩)) := hS.blk.cell 0
        have HH := Lib.hid (hHits_any hb g.FH m _ wr hhp)
        have HLE : Hid (((srt (hlP (pns L) v (List.range L.length))).take m).length ≤ 256) := Lib.hid (by rw [List.length_take]; have := HM2.out; omega)
        have HBW := Lib.hid hBw
        rw [HPL.out] at HEX
        have hex := HEX.out
        rw [← hex] at HH HLE
        clear hex hS hF hBw hall hhp HCM
        go_wp2_with (go_at_call 26; refine HH.out.mono ?_; rintro e w5 ⟨gg, rfl, hW5, hg5, t5⟩)
        go_ret2
        have hs0 := HB0.out.size
        have hsw := HBW.out.size
        refine ⟨some ⟨gg, 0, none⟩, ys.length, rfl, ?_, HB0.out.trans ((HBW.out.trans ((turn_nil t5).mono hsw)).mono hs0), fun _ => ⟨gg, rfl⟩⟩
        have := whole_rowH (base := w.heap.size) (n := ys.length) hW5 (Nat.le_refl _) (by omega) (by have := HLE.out; omega)
        rwa [List.take_of_length_le (Nat.le_refl _)] at this
end Go.Proofs.YtkmngbkghgelfaaGreat
