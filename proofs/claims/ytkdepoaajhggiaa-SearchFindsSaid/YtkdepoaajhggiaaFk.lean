/- The walk of lookAround. -/
import Derived.Test.YtkdepoaajhggiaaFj
import Derived.ScopeJumps
import Derived.WalkMore
import Derived.Laws.EntriesVeiled
namespace Go.Proofs.Ytkdepoaajhggiaa
open Go.Shelf Go.RowKit Go.Lib
open Go.Sort hiding Below
set_option linter.unusedVariables false
set_option linter.unusedSimpArgs false
attribute [local go_sem] Oper.semAt_some
/-- A function's marks for its loops over iterators, none of which defers. -/
def markF (D : Nat) : Deferred := { target := .collected D, args := #[] }
structure MarksF (w : World) (base : Nat) (Ds : List Nat) : Prop where
  nodup : Ds.Nodup
  at_ : ∀ D ∈ Ds, base ≤ D ∧ w.heap[D]? = some (.deferred (some []))
theorem MarksF.nil (w : World) (base : Nat) : MarksF w base [] := ⟨List.nodup_nil, fun D h => by cases h⟩
theorem MarksF.lt {w : World} {base : Nat} {Ds : List Nat} (h : MarksF w base Ds) : ∀ D ∈ Ds, D < w.heap.size := fun D hD => (Array.getElem?_eq_some_iff.1 (h.at_ D hD).2).1
theorem leaves_marksF {F : Fence} {n : Nat} {P : Program} {fn : Func} {tmps : Array Value} {R : Ending → World → Prop} {base : Nat} {v : Value} (hres : ∀ W, (results fn tmps).run P W = .ok v W)
    (hR : ∀ W D, base ≤ D → W.heap[D]? = some (.deferred (some [])) → R (.returned v) W → R (.returned v) (W.putObj D (.deferred none))) :
    ∀ (Ds : List Nat) (W : World), MarksF W base Ds → R (.returned v) W → LeavesInM F n P fn tmps R (Ds.map markF) .returning W
  | [], W, _, h => ⟨v, hres W, h⟩
  | D :: Ds, W, hM, h => by
    have hD := hM.at_ D (List.mem_cons_self)
    refine ⟨by simp, .inl ⟨D, _, rfl, run_takeDeferred hD.2, leaves_marksF hres hR Ds _ ⟨(List.nodup_cons.1 hM.nodup).2, fun E hE => ⟨(hM.at_ E (List.mem_cons_of_mem _ hE)).1, ?_⟩⟩ (hR W D hD.1 hD.2 h)⟩⟩
    have hne : E ≠ D := fun e => (List.nodup_cons.1 hM.nodup).1 (e ▸ hE)
    exact (World.putObj_heap_other hne).trans (hM.at_ E (List.mem_cons_of_mem _ hE)).2
/-- A search's blocks are cells or maps. -/
theorem SrS.obj {E : Se} {w : World} {g : Gr} {hb : Nat} {oA : Option Addr} {oc : Nat} {t : Sr} {ol : List Nat} (h : SrS E w g hb oA oc t ol) : ∀ f ∈ g.fp, (∃ cs t fr, w.heap[f]? = some (.cells cs t fr)) ∨ ∃ es c, w.heap[f]? = some (.map es c) := fun f hf => by
  obtain ⟨i, hi, hf⟩ := Gr.mem.1 hf
  have hrow : ∀ {base n size : Nat} {e : TypeId} {v : Value} {xs : List Value}, w.ownsRow base e size v n xs → v.ownBlock = some f → ∃ cs t fr, w.heap[f]? = some (.cells cs t fr) := fun {base n size e v xs} ho hv => by
    rcases ho.2 with ⟨rfl, _⟩ | ⟨g', cap, cur, rfl, _, hg, _⟩
    · simp [Value.ownBlock] at hv
    · simp [Value.ownBlock] at hv
      subst hv
      exact ⟨_, _, _, hg⟩
  match i, hi with
  | 0, _ => simp only [Gr.at, List.mem_singleton] at hf; subst hf; exact .inl ⟨_, _, _, h.blk⟩
  | 1, _ => simp only [Gr.at, List.mem_singleton] at hf; subst hf; exact .inr h.pl.obj
  | 2, _ =>
    obtain ⟨ws, h1, _⟩ := h.cm
    simp only [Gr.at, List.mem_cons, List.not_mem_nil, or_false] at hf
    rcases hf with rfl | rfl
    · exact .inl ⟨_, _, _, h1.blk⟩
    · exact .inl ⟨_, _, _, h1.row⟩
  | 3, _ =>
    obtain ⟨ws, h1, _⟩ := h.lk
    simp only [Gr.at, List.mem_cons, List.not_mem_nil, or_false] at hf
    rcases hf with rfl | rfl
    · exact .inl ⟨_, _, _, h1.blk⟩
    · exact .inl ⟨_, _, _, h1.row⟩
  | 4, _ =>
    have hf' : f ∈ g.FH := hf
    obtain ⟨fm, v, n, L, h1, h2, _⟩ := h.heap
    rw [h2] at hf'
    simp only [foot, List.mem_cons, Option.mem_toList] at hf'
    rcases hf' with rfl | rfl | hf'
    · exact .inl ⟨_, _, _, h1.at_.blk⟩
    · obtain ⟨D, ⟨es, clock, hm, _⟩, _⟩ := h1.map
      exact .inr ⟨es, clock, hm⟩
    · exact .inl (hrow h1.at_.row hf')
  | 5, _ =>
    have hf' : f ∈ g.O := hf
    rw [h.oo] at hf'
    exact .inl (hrow h.od ((obl_own f).2 hf'))
theorem SrAt.off {E : Se} {w : World} {b : Nat} {F : List Nat} {t : Sr} (h : SrAt E w b F t) {D : Nat} {x : Option (List Deferred)} (hD : w.heap[D]? = some (.deferred x)) : D ∉ F := fun hm => by
  obtain ⟨g, hb, oA, oc, h1, h2, rfl⟩ := h
  rcases h1.obj D hm with ⟨cs, t, fr, h3⟩ | ⟨es, c, h3⟩ <;> rw [h3] at hD <;> cases hD
theorem turn_put (W : World) (l : Nat) (o' : Obj) : Turn [l] W (W.putObj l o') := Turn.of_grown (r := some l) (grownBy_putObj' W l o')
theorem waiting_any (b : Nat) (w : World) : Calls Try.prog 37 #[.pointer (some ⟨b, 0, none⟩)] w fun e w' => e = .returned (.func (.func 52) #[] #[.pointer (some ⟨w.heap.size, 0, none⟩)]) ∧ w' = w.alloc (.cells #[.pointer (some ⟨b, 0, none⟩)] 54) := by
  go_enter Try.func37, Try.ntmps37
  go_wp2
  go_ret
  exact ⟨rfl, rfl⟩
theorem wp_scope_label {P : Program} {a : Act} {w : World} {Q : Exit → Act → World → Prop} {rest : Code} {l : Nat} (J : Act → World → Prop) (μ : Act → World → Nat) (hJ : J a w)
    (pass : ∀ a w, J a w → rest.wp P (Exit.jump l (fun a' w' => J a' w' ∧ μ a' w' < μ a w) Q) a w) : (Code.scope (.seq (.label l) rest)).wp P Q a w := by
  refine wp_scope_jumps (rest := .seq .skip rest) l J μ (by simp [findLabel]) ?_ ?_
  · refine wp_seq (wp_label ?_)
    show rest.wp P (Exit.jump l J Q) a w
    refine wp_mono (pass a w hJ) (fun e a w h => ?_)
    cases e with
    | goto l' => exact ⟨h.1, h.2.1⟩
    | _ => exact h
  · intro a w h
    refine wp_seq (wp_skip ?_)
    exact pass a w h
/-- A search under way within lookAround. -/
def LkS (E : Se) (L : List Gn) (s : Int) (b : Nat) (F : List Nat) (w0 : World) (bx : Nat) (Fin : Sr) (Ds Z : List Nat) (tt : Sr) (W : World) : Prop :=
  ∃ F', SrAt E W b F' tt ∧ Turn F w0 W ∧ (∀ f ∈ F', f ∈ F ∨ w0.heap.size ≤ f) ∧ (∀ z ∈ Z, z ∉ F' ∧ z < W.heap.size ∧ w0.heap.size ≤ z) ∧ (bx ∉ F' ∧ Whole W bx 54 #[.pointer (some ⟨b, 0, none⟩)]) ∧ MarksF W w0.heap.size Ds ∧
    OkS E.G E.v E.m tt ∧ SEnv E L s W ∧ runP E.G E.v E.m (E.G.length - tt.od.length) tt = Fin
theorem LkS.below {E : Se} {L : List Gn} {s : Int} {b : Nat} {F : List Nat} {w0 : World} {bx : Nat} {Fin : Sr} {Ds Z Z2 : List Nat} {tt : Sr} {W W2 : World} (h : LkS E L s b F w0 bx Fin Ds Z tt W) (k : Below W.heap.size W W2) (hZ : ∀ z ∈ Z2, z ∈ Z ∨ W.heap.size ≤ z ∧ z < W2.heap.size) : LkS E L s b F w0 bx Fin Ds Z2 tt W2 := by
  obtain ⟨F', h1, h2, h3, h4, h5, h6, h7, h8, h9⟩ := h
  refine ⟨F', h1.below k, h2.trans (Turn.of_below k) (by simp), h3, fun z hz => ?_, ⟨h5.1, h5.2.below k h5.2.lt⟩, ⟨h6.nodup, fun D hD => ⟨(h6.at_ D hD).1, (k.block D (h6.lt D hD)).trans (h6.at_ D hD).2⟩⟩, h7, h8.below (k.mono h8.bs), h9⟩
  rcases hZ z hz with h | h
  · exact ⟨(h4 z h).1, Nat.lt_of_lt_of_le (h4 z h).2.1 k.size, (h4 z h).2.2⟩
  · exact ⟨fun hm => by have := (h1.fpt z hm).2; omega, h.2, Nat.le_trans h2.size h.1⟩
theorem LkS.put {E : Se} {L : List Gn} {s : Int} {b : Nat} {F : List Nat} {w0 : World} {bx : Nat} {Fin : Sr} {Ds Z : List Nat} {tt : Sr} {W : World} (h : LkS E L s b F w0 bx Fin Ds Z tt W) (hw0 : ∀ f ∈ F, E.base ≤ f) (hbs : E.base ≤ w0.heap.size) {l : Nat} {o o' : Obj} (hl : l ∈ Z) (ho : W.heap[l]? = some o) (hc : o.isCells = false) (hd : ∀ x, o ≠ .deferred x) : LkS E L s b F w0 bx Fin Ds Z tt (W.putObj l o') := by
  obtain ⟨F', h1, h2, h3, h4, h5, h6, h7, h8, h9⟩ := h
  have k := turn_put W l o'
  have hlw := (h4 l hl).2.2
  have hbl : bx ≠ l := fun e => by
    subst e
    have := h5.2
    rw [show W.heap[bx]? = _ from this] at ho
    cases ho; cases hc
  have h2' : Turn F w0 (W.putObj l o') := h2.trans k (fun a ha => .inr (by rw [List.mem_singleton] at ha; omega))
  refine ⟨F', h1.turn k (fun x hx => by rw [List.mem_singleton] at hx; subst hx; exact (h4 x hl).1), h2', h3, fun z hz => ⟨(h4 z hz).1, Nat.lt_of_lt_of_le (h4 z hz).2.1 k.size, (h4 z hz).2.2⟩, ⟨h5.1, h5.2.turn k (by simpa using hbl)⟩,
    ⟨h6.nodup, fun D hD => ⟨(h6.at_ D hD).1, (World.putObj_heap_other (fun e => by
      subst e
      rw [(h6.at_ D hD).2] at ho
      cases ho; exact hd _ rfl)).trans (h6.at_ D hD).2⟩⟩, h7, h8.below (k.below (by simp; omega) (by have := h2.size; omega)), h9⟩
theorem LkS.look {E : Se} {L : List Gn} {s : Int} {b : Nat} {F F1 : List Nat} {w0 : World} {bx : Nat} {Fin : Sr} {Ds Z : List Nat} {tt : Sr} {W W2 : World} (hS : SrAt E W b F1 tt) (hT : Turn F w0 W) (hF : ∀ f ∈ F1, f ∈ F ∨ w0.heap.size ≤ f) (hZ : ∀ z ∈ Z, z ∉ F1 ∧ z < W.heap.size ∧ w0.heap.size ≤ z) (hB : bx ∉ F1 ∧ Whole W bx 54 #[.pointer (some ⟨b, 0, none⟩)]) (hM : MarksF W w0.heap.size Ds) (hO : OkS E.G E.v E.m tt) (hE : SEnv E L s W)
    (hR : runP E.G E.v E.m (E.G.length - tt.od.length) tt = Fin) {p : Nat} (hp : nextP tt = some p) {e : Ending} {r : Bool} (hC : Came E b F1 (lookP E.G E.v E.m tt p) r W e W2) :
    e = .returned (.bool r) ∧ LkS E L s b F w0 bx Fin Ds Z (lookP E.G E.v E.m tt p) W2 ∧ KeepZ Z W W2 := by
  obtain ⟨h1, F2, h2, h3, h4⟩ := hC
  have hge := fun f hf => (hS.fpt f hf).1
  have new : ∀ z, z ∉ F1 → z < W.heap.size → z ∉ F2 := fun z hz hlt hm => by
    rcases h4 z hm with h | h
    · exact hz h
    · omega
  refine ⟨h1, ⟨F2, h2, hT.trans h3 hF, fun f hf => ?_, fun z hz => ⟨new z (hZ z hz).1 (hZ z hz).2.1, Nat.lt_of_lt_of_le (hZ z hz).2.1 h3.size, (hZ z hz).2.2⟩, ⟨new bx hB.1 hB.2.lt, hB.2.turn h3 hB.1⟩,
    ⟨hM.nodup, fun D hD => ⟨(hM.at_ D hD).1, (h3.block D (hM.lt D hD) (hS.off (hM.at_ D hD).2)).trans (hM.at_ D hD).2⟩⟩, hO.look hE.may.ho hE.may.nd hE.m1 (hO.sub p (nextP_some hp).1) (nextP_some hp).2, hE.below (h3.below hge hE.bs), by rw [← runP_step hO hp]; exact hR⟩, h3.size, fun z hz hlt => h3.block z hlt (hZ z hz).1⟩
  rcases h4 f hf with h | h
  · exact hF f h
  · exact .inr (Nat.le_trans hT.size h)
theorem stP_od (E : Se) : ∀ (pre : List Nat) (t0 : Sr), (stP E t0 pre).od = t0.od ++ pre
  | [], t0 => by simp [stP]
  | p :: pre, t0 => by
    show (stP E (lookP E.G E.v E.m t0 p) pre).od = _
    rw [stP_od E pre, lookP_od, List.append_assoc]; rfl
/-- What holds at the label. -/
def LkJ (E : Se) (L : List Gn) (s : Int) (b : Nat) (F : List Nat) (w0 : World) (bx : Nat) (Fin : Sr) (a : Act) (W : World) : Prop :=
  ∃ v3 v4 Ds tt, a = { tmps := #[.pointer (some ⟨b, 0, none⟩), .pointer (some ⟨bx, 0, none⟩), undef, v3, v4, undef, undef, undef, undef], defers := Ds.map markF } ∧ LkS E L s b F w0 bx Fin Ds [] tt W ∧ Ds.length ≤ tt.od.length
theorem od_le {E : Se} {tt : Sr} (h : OkS E.G E.v E.m tt) : tt.od.length ≤ E.G.length := nodup_lt_len h.odn (fun x hx => h.lt x (h.ods x hx))
set_option maxRecDepth 100000 in
set_option maxHeartbeats 4000000 in
theorem lookAround_any (E : Se) (L : List Gn) (s : Int) (w : World) (b : Nat) (F : List Nat) (t : Sr) (h : SrAt E w b F t) (he : SEnv E L s w) (ok : OkS E.G E.v E.m t) (hol : ∀ x ∈ E.G, x.2.2.length ≤ 20000) :
    CallsIn Fence.wide 9 Try.prog 22 #[.pointer (some ⟨b, 0, none⟩)] w fun e w' => e = .returned (.tuple #[]) ∧ Looks E b F (runP E.G E.v E.m (E.G.length - t.od.length) t) w w' := by
  have f48 : Fence.wide.fn 38 := trivial
  have h9 : 1 ≤ 9 := by omega
  have hge : ∀ f ∈ F, E.base ≤ f := fun f hf => (h.fpt f hf).1
  have hlt : ∀ f ∈ F, f < w.heap.size := fun f hf => (h.fpt f hf).2
  obtain ⟨Fin, eFin⟩ : ∃ Fin, runP E.G E.v E.m (E.G.length - t.od.length) t = Fin := ⟨_, rfl⟩
  rw [eFin]
  have B0 : Below w.heap.size w (w.alloc (.cells #[.pointer (some ⟨b, 0, none⟩)] 54)) := below_one (Below.refl _ _) _
  have W0 := Whole.new w 54 #[.pointer (some ⟨b, 0, none⟩)]
  have hsz0 : (w.alloc (.cells #[.pointer (some ⟨b, 0, none⟩)] 54)).heap.size = w.heap.size + 1 := by simp
  have HOL := Lib.hid hol
  have HGE := Lib.hid hge
  refine callsIn_of_wp_marks Try.func22 rfl trivial ?_ rfl
  simp only [Try.ntmps22, List.size_toArray, List.length_cons, List.length_nil, Nat.reduceAdd, Nat.reduceSub, Array.replicate_succ, Array.replicate_zero, List.push_toArray, List.append_toArray, List.nil_append, List.cons_append]
  rw [wpIn_wide]
  go_wp2
  obtain ⟨w0, ew0⟩ : ∃ w0, w.alloc (.cells #[.pointer (some ⟨b, 0, none⟩)] 54) = w0 := ⟨_, rfl⟩
  obtain ⟨bx, ebx⟩ : ∃ bx, w.heap.size = bx := ⟨_, rfl⟩
  rw [ew0] at B0 W0 hsz0 ⊢
  rw [ebx] at W0 ⊢
  have hK0 : LkS E L s b F w0 bx Fin [] [] t w0 := ⟨F, h.below B0, Turn.refl _ _, fun f hf => .inl hf, by simp, ⟨fun hm => by have := hlt bx hm; omega, W0⟩, MarksF.nil _ _, ok, he.below (B0.mono he.bs), eFin⟩
  have hbs0 : E.base ≤ w0.heap.size := Nat.le_trans he.bs B0.size
  have HBS := Lib.hid hbs0
  have HB0 := Lib.hid B0
  have HBX := Lib.hid ebx
  have hJ0 : LkJ E L s b F w0 bx Fin { tmps := #[.pointer (some ⟨b, 0, none⟩), .pointer (some ⟨bx, 0, none⟩), undef, undef, undef, undef, undef, undef, undef], defers := [] } w0 := ⟨_, _, [], t, rfl, hK0, Nat.zero_le _⟩
  clear h he ok hol hge hlt eFin ew0 ebx B0 W0 hsz0 hK0 hbs0
  refine wp_scope_label (LkJ E L s b F w0 bx Fin) (fun a _ => E.G.length + 1 - a.defers.length) hJ0 ?_
  clear hJ0
  rintro a W ⟨v3, v4, Ds, tt, rfl, hK, hDs⟩
  have hK' := hK
  obtain ⟨F', hS, hT, hF, _, hBX, hM, hO, hE, hR⟩ := hK'
  have hodl := od_le hO
  have cx : W.cell? ⟨bx, 0, none⟩ = some (.pointer (some ⟨b, 0, none⟩)) := hBX.2.cell 0
  have HWT := Lib.hid (waiting_any b W)
  have HK := Lib.hid hK
  clear hS hT hF hBX hM hO hE hR hK
  go_wp2_with (go_at_call 37; refine HWT.out.mono ?_; rintro e W1 ⟨rfl, hW1⟩)
  have B1 : Below W.heap.size W W1 := by rw [hW1]; exact below_one (Below.refl _ _) _
  have HW1 : Hid (Whole W1 W.heap.size 54 #[.pointer (some ⟨b, 0, none⟩)]) := Lib.hid (by rw [hW1]; exact Whole.new W _ _)
  rw [← hW1]
  obtain ⟨bs, ebs⟩ : ∃ bs, W.heap.size = bs := ⟨_, rfl⟩
  have K1 : LkS E L s b F w0 bx Fin Ds [bs] tt W1 := HK.out.below B1 (fun z hz => by
    rw [List.mem_singleton] at hz; subst hz; rw [← ebs]; exact .inr ⟨Nat.le_refl _, HW1.out.lt⟩)
  rw [ebs] at HW1 ⊢
  have HK1 := Lib.hid K1
  clear cx HWT HK hW1 B1 ebs K1
  have hseq : SeqZ Fence.wide (9 - 1) Try.prog 52 #[.pointer (some ⟨bs, 0, none⟩)] encP (KS E L s b tt) (fun pre x => nextP (stP E tt pre) = some x) (fun xs => nextP (stP E tt xs) = none) [bs] W1 :=
    fun l J Jx W hW hl hJK hJb hY h0 => waiting_in (9 - 1) l E L s tt b bs J Jx (by omega) hJK hJb hY W h0 (HW1.out.below hW HW1.out.lt)
  rw [← wpIn_wide (n := 9)]
  refine wpIn_rangeFunc_Z (α := Nat) rfl h9 (gf := 52) (lb := #[.pointer (some ⟨bs, 0, none⟩)]) rfl trivial (enters_of Try.func52 (by kernel_rfl) rfl)
    hseq (Below.refl _ _) (fun _ => rfl)
    (fun Z pre W => LkS E L s b F w0 bx Fin Ds Z (stP E tt pre) W ∧ (stP E tt pre).ps = tt.ps)
    (fun c Z pre W => c = .goto 0 ∧ pre ≠ [] ∧ LkS E L s b F w0 bx Fin Ds Z (stP E tt pre) W)
    (fun Z pre W h => by
      obtain ⟨⟨F2, h1, h2, h3, h4, h5, h6, h7, h8, h9⟩, hps⟩ := h
      exact ⟨F2, h1, fun z hz => ⟨(h4 z hz).1, (h4 z hz).2.1⟩, hps, h7, h8⟩)
    (fun Z Z2 pre A B h k hZ => ⟨h.1.below k hZ, h.2⟩)
    (fun Z pre W l Lp o' h hl ho => ⟨h.1.put HGE.out HBS.out hl ho rfl (fun x e => by cases e), h.2⟩)
    (fun c Z pre W l Lp o' h hl ho => ⟨h.1, h.2.1, h.2.2.put HGE.out HBS.out hl ho rfl (fun x e => by cases e)⟩)
    ⟨HK1.out, rfl⟩
    (fun x => { tmps := #[.pointer (some ⟨b, 0, none⟩), .pointer (some ⟨bx, 0, none⟩), .int .i64 (x : Int), .pointer (some ⟨b, 0, none⟩), .func (.func 52) #[] #[.pointer (some ⟨bs, 0, none⟩)], .int .i64 (x : Int), undef, undef, undef], defers := [] })
    (fun Z Z2 pre W hs h => by
      obtain ⟨F2, h1, h2, h3⟩ := h
      exact ⟨F2, h1, fun z hz => h2 z (hs z hz), h3⟩)
    ?assign ?body ?done ?stop
  case assign =>
    intro l x W K hK
    simp only [encP]
    gi_wp2
    exact hK
  case body =>
    rintro l Z pre x W ⟨hK, hps⟩ hnx
    obtain ⟨F2, h1, h2, h3, h4, h5, h6, h7, h8, h9⟩ := hK
    have cx : W.cell? ⟨bx, 0, none⟩ = some (.pointer (some ⟨b, 0, none⟩)) := h5.2.cell 0
    have hxp := nextP_some hnx
    have HC := Lib.hid ((lookAt_any E L s W b F2 (stP E tt pre) h1 h8 h7 x (h7.sub x hxp.1) hxp.2 HOL.out).mono (fun e w' hh => LkS.look h1 h2 h3 h4 h5 h6 h7 h8 h9 hnx hh))
    rw [← stP_snoc] at HC
    have HSM : Hid (chgL E.G E.v E.m ⟨(stP E tt pre).ps, (stP E tt pre).cm, (stP E tt pre).od ++ [x]⟩ (outN E.G x) = false → (stP E tt (pre ++ [x])).ps = tt.ps) := Lib.hid (fun hh => by
      rw [stP_snoc, ← hps]
      exact chgL_same _ hh)
    obtain ⟨r, er⟩ : ∃ r, chgL E.G E.v E.m ⟨(stP E tt pre).ps, (stP E tt pre).cm, (stP E tt pre).od ++ [x]⟩ (outN E.G x) = r := ⟨_, rfl⟩
    rw [er] at HC HSM
    clear h1 h2 h3 h4 h5 h6 h7 h8 h9 hps hnx hxp er
    cases r with
    | true =>
      clear HSM
      gi_wp2_with (gi_at_call 38; refine (CallsIn.inRound l (callsIn_wide.2 HC.out)).mono ?_; rintro e W4 ⟨rfl, hk4, hz4⟩; have HK4 := Lib.hid (⟨hz4, hk4⟩ : _ ∧ _); clear hk4 hz4)
      refine wpIn_goto ?_
      exact ⟨HK4.out.1, rfl, by simp, HK4.out.2⟩
    | false =>
      have HPS := Lib.hid (HSM.out rfl)
      clear HSM
      gi_wp2_with (gi_at_call 38; refine (CallsIn.inRound l (callsIn_wide.2 HC.out)).mono ?_; rintro e W4 ⟨rfl, hk4, hz4⟩; have HK4 := Lib.hid (⟨hz4, hk4⟩ : _ ∧ _); clear hk4 hz4)
      exact ⟨HK4.out.1, HK4.out.2, HPS.out⟩
  case done =>
    rintro xs W2 hS ⟨hK, _⟩ hD
    obtain ⟨F2, h1, h2, h3, h4, h5, h6, h7, h8, h9⟩ := hK
    have hnd : W1.heap.size ∉ Ds := fun hm => by
      obtain ⟨_, _, _, _, _, _, k6, _⟩ := HK1.out
      have := k6.lt _ hm
      omega
    have hw01 : w0.heap.size ≤ W1.heap.size := by
      obtain ⟨_, _, k2, _⟩ := HK1.out
      exact k2.size
    have hM : MarksF W2 w0.heap.size (W1.heap.size :: Ds) := ⟨List.nodup_cons.2 ⟨hnd, h6.nodup⟩, fun D hm => by
      rcases List.mem_cons.1 hm with rfl | hm
      · exact ⟨hw01, hD⟩
      · exact h6.at_ D hm⟩
    have hfin : stP E tt xs = Fin := by rw [← h9, runP_none hS]
    rw [hfin] at h1
    have hwB := HB0.out
    have hL : Looks E b F Fin w W2 := ⟨F2, h1, ((Turn.of_below hwB).more (B := F) (by simp)).trans h2 (fun a ha => .inl ha), fun f hf => (h3 f hf).imp_right (fun h => Nat.le_trans hwB.size h)⟩
    exact (leaves_marksF (base := w0.heap.size) (v := .tuple #[]) (fun W => results_none rfl _ _ _) (fun W D hb hd hh => by
      obtain ⟨he, F3, k1, k2, k3⟩ := hh
      have kp := turn_put W D (.deferred none)
      exact ⟨he, F3, k1.turn kp (fun x hx => by rw [List.mem_singleton] at hx; subst hx; exact k1.off hd), k2.trans kp (fun a ha => .inr (by rw [List.mem_singleton] at ha; have := hwB.size; omega)), k3⟩) (W1.heap.size :: Ds) W2 hM ⟨rfl, hL⟩ : LeavesInM Fence.wide 9 Try.prog Try.f22 _ (fun e w' => e = .returned (.tuple #[]) ∧ Looks E b F Fin w w') _ .returning W2)
  case stop =>
    rintro c Z pre W2 ⟨rfl, hne, hK⟩ hD
    obtain ⟨F2, h1, h2, h3, h4, h5, h6, h7, h8, h9⟩ := hK
    have hnd : W1.heap.size ∉ Ds := fun hm => by
      obtain ⟨_, _, _, _, _, _, k6, _⟩ := HK1.out
      have := k6.lt _ hm
      omega
    have hw01 : w0.heap.size ≤ W1.heap.size := by
      obtain ⟨_, _, k2, _⟩ := HK1.out
      exact k2.size
    have hM : MarksF W2 w0.heap.size (W1.heap.size :: Ds) := ⟨List.nodup_cons.2 ⟨hnd, h6.nodup⟩, fun D hm => by
      rcases List.mem_cons.1 hm with rfl | hm
      · exact ⟨hw01, hD⟩
      · exact h6.at_ D hm⟩
    have hp0 : 0 < pre.length := List.length_pos_iff.2 hne
    have hol : (stP E tt pre).od.length = tt.od.length + pre.length := by rw [stP_od, List.length_append]
    refine wpIn_goto ?_
    refine ⟨rfl, ⟨_, _, W1.heap.size :: Ds, stP E tt pre, rfl, ⟨F2, h1, h2, h3, by simp, h5, hM, h7, h8, h9⟩, by rw [hol, List.length_cons]; omega⟩, ?_⟩
    simp only [List.length_cons, List.length_map]
    omega
end Go.Proofs.Ytkdepoaajhggiaa
