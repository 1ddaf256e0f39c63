/- Several texts in one. -/
import Derived.Test.YtkmngbkghgelfaaGreatFd
import Derived.Test.YtkmngbkghgelfaaGreatHh
import Derived.Test.YtkmngbkghgelfaaGreatSc
import Derived.Test.YtkmngbkghgelfaaGreatOw
import Derived.Deep.RegionHeld3
import Derived.Deep.Cut
import Derived.Test.YtkmngbkghgelfaaGreatLe
/- The state of a search in memory; the walk of come. -/
namespace Go.Proofs.YtkmngbkghgelfaaGreat
open Go.Shelf Go.RowKit Go.Lib
open Go.Sort hiding Below
set_option linter.unusedVariables false
set_option linter.unusedSimpArgs false
/-- Two lists of blocks have none in common. -/
def Dj (X Y : List Nat) : Prop := ∀ x ∈ X, x ∉ Y
/-- The blocks of a search. -/
structure Gr where
  b : Nat
  pm : Nat
  cb : Nat
  cg : Nat
  kb : Nat
  kg : Nat
  FH : List Nat
  O : List Nat
def Gr.at (g : Gr) : Nat → List Nat
  | 0 => [g.b]
  | 1 => [g.pm]
  | 2 => [g.cb, g.cg]
  | 3 => [g.kb, g.kg]
  | 4 => g.FH
  | _ => g.O
def Gr.fp (g : Gr) : List Nat := (List.range 6).flatMap g.at
theorem Gr.mem {g : Gr} {f : Nat} : f ∈ g.fp ↔ ∃ i, i < 6 ∧ f ∈ g.at i := by
  unfold Gr.fp
  simp only [List.mem_flatMap, List.mem_range]
theorem ap_set {g g' : Gr} {N i0 : Nat} (e : ∀ i, i < 6 → i ≠ i0 → g'.at i = g.at i) (hX : ∀ x ∈ g'.at i0, x ∈ g.at i0 ∨ N ≤ x) (hi0 : i0 < 6) (lt : ∀ i, i < 6 → ∀ f ∈ g.at i, f < N) (ap : ∀ i j, i < 6 → j < 6 → i ≠ j → Dj (g.at i) (g.at j)) :
    ∀ i j, i < 6 → j < 6 → i ≠ j → Dj (g'.at i) (g'.at j) := fun i j hi hj hij x hx hy => by
  by_cases h1 : i = i0
  · subst h1
    rw [e j hj (Ne.symm hij)] at hy
    rcases hX x hx with h | h
    · exact ap i j hi hj hij x h hy
    · exact absurd (lt j hj x hy) (by omega)
  · rw [e i hi h1] at hx
    by_cases h2 : j = i0
    · subst h2
      rcases hX x hy with h | h
      · exact ap i j hi hj hij x hx h
      · exact absurd (lt i hi x hx) (by omega)
    · rw [e j hj h2] at hy
      exact ap i j hi hj hij x hx hy
/-- A search's givens: the graph, the vector, how many are kept, where they lie, and from which block on it is all its own. -/
structure Se where
  G : List Pn
  v : List Int
  m : Nat
  A : Option Addr
  c : Nat
  B : Option Addr
  q : Nat
  base : Nat
def obl (a : Option Addr) : List Nat := a.toList.map (·.block)
def natS (K : List Nat) : List Int := K.map (fun (x : Nat) => (x : Int))
theorem natS_len (K : List Nat) : (natS K).length = K.length := by simp [natS]
theorem natS_snoc (K : List Nat) (p : Nat) : natS (K ++ [p]) = natS K ++ [(p : Int)] := by simp [natS]
structure SrS (E : Se) (w : World) (g : Gr) (hb : Nat) (oA : Option Addr) (oc : Nat) (t : Sr) (ol : List Nat) : Prop where
  blk : Whole w g.b 74 #[.pointer (some ⟨hb, 0, none⟩), .slice E.A E.G.length E.c, .slice E.B E.v.length E.q, .map (some g.pm), .pointer (some ⟨g.cb, 0, none⟩), .pointer (some ⟨g.kb, 0, none⟩), .slice oA ol.length oc]
  heap : HeapIs w hb g.FH E.m (hlP E.G E.v t.ps)
  pl : PlAt w g.pm (idsG E.G)
  cm : SetIs w g.cb g.cg E.G.length (fun x => decide (x ∈ t.cm))
  lk : SetIs w g.kb g.kg E.G.length (fun x => decide (x ∈ t.od))
  od : w.ownsRow E.base 3 1 (.slice oA ol.length oc) ol.length ((natS ol).map (Value.int .i64))
  oo : g.O = obl oA
  ap : ∀ i j, i < 6 → j < 6 → i ≠ j → Dj (g.at i) (g.at j)
  ge : ∀ i, i < 6 → ∀ f ∈ g.at i, E.base ≤ f
theorem obl_own {oA : Option Addr} {n c : Nat} : ∀ f, (Value.slice oA n c).ownBlock = some f ↔ f ∈ obl oA := fun f => by
  cases oA with
  | none => simp [Value.ownBlock, obl]
  | some a => simp [Value.ownBlock, obl, eq_comm]
theorem SrS.lt {E : Se} {w : World} {g : Gr} {hb : Nat} {oA : Option Addr} {oc : Nat} {t : Sr} {ol : List Nat} (h : SrS E w g hb oA oc t ol) : ∀ i, i < 6 → ∀ f ∈ g.at i, f < w.heap.size := fun i hi f hf => by
  match i, hi with
  | 0, _ => simp only [Gr.at, List.mem_singleton] at hf; subst hf; exact h.blk.lt
  | 1, _ => simp only [Gr.at, List.mem_singleton] at hf; subst hf; exact h.pl.lt
  | 2, _ =>
    simp only [Gr.at, List.mem_cons, List.not_mem_nil, or_false] at hf
    have := h.cm.le
    rcases hf with rfl | rfl
    · exact this.2.2.1
    · exact this.2.2.2.1
  | 3, _ =>
    simp only [Gr.at, List.mem_cons, List.not_mem_nil, or_false] at hf
    have := h.lk.le
    rcases hf with rfl | rfl
    · exact this.2.2.1
    · exact this.2.2.2.1
  | 4, _ => exact h.heap.lt f hf
  | 5, _ =>
    have hf' : f ∈ g.O := hf
    rw [h.oo] at hf'
    exact (h.od.lt f ((obl_own f).2 hf')).2
theorem SrS.fpt {E : Se} {w : World} {g : Gr} {hb : Nat} {oA : Option Addr} {oc : Nat} {t : Sr} {ol : List Nat} (h : SrS E w g hb oA oc t ol) : ∀ f ∈ g.fp, E.base ≤ f ∧ f < w.heap.size := fun f hf => by
  obtain ⟨i, hi, hf⟩ := Gr.mem.1 hf
  exact ⟨h.ge i hi f hf, h.lt i hi f hf⟩
/-- Where no block of it turns, it stays. -/
theorem SrS.turn {E : Se} {w w' : World} {g : Gr} {hb : Nat} {oA : Option Addr} {oc : Nat} {t : Sr} {ol : List Nat} (h : SrS E w g hb oA oc t ol) {X : List Nat} (k : Turn X w w') (hX : ∀ x ∈ X, x ∉ g.fp) : SrS E w' g hb oA oc t ol := by
  have n : ∀ {j x}, j < 6 → x ∈ g.at j → x ∉ X := fun hj hx hm => hX _ hm (Gr.mem.2 ⟨_, hj, hx⟩)
  exact ⟨h.blk.turn k (n (j := 0) (by decide) (by simp [Gr.at])), h.heap.turn k (fun f hf => n (j := 4) (by decide) hf), h.pl.turn k (n (j := 1) (by decide) (by simp [Gr.at])),
    h.cm.turn k (n (j := 2) (by decide) (by simp [Gr.at])) (n (j := 2) (by decide) (by simp [Gr.at])), h.lk.turn k (n (j := 3) (by decide) (by simp [Gr.at])) (n (j := 3) (by decide) (by simp [Gr.at])),
    own_turn h.od k (fun f hf => n (j := 5) (by decide) (by show f ∈ g.O; rw [h.oo]; exact (obl_own f).1 hf)), h.oo, h.ap, h.ge⟩
theorem SrS.below {E : Se} {w w' : World} {g : Gr} {hb : Nat} {oA : Option Addr} {oc : Nat} {t : Sr} {ol : List Nat} (h : SrS E w g hb oA oc t ol) (hb' : Below w.heap.size w w') : SrS E w' g hb oA oc t ol := h.turn (Turn.of_below hb') (by simp)
/-- The set of those that came has turned. -/
theorem SrS.cmSet {E : Se} {w w' : World} {g : Gr} {hb : Nat} {oA : Option Addr} {oc : Nat} {t : Sr} {ol : List Nat} (h : SrS E w g hb oA oc t ol) (k : Turn [g.cg] w w') {cm' : List Nat} {f : Nat → Bool} (h2 : SetIs w' g.cb g.cg E.G.length f) (e : ∀ x, f x = decide (x ∈ cm')) : SrS E w' g hb oA oc ⟨t.ps, cm', t.od⟩ ol := by
  have n : ∀ {j x}, j < 6 → j ≠ 2 → x ∈ g.at j → x ∉ [g.cg] := fun hj hne hx hm => h.ap _ 2 hj (by decide) hne _ hx (by rw [List.mem_singleton] at hm; subst hm; simp [Gr.at])
  exact ⟨h.blk.turn k (n (j := 0) (by decide) (by decide) (by simp [Gr.at])), h.heap.turn k (fun f hf => n (j := 4) (by decide) (by decide) hf), h.pl.turn k (n (j := 1) (by decide) (by decide) (by simp [Gr.at])),
    h2.congr e, h.lk.turn k (n (j := 3) (by decide) (by decide) (by simp [Gr.at])) (n (j := 3) (by decide) (by decide) (by simp [Gr.at])),
    own_turn h.od k (fun f hf => n (j := 5) (by decide) (by decide) (by show f ∈ g.O; rw [h.oo]; exact (obl_own f).1 hf)), h.oo, h.ap, h.ge⟩
/-- The set of those that were looked at has turned. -/
theorem SrS.lkSet {E : Se} {w w' : World} {g : Gr} {hb : Nat} {oA : Option Addr} {oc : Nat} {t : Sr} {ol : List Nat} (h : SrS E w g hb oA oc t ol) (k : Turn [g.kg] w w') {od' : List Nat} {f : Nat → Bool} (h2 : SetIs w' g.kb g.kg E.G.length f) (e : ∀ x, f x = decide (x ∈ od')) : SrS E w' g hb oA oc ⟨t.ps, t.cm, od'⟩ ol := by
  have n : ∀ {j x}, j < 6 → j ≠ 3 → x ∈ g.at j → x ∉ [g.kg] := fun hj hne hx hm => h.ap _ 3 hj (by decide) hne _ hx (by rw [List.mem_singleton] at hm; subst hm; simp [Gr.at])
  exact ⟨h.blk.turn k (n (j := 0) (by decide) (by decide) (by simp [Gr.at])), h.heap.turn k (fun f hf => n (j := 4) (by decide) (by decide) hf), h.pl.turn k (n (j := 1) (by decide) (by decide) (by simp [Gr.at])),
    h.cm.turn k (n (j := 2) (by decide) (by decide) (by simp [Gr.at])) (n (j := 2) (by decide) (by decide) (by simp [Gr.at])), h2.congr e,
    own_turn h.od k (fun f hf => n (j := 5) (by decide) (by decide) (by show f ∈ g.O; rw [h.oo]; exact (obl_own f).1 hf)), h.oo, h.ap, h.ge⟩
/-- The list has turned. -/
theorem SrS.hpSet {E : Se} {w w' : World} {g : Gr} {hb : Nat} {oA : Option Addr} {oc : Nat} {t : Sr} {ol : List Nat} (h : SrS E w g hb oA oc t ol) (k : Turn g.FH w w') {F' : List Nat} {ps' : List Nat} (h2 : HeapIs w' hb F' E.m (hlP E.G E.v ps')) (hF : ∀ f ∈ F', f ∈ g.FH ∨ w.heap.size ≤ f) (hbase : E.base ≤ w.heap.size) : SrS E w' { g with FH := F' } hb oA oc ⟨ps', t.cm, t.od⟩ ol := by
  have n : ∀ {j x}, j < 6 → j ≠ 4 → x ∈ g.at j → x ∉ g.FH := fun hj hne hx hm => h.ap _ 4 hj (by decide) hne _ hx hm
  have e : ∀ i, i < 6 → i ≠ 4 → ({ g with FH := F' } : Gr).at i = g.at i := fun i hi hne => by
    match i, hi, hne with
    | 0, _, _ => rfl
    | 1, _, _ => rfl
    | 2, _, _ => rfl
    | 3, _, _ => rfl
    | 5, _, _ => rfl
  refine ⟨h.blk.turn k (n (j := 0) (by decide) (by decide) (by simp [Gr.at])), h2, h.pl.turn k (n (j := 1) (by decide) (by decide) (by simp [Gr.at])),
    h.cm.turn k (n (j := 2) (by decide) (by decide) (by simp [Gr.at])) (n (j := 2) (by decide) (by decide) (by simp [Gr.at])), h.lk.turn k (n (j := 3) (by decide) (by decide) (by simp [Gr.at])) (n (j := 3) (by decide) (by decide) (by simp [Gr.at])),
    own_turn h.od k (fun f hf => n (j := 5) (by decide) (by decide) (by show f ∈ g.O; rw [h.oo]; exact (obl_own f).1 hf)), h.oo, ap_set e hF (by decide) h.lt h.ap, fun i hi f hf => ?_⟩
  by_cases hne : i = 4
  · subst hne
    rcases hF f hf with h1 | h1
    · exact h.ge 4 (by decide) f h1
    · omega
  · rw [e i hi hne] at hf; exact h.ge i hi f hf
/-- A search whose struct lies in block b, and all of it in the blocks F. -/
def SrAt (E : Se) (w : World) (b : Nat) (F : List Nat) (t : Sr) : Prop := ∃ g hb oA oc, SrS E w g hb oA oc t t.od ∧ g.b = b ∧ F = g.fp
theorem SrAt.turn {E : Se} {w w' : World} {b : Nat} {F X : List Nat} {t : Sr} (h : SrAt E w b F t) (k : Turn X w w') (hX : ∀ x ∈ X, x ∉ F) : SrAt E w' b F t := by
  obtain ⟨g, hb, oA, oc, h1, h2, rfl⟩ := h
  exact ⟨g, hb, oA, oc, h1.turn k hX, h2, rfl⟩
theorem SrAt.below {E : Se} {w w' : World} {b : Nat} {F : List Nat} {t : Sr} (h : SrAt E w b F t) (k : Below w.heap.size w w') : SrAt E w' b F t := h.turn (Turn.of_below k) (by simp)
theorem SrAt.fpt {E : Se} {w : World} {b : Nat} {F : List Nat} {t : Sr} (h : SrAt E w b F t) : ∀ f ∈ F, E.base ≤ f ∧ f < w.heap.size := by
  obtain ⟨g, hb, oA, oc, h1, h2, rfl⟩ := h
  exact h1.fpt
/-- What the search stands on. -/
structure SEnv (E : Se) (L : List Gn) (s : Int) (w : World) : Prop where
  rd : RdG w E.base E.A L
  rv : Rd .i8 w E.base E.B E.v
  eG : E.G = pns L
  may : MaySearch E.G s E.v
  ok : ∀ x ∈ E.G, PnOk x
  bv : ∀ n ∈ E.v, -128 ≤ n ∧ n ≤ 127
  m1 : 1 ≤ E.m
  m2 : E.m ≤ 256
  bs : E.base ≤ w.heap.size
theorem SEnv.below {E : Se} {L : List Gn} {s : Int} {w w' : World} (h : SEnv E L s w) (k : Below E.base w w') : SEnv E L s w' := ⟨h.rd.below k, h.rv.below k, h.eG, h.may, h.ok, h.bv, h.m1, h.m2, Nat.le_trans h.bs k.size⟩
theorem far_bdS {xs ys : List Int} (hx : xs.length ≤ 64) (bx : ∀ x ∈ xs, -128 ≤ x ∧ x ≤ 127) (bY : ∀ x ∈ ys, -128 ≤ x ∧ x ≤ 127) : 0 ≤ far xs ys ∧ far xs ys ≤ 4161600 := by
  have h := farL_bd (xs.zip ys) (zip_bd bx bY)
  have hl : (xs.zip ys).length ≤ 64 := by rw [List.length_zip]; omega
  unfold far
  omega
theorem i64_wfS {x : Int} (h : 0 ≤ x ∧ x ≤ 4161600) : (Lit.int .i64 x).wf = true := by
  have h1 : IntKind.i64.min = -9223372036854775808 := rfl
  have h2 : IntKind.i64.max = 9223372036854775807 := rfl
  simp only [Lit.wf, Bool.and_eq_true, decide_eq_true_eq]
  omega
theorem SEnv.hit {E : Se} {L : List Gn} {s : Int} {w : World} (h : SEnv E L s w) {p : Nat} (hp : p < E.G.length) : HitOk (hitP E.G E.v p) :=
  have hm := nAt_mem hp
  ⟨u64_wf (h.ok _ hm).1, i64_wfS (far_bdS (by rw [h.may.same _ hm]; exact h.may.dim.2) (h.ok _ hm).2.1 h.bv)⟩
/-- Behind a call that may turn the search. -/
def Came (E : Se) (b : Nat) (F : List Nat) (t' : Sr) (r : Bool) (w : World) (e : Ending) (w' : World) : Prop :=
  e = .returned (.bool r) ∧ ∃ F', SrAt E w' b F' t' ∧ Turn F w w' ∧ ∀ f ∈ F', f ∈ F ∨ w.heap.size ≤ f
theorem plus_in {n : Nat} {f : Nat → Bool} {p : Nat} (hp : p < n) (x : Nat) : plus n f (p : Int) x = (f x || decide (x = p)) := by
  unfold plus inB
  rw [decide_eq_true (show (0 : Int) ≤ (p : Int) by omega), decide_eq_true (show (p : Int) < (n : Int) by omega)]
  simp only [Bool.true_and]
  congr 1
  by_cases h : x = p
  · subst h; simp
  · simp [h]; omega
theorem inB_in {n p : Nat} (hp : p < n) : inB n (p : Int) = true := by
  unfold inB
  rw [decide_eq_true (show (0 : Int) ≤ (p : Int) by omega), decide_eq_true (show (p : Int) < (n : Int) by omega)]; rfl
set_option maxRecDepth 100000 in
set_option maxHeartbeats 4000000 in
theorem come_any (E : Se) (L : List Gn) (s : Int) (w : World) (b : Nat) (F : List Nat) (t : Sr) (h : SrAt E w b F t) (he : SEnv E L s w) (ok : OkS E.G E.v E.m t) (p : Nat) (hp : p < E.G.length) :
    Calls Tryz.prog 25 #[.pointer (some ⟨b, 0, none⟩), .int .i64 (p : Int)] w (Came E b F (comeP E.G E.v E.m t p) (chgP E.G E.v E.m t p) w) := by
  obtain ⟨g, hb, oA, oc, hS, rfl, rfl⟩ := h
  have HS := Lib.hid hS
  have HE := Lib.hid he
  have HOK := Lib.hid ok
  have c4 : w.cell? ⟨g.b, 4, none⟩ = some (.pointer (some ⟨g.cb, 0, none⟩)) := hS.blk.cell 4
  have HA0 := add_any g.cb g.cg E.G.length _ (p : Int) w hS.cm
  rw [inB_in hp, Bool.true_and, Int.toNat_natCast] at HA0
  by_cases hc : p ∈ t.cm
  · rw [decide_eq_true hc] at HA0
    have HA := Lib.hid HA0
    have e1 : comeP E.G E.v E.m t p = t := if_pos hc
    have e2 : chgP E.G E.v E.m t p = false := by unfold chgP; rw [decide_eq_true hc]; rfl
    rw [e1, e2]
    have HP : Hid (∀ x, plus E.G.length (fun x => decide (x ∈ t.cm)) (p : Int) x = decide (x ∈ t.cm)) := Lib.hid (fun x => by
      rw [plus_in hp]
      by_cases h : x = p
      · subst h; simp [hc]
      · simp [h])
    clear hS he ok HA0 hc e1 e2
    go_enter Tryz.func25, Tryz.ntmps25
    go_wp2_with (go_at_call 79; refine HA.out.mono ?_; rintro e w1 ⟨rfl, hset, tu⟩)
    go_ret
    refine ⟨rfl, g.fp, ⟨g, hb, oA, oc, HS.out.cmSet tu hset HP.out, rfl, rfl⟩, tu.more (fun a ha => ?_), fun f hf => .inl hf⟩
    rw [List.mem_singleton] at ha; subst ha
    exact Gr.mem.2 ⟨2, by decide, by simp [Gr.at]⟩
  · rw [decide_eq_false hc] at HA0
    have HA := Lib.hid HA0
    have e1 : comeP E.G E.v E.m t p = ⟨pushP E.G E.v E.m t.ps p, t.cm ++ [p], t.od⟩ := if_neg hc
    have e2 : chgP E.G E.v E.m t p = tookP E.G E.v E.m t.ps p := by unfold chgP; rw [decide_eq_false hc]; rfl
    rw [e1, e2]
    have HP : Hid (∀ x, plus E.G.length (fun x => decide (x ∈ t.cm)) (p : Int) x = decide (x ∈ t.cm ++ [p])) := Lib.hid (fun x => by
      rw [plus_in hp]
      by_cases h : x = p <;> by_cases h3 : x ∈ t.cm <;> simp [h, h3])
    have hnew := ok.new (s := s) he.may.nd hp hc
    have HPU := Lib.hid (pushP_hl (p := p) hnew ok.up ok.le he.m1)
    have HHO := Lib.hid (he.hit hp)
    have hlen : E.G.length = L.length := by rw [he.eG, pns_len]
    have hn48 : E.G.length ≤ 2048 := he.may.ho.1
    obtain ⟨G, v, m, A, c, B, q, base⟩ := E
    dsimp only at *
    obtain ⟨bb, off, id, a1, c1, v', a2, c2, o, rfl, hBb, h1, h2, h3, hr1, hr2, hv⟩ := he.rd.at_ (i := p) (by omega)
    have hpa := pns_at hv.out
    have eG : G = pns L := he.eG
    have hna : nAt G p = (id, v', o) := by rw [eG]; exact nAt_get hpa
    have hmem : (id, v', o) ∈ G := by rw [← hna]; exact nAt_mem hp
    have hl1 : v.length = v'.length := (he.may.same _ hmem).symm
    have hd : 1 ≤ v'.length ∧ v'.length ≤ 64 := by rw [← hl1]; exact he.may.dim
    have hb8 := (he.ok _ hmem).2.1
    have hHI : hitP G v p = (id, far v' v) := by unfold hitP; rw [hna]
    unfold tookP
    rw [hHI] at HPU HHO ⊢
    have x1 : (0 : Int) ≤ (p : Int) := by omega
    have x2 : (p : Int) < (G.length : Int) := by omega
    have HRD : Hid (∀ W, Below base w W → W.cell? ⟨bb, off + p * 3, none⟩ = some (.int .u64 id) ∧ W.cell? ⟨bb, off + p * 3 + 1, none⟩ = some (.slice a1 v'.length c1) ∧ W.cell? ⟨bb, off + p * 3 + 2, none⟩ = some (.slice a2 o.length c2) ∧ Rd .i8 W base a1 v' ∧ Rd .i8 W base B v) := Lib.hid (fun W k =>
      ⟨(k.cell (p := ⟨bb, off + p * 3, none⟩) hBb).trans h1, (k.cell (p := ⟨bb, off + p * 3 + 1, none⟩) hBb).trans h2, (k.cell (p := ⟨bb, off + p * 3 + 2, none⟩) hBb).trans h3, hr1.below k, he.rv.below k⟩)
    have HBV : Hid (∀ n ∈ v, -128 ≤ n ∧ n ≤ 127) := Lib.hid he.bv
    have HB8 : Hid (∀ n ∈ v', -128 ≤ n ∧ n ≤ 127) := Lib.hid hb8
    have hbs : base ≤ w.heap.size := he.bs
    have HG1 : Hid (base ≤ g.cg) := Lib.hid (hS.ge 2 (by decide) g.cg (by simp [Gr.at]))
    have HL1 := Lib.hid hl1
    have HD1 := Lib.hid hd
    clear hl1 hd hlen eG hS he ok HA0 hc e1 e2 hnew hv hpa hna hmem hHI h1 h2 h3 hr1 hr2 hb8
    go_enter Tryz.func25, Tryz.ntmps25
    go_upto_region 4 with (go_at_call 79; refine HA.out.mono ?_; rintro e w1 ⟨rfl, hset, tu⟩; have B1 : Below base w w1 := tu.below (by simp; exact HG1.out) hbs; have S1 := HS.out.cmSet tu hset HP.out; obtain ⟨k1, k2, k3, kr1, kr2⟩ := HRD.out w1 B1; have y0 : w1.cell? ⟨g.b, 0, none⟩ = some (.pointer (some ⟨hb, 0, none⟩)) := S1.blk.cell 0; have y1 : w1.cell? ⟨g.b, 1, none⟩ = some (.slice (some ⟨bb, off, none⟩) G.length c) := S1.blk.cell 1; have y2 : w1.cell? ⟨g.b, 2, none⟩ = some (.slice B v.length q) := S1.blk.cell 2)
    obtain ⟨w2, ew2⟩ : ∃ w2, w1.alloc (.cells #[.int .u64 id, .slice a1 v'.length c1, .slice a2 o.length c2] 87) = w2 := ⟨_, rfl⟩
    obtain ⟨nb, enb⟩ : ∃ nb, w1.heap.size = nb := ⟨_, rfl⟩
    have B2 : Below w1.heap.size w1 w2 := by rw [← ew2]; exact below_one (Below.refl _ _) _
    have WN : Whole w2 nb 87 #[.int .u64 id, .slice a1 v'.length c1, .slice a2 o.length c2] := by rw [← ew2, ← enb]; exact Whole.new w1 _ _
    have S2 := S1.below B2
    have hs1 : base ≤ w1.heap.size := Nat.le_trans hbs B1.size
    have hBw2 : Below base w w2 := B1.trans (B2.mono hs1)
    have hbs2 : base ≤ w2.heap.size := Nat.le_trans hbs hBw2.size
    have hnb : nb ∉ g.fp := fun hm => by have := (S1.fpt nb hm).2; omega
    have HN := Lib.hid hnb
    have HS2 := Lib.hid S2
    have HWN := Lib.hid WN
    have HT2 : Hid (Turn g.fp w w2) := Lib.hid ((tu.trans (Turn.of_below B2) (by simp)).more (fun a ha => by rw [List.mem_singleton] at ha; subst ha; exact Gr.mem.2 ⟨2, by decide, by simp [Gr.at]⟩))
    have KF : Hid (∀ W, Below w2.heap.size w2 W → W.cell? ⟨nb, 0, none⟩ = some (.int .u64 id) ∧ W.cell? ⟨nb, 1, none⟩ = some (.slice a1 v'.length c1) ∧ W.cell? ⟨g.b, 0, none⟩ = some (.pointer (some ⟨hb, 0, none⟩)) ∧ W.cell? ⟨g.b, 2, none⟩ = some (.slice B v.length q)) := Lib.hid (fun W k => by
      have z := HWN.out.below k HWN.out.lt
      have y := HS2.out.blk.below k HS2.out.blk.lt
      exact ⟨z.cell 0, z.cell 1, y.cell 0, y.cell 2⟩)
    have CD : Hid (∀ W, Below w2.heap.size w2 W → Calls Tryz.prog 80 #[.slice a1 v'.length c1, .slice B v.length q] W fun e w' => e = .returned (.tuple #[.int .i64 (far v' v), .int .i64 0]) ∧ Below w2.heap.size w2 w' ∧ w'.cell? ⟨nb, 1, none⟩ = some (.slice a1 v'.length c1) ∧ w'.cell? ⟨g.b, 2, none⟩ = some (.slice B v.length q)) := Lib.hid (fun W k => by
      have kW : Below base w W := hBw2.trans (k.mono hbs2)
      obtain ⟨_, _, _, r1, r2⟩ := HRD.out W kW
      refine (dist_yes a1 B c1 q v' v HD1.out.1 HD1.out.2 HL1.out v.length HL1.out W (r1.more (Nat.le_trans hbs2 k.size)) (r2.more (Nat.le_trans hbs2 k.size)) HB8.out HBV.out).mono fun e w' hh => ?_
      have hk := k.trans (hh.2.mono k.size)
      obtain ⟨_, z1, _, z2⟩ := KF.out w' hk
      exact ⟨hh.1, hk, z1, z2⟩)
    have CP : Hid (∀ W, Below w2.heap.size w2 W → Calls Tryz.prog 81 #[.pointer (some ⟨hb, 0, none⟩), .agg #[.int .u64 id, .int .i64 (far v' v)]] W fun e w' => e = .returned (.bool (tookH m (hlP G v t.ps) (id, far v' v))) ∧ (∃ F', SrAt ⟨G, v, m, some ⟨bb, off, none⟩, c, B, q, base⟩ w' g.b F' ⟨pushP G v m t.ps p, t.cm ++ [p], t.od⟩ ∧ Turn g.fp w w' ∧ ∀ f ∈ F', f ∈ g.fp ∨ w.heap.size ≤ f) ∧ w'.cell? ⟨nb, 0, none⟩ = some (.int .u64 id) ∧ w'.cell? ⟨g.b, 0, none⟩ = some (.pointer (some ⟨hb, 0, none⟩))) := Lib.hid (fun W k => by
      have SW := HS2.out.below k
      refine (hPushM_any hb g.FH m (hlP G v t.ps) id (far v' v) W SW.heap HHO.out).mono fun e w' hh => ?_
      obtain ⟨h1, F', h2, h3, h4⟩ := hh
      rw [← HPU.out] at h2
      have hbW : base ≤ W.heap.size := Nat.le_trans hbs2 k.size
      have SN := SW.hpSet (ps' := pushP G v m t.ps p) h3 h2 h4 hbW
      have hwW : w.heap.size ≤ W.heap.size := Nat.le_trans hBw2.size k.size
      have tW : Turn g.fp w W := HT2.out.trans (Turn.of_below k) (by simp)
      have h3' : Turn g.fp W w' := h3.more (fun a ha => Gr.mem.2 ⟨4, by decide, ha⟩)
      have zW := (HWN.out.below k HWN.out.lt).turn h3' HN.out
      have bW : g.b ∉ g.FH := SW.ap 0 4 (by decide) (by decide) (by decide) g.b (by simp [Gr.at])
      refine ⟨h1, ⟨_, ⟨_, hb, oA, oc, SN, rfl, rfl⟩, tW.trans h3' (fun a ha => .inl ha), fun f hf => ?_⟩, zW.cell 0, (SW.blk.turn h3 bW).cell 0⟩
      obtain ⟨i, hi, hf⟩ := Gr.mem.1 hf
      by_cases hne : i = 4
      · subst hne
        rcases h4 f hf with hh | hh
        · exact .inl (Gr.mem.2 ⟨4, by decide, hh⟩)
        · exact .inr (by omega)
      · refine .inl (Gr.mem.2 ⟨i, hi, ?_⟩)
        match i, hi, hne with
        | 0, _, _ => exact hf
        | 1, _, _ => exact hf
        | 2, _, _ => exact hf
        | 3, _, _ => exact hf
        | 5, _, _ => exact hf)
    have HDR : Below w2.heap.size w2 w2.drew := (Below.refl _ _).drew
    obtain ⟨j0, j1, j2, j3⟩ := KF.out _ HDR
    rw [ew2, enb]
    clear ew2 enb B2 WN S2 hs1 hBw2 hbs2 hnb S1 B1 tu hset k1 k2 k3 kr1 kr2 y0 y1 y2 HRD
    go_region_held3 (fun w' => w'.cell? ⟨nb, 1, none⟩ = some (.slice a1 v'.length c1) ∧ w'.cell? ⟨g.b, 2, none⟩ = some (.slice B v.length q))
      (first | exact ⟨by with_reducible assumption, by with_reducible assumption⟩)
      (first
        | (go_at_call 80; (with_reducible refine (CD.out _ (by with_reducible assumption)).mono ?_); rintro e w3 ⟨rfl, b3, z1, z2⟩)
        | fail)
    all_goals
      have HD3 := b3.drew
      clear z1 z2 j0 j1 j2 j3 HDR
      obtain ⟨j0, j1, j2, j3⟩ := KF.out _ HD3
      clear b3
      go_wp2
      go_region_held3 (fun w' => w'.cell? ⟨nb, 0, none⟩ = some (.int .u64 id) ∧ w'.cell? ⟨g.b, 0, none⟩ = some (.pointer (some ⟨hb, 0, none⟩)))
        (first | exact ⟨by with_reducible assumption, by with_reducible assumption⟩)
        (first
          | (go_at_call 81; (with_reducible refine (CP.out _ (by with_reducible assumption)).mono ?_); rintro e w4 ⟨rfl, HR, z1, z2⟩)
          | fail)
      all_goals
        have HR2 := Lib.hid HR
        clear HR z1 z2 j0 j1 j2 j3 HD3
        go_wp2
        go_ret
        exact ⟨rfl, HR2.out⟩
end Go.Proofs.YtkmngbkghgelfaaGreat
/- The walk of newSearch. -/
namespace Go.Proofs.YtkmngbkghgelfaaGreat
open Go.Shelf Go.RowKit Go.Lib
open Go.Sort hiding Below
set_option linter.unusedVariables false
set_option linter.unusedSimpArgs false
def widB (k : Int) : Bool := decide (1 ≤ k ∧ k ≤ 256)
theorem goB_may {G : List Pn} {s : Int} {v : List Int} : mayS G s v = (holdsB G s && (goB G v.length && decide ((idsG G).Nodup))) := by
  unfold mayS goB idsG
  by_cases h1 : 1 ≤ v.length ∧ v.length ≤ 64 <;> by_cases h2 : (∀ x ∈ G, x.2.1.length = v.length) <;> by_cases h3 : (G.map (·.1)).Nodup <;> cases holdsB G s <;> simp [h1, h2, h3]
theorem turn_nil {w w' : World} (h : Turn [] w w') : Below w.heap.size w w' := h.below (by simp) (Nat.le_refl _)
set_option maxRecDepth 100000 in
set_option maxHeartbeats 4000000 in
theorem newS_no (A : Option Addr) (c : Nat) (L : List Gn) (s : Int) (B : Option Addr) (q : Nat) (v : List Int) (k : Int) (w : World) (hx : GArg w A L) (hn : (mayS (pns L) s v && widB k) = false) :
    Calls Tryz.prog 24 #[.agg #[.slice A L.length c, .int .i64 s], .slice B v.length q, .int .i64 k] w fun e w' => e = .returned (.tuple #[.pointer none, .int .i64 1]) ∧ Below w.heap.size w w' := by
  have HX := Lib.hid hx
  have B0 : Below w.heap.size w (w.alloc (.cells #[.slice A L.length c, .int .i64 s] 24)) := below_one (Below.refl _ _) _
  have W0 := Whole.new w 24 #[.slice A L.length c, .int .i64 s]
  by_cases hk : k < 1 ∨ 256 < k
  · have HNW := Lib.hid (fun W => hNew_no k W hk)
    have HB0 := Lib.hid B0
    clear hx hn B0 W0 hk
    go_enter Tryz.func24, Tryz.ntmps24
    go_wp2_with (go_at_call 74; refine (HNW.out _).mono ?_; rintro e w1 ⟨rfl, rfl⟩)
    go_ret2
    exact ⟨rfl, HB0.out⟩
  · obtain ⟨m, rfl⟩ : ∃ m : Nat, k = m := ⟨k.toNat, by omega⟩
    have hm1 : 1 ≤ m := by omega
    have hm2 : m ≤ 256 := by omega
    have hmay : (holdsB (pns L) s && (goB (pns L) v.length && decide ((idsG (pns L)).Nodup))) = false := by
      rw [goB_may] at hn
      rw [show widB (m : Int) = true from decide_eq_true ⟨by omega, by omega⟩, Bool.and_true] at hn
      exact hn
    have HNW := Lib.hid (fun W => hNew_yes m W hm1 hm2)
    have HHO := Lib.hid (fun W (h : GArg W A L) => hops_any A c L s W h)
    have HW0 := Lib.hid W0
    have HB0 := Lib.hid B0
    have HM := Lib.hid hmay
    clear hx hn B0 W0 hk hmay hm1 hm2
    go_enter Tryz.func24, Tryz.ntmps24
    go_upto_region 1 with fail
    obtain ⟨w0, ew0⟩ : ∃ w0, w.alloc (.cells #[.slice A L.length c, .int .i64 s] 24) = w0 := ⟨_, rfl⟩
    obtain ⟨g0, eg0⟩ : ∃ g0, w.heap.size = g0 := ⟨_, rfl⟩
    have HG0 := Lib.hid eg0
    rw [ew0] at HW0 HB0
    rw [eg0] at HW0
    rw [ew0, eg0]
    clear ew0 eg0
    have KX : Hid (∀ W, Below w0.heap.size w0 W → (W.cell? ⟨g0, 0, none⟩ = some (.slice A L.length c) ∧ W.cell? ⟨g0, 1, none⟩ = some (.int .i64 s)) ∧ Below w.heap.size w W ∧ GArg W A L) := Lib.hid (fun W h => by
      have z := HW0.out.below h HW0.out.lt
      have hW := HB0.out.trans (h.mono HB0.out.size)
      exact ⟨⟨z.cell 0, z.cell 1⟩, hW, HX.out.below hW⟩)
    go_wp2_with fail
    refine (HNW.out w0).mono ?_
    rintro e w1 ⟨b1, F1, rfl, hI1, hF1, t1⟩
    have HB1 := Lib.hid (turn_nil t1)
    dsimp only
    clear hI1 hF1 t1
    obtain ⟨⟨y0, y1⟩, _, hg1⟩ := KX.out w1 HB1.out
    have HC := Lib.hid (HHO.out w1 hg1)
    clear hg1
    cases hh : holdsB (pns L) s with
    | false =>
      rw [hh] at HC
      clear hh HM
      go_wp2_with (go_at_call 75; refine HC.out.mono ?_; rintro e w2 ⟨V, d, rfl, _, b2⟩)
      go_ret2
      exact ⟨rfl, (KX.out w2 (HB1.out.trans (b2.mono HB1.out.size))).2.1⟩
    | true =>
      have hM2 := HM.out
      rw [hh, Bool.true_and] at hM2
      have HHL := Lib.hid (holdsB_yes hh).1
      rw [hh] at HC
      have HM2 := Lib.hid hM2
      clear hh HM hM2
      go_wp2_with (go_at_call 75; refine HC.out.mono ?_; rintro e w2 ⟨V, d, rfl, _, b2⟩; have HB2 := Lib.hid (HB1.out.trans (b2.mono HB1.out.size)); clear b2 y0 y1; obtain ⟨⟨y0, y1⟩, hw2, hg2⟩ := KX.out w2 HB2.out)
      refine (placesByID_any A c L L.length rfl w2 hg2.rd (by have := HHL.out; rwa [pns_len] at this) hg2.ok).mono ?_
      rintro e w3 ⟨rfl, hP, b3⟩
      dsimp only
      have HB3 : Hid (Below w0.heap.size w0 w3) := Lib.hid (HB2.out.trans (b3.mono HB2.out.size))
      obtain ⟨pm, epm⟩ : ∃ pm, w2.heap.size = pm := ⟨_, rfl⟩
      rw [epm] at hP ⊢
      obtain ⟨ql, hlen, hq1, hq2⟩ := hP.len
      have hq1' : ql ≤ L.length := by have : (idsG (pns L)).length = L.length := by unfold idsG; rw [List.length_map, pns_len]
                                      omega
      have hq2' : ql = L.length ↔ (idsG (pns L)).Nodup := by rw [← hq2]; unfold idsG; rw [List.length_map, pns_len]
      clear y0 y1 hw2 hg2 b3 epm hq1 hq2 hP
      obtain ⟨⟨y0, y1⟩, hw3, hg3⟩ := KX.out w3 HB3.out
      by_cases hnd : ql = L.length
      · have hN := hq2'.1 hnd
        have hgo : goB (pns L) v.length = false := by have := HM2.out; rwa [decide_eq_true hN, Bool.and_true] at this
        have HGO := Lib.hid (allGoWith_any A B c q L L.length rfl v.length w3 hg3.rd (by have := hg3.sm.len; rwa [pns_len] at this))
        rw [hgo] at HGO
        subst hnd
        have e1 : decide ((L.length : Int) < (L.length : Int)) = false := decide_eq_false (by omega)
        clear hN hgo hq1' hq2' hw3 hg3
        go_wp2_with (go_at_call 77; refine HGO.out.mono ?_; rintro e w4 ⟨rfl, b4⟩)
        go_ret2
        exact ⟨rfl, (KX.out w4 (HB3.out.trans (b4.mono HB3.out.size))).2.1⟩
      · have e1n : decide (ql < L.length) = true := decide_eq_true (by omega)
        have e1l : ql < L.length := by omega
        have HW3 := Lib.hid hw3
        clear hq1' hq2' hw3 hg3 hnd
        go_wp2
        go_ret2
        exact ⟨rfl, HW3.out⟩
theorem set_none {w : World} {b g n : Nat} {ws : List Nat} (h : SetAt w b g n ws) (hz : ∀ m, has ws m = false) : SetIs w b g n (fun x => decide (x ∈ ([] : List Nat))) := ⟨ws, h, fun m => by rw [hz m]; simp⟩
/-- A search that was made. -/
def NewS (A : Option Addr) (c : Nat) (L : List Gn) (B : Option Addr) (q : Nat) (v : List Int) (m : Nat) (w : World) (e : Ending) (w' : World) : Prop :=
  ∃ b F, e = .returned (.tuple #[.pointer (some ⟨b, 0, none⟩), .int .i64 0]) ∧ SrAt ⟨pns L, v, m, A, c, B, q, w.heap.size⟩ w' b F ⟨[], [], []⟩ ∧ Below w.heap.size w w'
set_option maxRecDepth 100000 in
set_option maxHeartbeats 8000000 in
theorem newS_yes (A : Option Addr) (c : Nat) (L : List Gn) (s : Int) (B : Option Addr) (q : Nat) (v : List Int) (m : Nat) (w : World) (hx : GArg w A L) (hmay : mayS (pns L) s v = true) (hm1 : 1 ≤ m) (hm2 : m ≤ 256) :
    Calls Tryz.prog 24 #[.agg #[.slice A L.length c, .int .i64 s], .slice B v.length q, .int .i64 (m : Int)] w (NewS A c L B q v m w) := by
  have HX := Lib.hid hx
  have B0 : Below w.heap.size w (w.alloc (.cells #[.slice A L.length c, .int .i64 s] 24)) := below_one (Below.refl _ _) _
  have W0 := Whole.new w 24 #[.slice A L.length c, .int .i64 s]
  have hM := hmay
  rw [goB_may] at hM
  simp only [Bool.and_eq_true, decide_eq_true_eq] at hM
  obtain ⟨hh, hgo, hN⟩ := hM
  have HNW := Lib.hid (fun W => hNew_yes m W hm1 hm2)
  have HHO := Lib.hid (fun W (h : GArg W A L) => hops_any A c L s W h)
  have hn48 : (pns L).length ≤ 2048 := (holdsB_yes hh).1
  rw [hh] at HHO
  have HPL := Lib.hid (pns_len L)
  have hL48 : L.length ≤ 2048 := by rw [← HPL.out]; exact hn48
  have HW0 := Lib.hid W0
  have HB0 := Lib.hid B0
  have HND := Lib.hid hN
  have HGB := Lib.hid hgo
  clear hx B0 W0 hmay hh hgo hN hn48
  go_enter Tryz.func24, Tryz.ntmps24
  go_upto_region 1 with fail
  obtain ⟨w0, ew0⟩ : ∃ w0, w.alloc (.cells #[.slice A L.length c, .int .i64 s] 24) = w0 := ⟨_, rfl⟩
  obtain ⟨g0, eg0⟩ : ∃ g0, w.heap.size = g0 := ⟨_, rfl⟩
  have HG0 := Lib.hid eg0
  rw [ew0] at HW0 HB0
  rw [eg0] at HW0
  rw [ew0]
  rw [show (Value.pointer (some ⟨w.heap.size, 0, none⟩) : Value) = .pointer (some ⟨g0, 0, none⟩) by rw [eg0]]
  clear ew0 eg0
  have KX : Hid (∀ W, Below w0.heap.size w0 W → (W.cell? ⟨g0, 0, none⟩ = some (.slice A L.length c) ∧ W.cell? ⟨g0, 1, none⟩ = some (.int .i64 s)) ∧ Below w.heap.size w W ∧ GArg W A L) := Lib.hid (fun W h => by
    have z := HW0.out.below h HW0.out.lt
    have hW := HB0.out.trans (h.mono HB0.out.size)
    exact ⟨⟨z.cell 0, z.cell 1⟩, hW, HX.out.below hW⟩)
  go_wp2_with fail
  refine (HNW.out w0).mono ?_
  rintro e w1 ⟨hb, F1, rfl, hI1, hF1, t1⟩
  have HB1 := Lib.hid (turn_nil t1)
  have HI1 := Lib.hid hI1
  have HF1 := Lib.hid hF1
  dsimp only
  clear hI1 hF1 t1
  obtain ⟨⟨y0, y1⟩, _, hg1⟩ := KX.out w1 HB1.out
  have HC := Lib.hid (HHO.out w1 hg1)
  clear hg1
  go_wp2_with (go_at_call 75; refine HC.out.mono ?_; rintro e w2 ⟨V, d, rfl, _, b2⟩; have HB12 := Lib.hid b2; have HB2 := Lib.hid (HB1.out.trans (b2.mono HB1.out.size)); clear b2 y0 y1; obtain ⟨⟨y0, y1⟩, hw2, hg2⟩ := KX.out w2 HB2.out)
  refine (placesByID_any A c L L.length rfl w2 hg2.rd hL48 hg2.ok).mono ?_
  rintro e w3 ⟨rfl, hP, b3⟩
  dsimp only
  have HB3 : Hid (Below w0.heap.size w0 w3) := Lib.hid (HB2.out.trans (b3.mono HB2.out.size))
  have HB23 := Lib.hid b3
  obtain ⟨pm, epm⟩ : ∃ pm, w2.heap.size = pm := ⟨_, rfl⟩
  have HPM := Lib.hid epm
  rw [epm] at hP ⊢
  have HP3 := Lib.hid hP
  obtain ⟨ql, hlen, hq1, hq2⟩ := hP.len
  have hq2' : ql = L.length := by
    have := hq2.2 HND.out
    rw [this]; unfold idsG; rw [List.length_map, HPL.out]
  subst hq2'
  clear y0 y1 hw2 hg2 b3 epm hq1 hq2 hP
  obtain ⟨⟨y0, y1⟩, hw3, hg3⟩ := KX.out w3 HB3.out
  have HGO := Lib.hid (allGoWith_any A B c q L L.length rfl v.length w3 hg3.rd (by have := hg3.sm.len; rwa [HPL.out] at this))
  rw [HGB.out] at HGO
  have e1 : decide ((L.length : Int) < (L.length : Int)) = false := decide_eq_false (by omega)
  have HSN := Lib.hid (fun W => new_yes L.length hL48 W)
  clear hw3 hg3
  go_wp2_with (go_at_call 77; refine HGO.out.mono ?_; rintro e w4 ⟨rfl, b4⟩; have HB34 := Lib.hid b4; have HB4 := Lib.hid (HB3.out.trans (b4.mono HB3.out.size)); clear b4 y0 y1 hlen; obtain ⟨⟨y0, y1⟩, _, _⟩ := KX.out w4 HB4.out)
  refine (HSN.out w4).mono ?_
  rintro e w5 ⟨cb, cg, cs, rfl, hS5, hz5, hc5, hd5, t5⟩
  dsimp only
  have HB45 := Lib.hid (turn_nil t5)
  have HB5 : Hid (Below w0.heap.size w0 w5) := Lib.hid (HB4.out.trans (HB45.out.mono HB4.out.size))
  have HS5 := Lib.hid (set_none hS5 hz5)
  have HC5 := Lib.hid (⟨hc5, hd5⟩ : _ ∧ _)
  clear y0 y1 hS5 hz5 hc5 hd5 t5
  obtain ⟨⟨y0, y1⟩, _, _⟩ := KX.out w5 HB5.out
  go_wp2_with fail
  refine (HSN.out w5).mono ?_
  rintro e w6 ⟨kb, kg, ks, rfl, hS6, hz6, hc6, hd6, t6⟩
  dsimp only
  have HB56 := Lib.hid (turn_nil t6)
  have HB6 : Hid (Below w0.heap.size w0 w6) := Lib.hid (HB5.out.trans (HB56.out.mono HB5.out.size))
  have HS6 := Lib.hid (set_none hS6 hz6)
  have HC6 := Lib.hid (⟨hc6, hd6⟩ : _ ∧ _)
  clear y0 y1 hS6 hz6 hc6 hd6 t6
  obtain ⟨⟨y0, y1⟩, _, _⟩ := KX.out w6 HB6.out
  go_wp2
  go_ret2
  have hb0 := HB0.out.size
  have z01 := HB1.out.size
  have z12 := HB12.out.size
  have z23 := HB23.out.size
  have z34 := HB34.out.size
  have z45 := HB45.out.size
  have z56 := HB56.out.size
  have hpm : pm = w2.heap.size := HPM.out.symm
  have B67 : Below w6.heap.size w6 (w6.alloc (.cells #[.pointer (some ⟨hb, 0, none⟩), .slice A L.length c, .slice B v.length q, .map (some pm), .pointer (some ⟨cb, 0, none⟩), .pointer (some ⟨kb, 0, none⟩), .slice none 0 0] 74)) := below_one (Below.refl _ _) _
  have hI6 : HeapIs w6 hb F1 m [] := HI1.out.turn (Turn.of_below (((HB12.out.trans (HB23.out.mono z12)).trans ((HB34.out.trans (HB45.out.mono z34)).mono (by omega))).trans (HB56.out.mono (by omega)))) (by simp)
  have hP6 := HP3.out.turn (Turn.of_below ((HB34.out.trans (HB45.out.mono z34)).trans (HB56.out.mono (by omega)))) (by simp)
  have hS5' := HS5.out.turn (Turn.of_below HB56.out) (by simp) (by simp)
  have hl1 := HI1.out.lt
  have hl5 := HS5.out.le
  have hl6 := HS6.out.le
  have hp3 := HP3.out.lt
  refine ⟨w6.heap.size, Gr.fp ⟨w6.heap.size, pm, cb, cg, kb, kg, F1, []⟩, rfl, ⟨⟨w6.heap.size, pm, cb, cg, kb, kg, F1, []⟩, hb, none, 0, ⟨?_, ?_, ?_, ?_, ?_, own_nil_row _ _ _, rfl, ?_, ?_⟩, rfl, rfl⟩, HB0.out.trans ((HB6.out.trans (B67.mono HB6.out.size)).mono hb0)⟩
  · have := Whole.new w6 74 #[.pointer (some ⟨hb, 0, none⟩), .slice A L.length c, .slice B v.length q, .map (some pm), .pointer (some ⟨cb, 0, none⟩), .pointer (some ⟨kb, 0, none⟩), .slice none 0 0]
    show Whole _ _ _ #[.pointer (some ⟨hb, 0, none⟩), .slice A (pns L).length c, .slice B v.length q, .map (some pm), .pointer (some ⟨cb, 0, none⟩), .pointer (some ⟨kb, 0, none⟩), .slice none 0 0]
    rw [HPL.out]; exact this
  · exact hI6.turn (Turn.of_below B67) (by simp)
  · exact hP6.turn (Turn.of_below B67) (by simp)
  · show SetIs _ cb cg (pns L).length _
    rw [HPL.out]; exact hS5'.turn (Turn.of_below B67) (by simp) (by simp)
  · show SetIs _ kb kg (pns L).length _
    rw [HPL.out]; exact HS6.out.turn (Turn.of_below B67) (by simp) (by simp)
  · have key : ∀ i, i < 6 → ∀ f ∈ (⟨w6.heap.size, pm, cb, cg, kb, kg, F1, []⟩ : Gr).at i, ((i = 0 ∧ f = w6.heap.size) ∨ (i = 1 ∧ f = w2.heap.size) ∨ (i = 2 ∧ w4.heap.size ≤ f ∧ f < w5.heap.size) ∨ (i = 3 ∧ w5.heap.size ≤ f ∧ f < w6.heap.size) ∨ (i = 4 ∧ f < w1.heap.size)) := fun i hi f hf => by
      match i, hi with
      | 0, _ => simp only [Gr.at, List.mem_singleton] at hf; exact .inl ⟨rfl, hf⟩
      | 1, _ => simp only [Gr.at, List.mem_singleton] at hf; exact .inr (.inl ⟨rfl, hf.trans hpm⟩)
      | 2, _ =>
        simp only [Gr.at, List.mem_cons, List.not_mem_nil, or_false] at hf
        refine .inr (.inr (.inl ⟨rfl, ?_⟩))
        rcases hf with rfl | rfl
        · exact ⟨HC5.out.1, hl5.2.2.1⟩
        · exact ⟨HC5.out.2, hl5.2.2.2.1⟩
      | 3, _ =>
        simp only [Gr.at, List.mem_cons, List.not_mem_nil, or_false] at hf
        refine .inr (.inr (.inr (.inl ⟨rfl, ?_⟩)))
        rcases hf with rfl | rfl
        · exact ⟨HC6.out.1, hl6.2.2.1⟩
        · exact ⟨HC6.out.2, hl6.2.2.2.1⟩
      | 4, _ => exact .inr (.inr (.inr (.inr ⟨rfl, hl1 f hf⟩)))
      | 5, _ => simp [Gr.at] at hf
    have hp23 : w2.heap.size < w3.heap.size := by rw [← hpm]; exact hp3
    intro i j hi hj hij f h1 h2
    have k1 := key i hi f h1
    have k2 := key j hj f h2
    omega
  · intro i hi f hf
    match i, hi with
    | 0, _ => simp only [Gr.at, List.mem_singleton] at hf; subst hf; show w.heap.size ≤ _; omega
    | 1, _ => simp only [Gr.at, List.mem_singleton] at hf; subst hf; show w.heap.size ≤ _; omega
    | 2, _ =>
      simp only [Gr.at, List.mem_cons, List.not_mem_nil, or_false] at hf
      show w.heap.size ≤ _
      have := HC5.out
      rcases hf with rfl | rfl <;> omega
    | 3, _ =>
      simp only [Gr.at, List.mem_cons, List.not_mem_nil, or_false] at hf
      show w.heap.size ≤ _
      have := HC6.out
      rcases hf with rfl | rfl <;> omega
    | 4, _ => show w.heap.size ≤ _; have := HF1.out f hf; omega
    | 5, _ => simp [Gr.at] at hf
end Go.Proofs.YtkmngbkghgelfaaGreat
