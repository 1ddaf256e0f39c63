/- The walk of the document's Drop (layer 9). -/
import Derived.Test.YtjihnkoimbcfnaaKr
import Derived.Deep.RegionLaw
namespace Go.Proofs.Ytjihnkoimbcfnaa
open Go.RowKit
set_option linter.unusedVariables false
theorem Try.info4b : (Try.prog.info? 4).map (fun i => (i.zero, i.size, i.bytes)) = some (some (.bool false), 1, 1) := by kernel_rfl
theorem resCellH {P : Program} {fn : Func} {p q : Tmp} {ty : TypeId} (h : fn.results = #[.cell p ty, .tmp q]) (tmps : Array Value) (w : World) :
    (results fn tmps).run P w = ((asAddr (tmps.getD p undef)).run P w).andThen fun a w₁ => ((loadVar ty a).run P w₁).andThen fun v w₂ => .ok (.tuple #[v, tmps.getD q undef]) w₂ := by
  simp only [results, h]
  simp [Sem.run_bind, Result.andThen]
/-- What Drop's rows are: its argument's box, its answer's box, what is gone. -/
structure DrSt (w : World) (g q : Nat) (box : Array Value) (M : List Bool) (W : World) : Prop where
  bel : Below g w W
  bx : Whole W g 24 box
  rs : Whole W (g + 1) 24 #[.slice none 0 0, .int .i64 0]
  m : Whole W q 4 (cellsB M)
theorem DrSt.below {w W W' : World} {g q : Nat} {box : Array Value} {M : List Bool} (t : DrSt w g q box M W) (hb : Below W.heap.size W W') : DrSt w g q box M W' :=
  ⟨t.bel.trans (hb.mono (Nat.le_of_lt t.bx.lt)), t.bx.below hb t.bx.lt, t.rs.below hb t.rs.lt, t.m.below hb t.m.lt⟩
theorem DrSt.setM {w W : World} {g q : Nat} {box : Array Value} {M : List Bool} (t : DrSt w g q box M W) (hq : g + 1 < q) (i : Nat) (v : Bool) : DrSt w g q box (M.set i v) (W.setCell ⟨q, i, none⟩ (.bool v)) :=
  ⟨t.bel.setCell (p := ⟨q, i, none⟩) (by show g ≤ q; omega) _, t.bx.far (a := ⟨q, i, none⟩) (by show g ≠ q; omega) _, t.rs.far (a := ⟨q, i, none⟩) (by show g + 1 ≠ q; omega) _, by rw [← cellsB_set]; exact t.m.set i _⟩
/-- And where each place comes to. -/
structure Dr2 (w : World) (g q t : Nat) (box : Array Value) (M : List Bool) (T : List Int) (W : World) : Prop where
  d : DrSt w g q box M W
  t : Whole W t 3 (cellsI T)
theorem Dr2.below {w W W' : World} {g q t : Nat} {box : Array Value} {M : List Bool} {T : List Int} (h : Dr2 w g q t box M T W) (hb : Below W.heap.size W W') : Dr2 w g q t box M T W' := ⟨h.d.below hb, h.t.below hb h.t.lt⟩
theorem Dr2.setT {w W : World} {g q t : Nat} {box : Array Value} {M : List Bool} {T : List Int} (h : Dr2 w g q t box M T W) (hq : g + 1 < q) (ht : q < t) (i : Nat) (v : Int) : Dr2 w g q t box M (T.set i v) (W.setCell ⟨t, i, none⟩ (.int .i64 v)) :=
  ⟨⟨h.d.bel.setCell (p := ⟨t, i, none⟩) (by show g ≤ t; omega) _, h.d.bx.far (a := ⟨t, i, none⟩) (by show g ≠ t; omega) _, h.d.rs.far (a := ⟨t, i, none⟩) (by show g + 1 ≠ t; omega) _, h.d.m.far (a := ⟨t, i, none⟩) (by show q ≠ t; omega) _⟩, by rw [← cellsI_set]; exact h.t.set i _⟩
/-- A graph's nodes of the call's own, all whose blocks lie below hi. -/
structure OwnR (w : World) (base hi : Nat) (A : Option Addr) (c : Nat) (L : List Gn) : Prop where
  own : OwnG w base A c L
  ro : ∀ g, (Value.slice A L.length c).ownBlock = some g → g < hi
  rv : ∀ x ∈ L, ∀ g, vbG x.2.1 = some g → g < hi
  ru : ∀ x ∈ L, ∀ g, vbG x.2.2 = some g → g < hi
theorem OwnR.of {w : World} {base : Nat} {A : Option Addr} {c : Nat} {L : List Gn} (h : OwnG w base A c L) : OwnR w base w.heap.size A c L :=
  ⟨h, fun g hg => (h.row.lt g hg).2, fun x hx g hg => ((h.vec x hx).lt g hg).2, fun x hx g hg => ((h.out x hx).lt g hg).2⟩
theorem OwnR.below {w w' : World} {base hi : Nat} {A : Option Addr} {c : Nat} {L : List Gn} (h : OwnR w base hi A c L) (hb : Below w.heap.size w w') : OwnR w' base hi A c L := ⟨h.own.below hb, h.ro, h.rv, h.ru⟩
theorem ne_blk {hi b : Nat} {o : Option Nat} (h : ∀ g, o = some g → g < hi) (hb : hi ≤ b) : o ≠ some b := fun e => by have := h b e; omega
theorem OwnR.set {w : World} {base hi b : Nat} {A : Option Addr} {c : Nat} {L : List Gn} (h : OwnR w base hi A c L) (hb : hi ≤ b) (i : Nat) (u : Value) : OwnR (w.setCell ⟨b, i, none⟩ u) base hi A c L :=
  ⟨⟨row_setK h.own.row (ne_blk h.ro hb), fun x hx => row_setK (h.own.vec x hx) (ne_blk (h.rv x hx) hb), fun x hx => row_setK (h.own.out x hx) (ne_blk (h.ru x hx) hb), h.own.av, h.own.ao⟩, h.ro, h.rv, h.ru⟩
theorem blk_ne {hi : Nat} {o p : Option Nat} (h : ∀ g, o = some g → g < hi) (hp : ∀ g, p = some g → hi ≤ g) : o = none ∨ o ≠ p := by
  cases o with
  | none => exact .inl rfl
  | some g => exact .inr (fun e => by have := h g rfl; have := hp g e.symm; omega)
theorem OwnR.grown {w w' : World} {base hi : Nat} {o : Option Nat} {A : Option Addr} {c : Nat} {L : List Gn} (h : OwnR w base hi A c L) (hg : w.grownBy w' o) (ho : ∀ g, o = some g → hi ≤ g) : OwnR w' base hi A c L :=
  ⟨⟨h.own.row.kept hg (blk_ne h.ro ho), fun x hx => (h.own.vec x hx).kept hg (blk_ne (h.rv x hx) ho), fun x hx => (h.own.out x hx).kept hg (blk_ne (h.ru x hx) ho), h.own.av, h.own.ao⟩, h.ro, h.rv, h.ru⟩
/-- Drop within a round: besides, the answer's nodes so far, and the node's box. -/
structure Dr3 (w : World) (g q t b gx : Nat) (box : Array Value) (M : List Bool) (TT : List Int) (OA : Option Addr) (oc : Nat) (T : List Gn) (xb : Array Value) (W : World) : Prop where
  d : Dr2 w g q t box M TT W
  ob : Whole W b 24 #[.slice OA T.length oc, .int .i64 0]
  ow : OwnR W (b + 1) gx OA oc T
  xb : Whole W gx 65 xb
theorem Dr3.below {w W W' : World} {g q t b gx oc : Nat} {box xb : Array Value} {M : List Bool} {TT : List Int} {OA : Option Addr} {T : List Gn} (h : Dr3 w g q t b gx box M TT OA oc T xb W) (hb : Below W.heap.size W W') : Dr3 w g q t b gx box M TT OA oc T xb W' :=
  ⟨h.d.below hb, h.ob.below hb h.ob.lt, h.ow.below hb, h.xb.below hb h.xb.lt⟩
theorem Dr3.set {w W : World} {g q t b gx oc y : Nat} {box xb : Array Value} {M : List Bool} {TT : List Int} {OA : Option Addr} {T : List Gn} (h : Dr3 w g q t b gx box M TT OA oc T xb W) (h1 : g + 1 < q) (h2 : q < t) (h3 : t < b) (h4 : b < gx) (hy : gx < y) (i : Nat) (u : Value) : Dr3 w g q t b gx box M TT OA oc T xb (W.setCell ⟨y, i, none⟩ u) :=
  ⟨⟨⟨h.d.d.bel.setCell (p := ⟨y, i, none⟩) (by show g ≤ y; omega) _, h.d.d.bx.far (a := ⟨y, i, none⟩) (by show g ≠ y; omega) _, h.d.d.rs.far (a := ⟨y, i, none⟩) (by show g + 1 ≠ y; omega) _, h.d.d.m.far (a := ⟨y, i, none⟩) (by show q ≠ y; omega) _⟩, h.d.t.far (a := ⟨y, i, none⟩) (by show t ≠ y; omega) _⟩, h.ob.far (a := ⟨y, i, none⟩) (by show b ≠ y; omega) _, h.ow.set (Nat.le_of_lt hy) _ _, h.xb.far (a := ⟨y, i, none⟩) (by show gx ≠ y; omega) _⟩
theorem whole_grown {w w' : World} {g hi : Nat} {e : TypeId} {cs : Array Value} {o : Option Nat} (h : Whole w g e cs) (hg : w.grownBy w' o) (ho : ∀ k, o = some k → hi ≤ k) (hh : g < hi) : Whole w' g e cs :=
  (hg.block g h.lt (fun e => by have := ho g e.symm; omega)).trans h
theorem Dr3.grown {w W W' : World} {g q t b gx oc : Nat} {o : Option Nat} {box xb : Array Value} {M : List Bool} {TT : List Int} {OA : Option Addr} {T : List Gn} (h : Dr3 w g q t b gx box M TT OA oc T xb W) (h1 : g + 1 < q) (h2 : q < t) (h3 : t < b) (h4 : b < gx) (hg : W.grownBy W' o) (ho : ∀ k, o = some k → gx + 1 ≤ k) : Dr3 w g q t b gx box M TT OA oc T xb W' :=
  ⟨⟨⟨h.d.d.bel.grown hg (Nat.le_of_lt h.d.d.bx.lt) (fun r hr => by have := ho r hr; omega), whole_grown h.d.d.bx hg ho (by omega), whole_grown h.d.d.rs hg ho (by omega), whole_grown h.d.d.m hg ho (by omega)⟩, whole_grown h.d.t hg ho (by omega)⟩, whole_grown h.ob hg ho (by omega), h.ow.grown hg (fun k hk => by have := ho k hk; omega), whole_grown h.xb hg ho (by omega)⟩
theorem Dr2.grown {w W W' : World} {g q t : Nat} {o : Option Nat} {box : Array Value} {M : List Bool} {TT : List Int} (h : Dr2 w g q t box M TT W) (h1 : g + 1 < q) (h2 : q < t) (hg : W.grownBy W' o) (ho : ∀ k, o = some k → t + 1 ≤ k) : Dr2 w g q t box M TT W' :=
  ⟨⟨h.d.bel.grown hg (Nat.le_of_lt h.d.bx.lt) (fun r hr => by have := ho r hr; omega), whole_grown h.d.bx hg ho (by omega), whole_grown h.d.rs hg ho (by omega), whole_grown h.d.m hg ho (by omega)⟩, whole_grown h.t hg ho (by omega)⟩
theorem Dr2.set {w W : World} {g q t y : Nat} {box : Array Value} {M : List Bool} {TT : List Int} (h : Dr2 w g q t box M TT W) (h1 : g + 1 < q) (h2 : q < t) (hy : t < y) (i : Nat) (u : Value) : Dr2 w g q t box M TT (W.setCell ⟨y, i, none⟩ u) :=
  ⟨⟨h.d.bel.setCell (p := ⟨y, i, none⟩) (by show g ≤ y; omega) _, h.d.bx.far (a := ⟨y, i, none⟩) (by show g ≠ y; omega) _, h.d.rs.far (a := ⟨y, i, none⟩) (by show g + 1 ≠ y; omega) _, h.d.m.far (a := ⟨y, i, none⟩) (by show q ≠ y; omega) _⟩, h.t.far (a := ⟨y, i, none⟩) (by show t ≠ y; omega) _⟩
theorem OwnG.set {w : World} {base b : Nat} {A : Option Addr} {c : Nat} {L : List Gn} (h : OwnG w base A c L) (hb : b < base) (i : Nat) (u : Value) : OwnG (w.setCell ⟨b, i, none⟩ u) base A c L :=
  ⟨row_setK h.row (fun e => by have := (h.row.lt _ e).1; omega), fun x hx => row_setK (h.vec x hx) (fun e => by have := ((h.vec x hx).lt _ e).1; omega), fun x hx => row_setK (h.out x hx) (fun e => by have := ((h.out x hx).lt _ e).1; omega), h.av, h.ao⟩
/-- One node more. -/
theorem OwnR.next {W W2 : World} {base gx gy : Nat} {OA A' : Option Addr} {oc c' : Nat} {T : List Gn} {x : Gn} (h : OwnR W base gx OA oc T) (hv : W.ownsRow gy 84 1 (.slice x.2.1.1 x.2.1.2.2.length x.2.1.2.1) x.2.1.2.2.length (x.2.1.2.2.map (Value.int .i8))) (ho : W.ownsRow gy 3 1 (.slice x.2.2.1 x.2.2.2.2.length x.2.2.2.1) x.2.2.2.2.length (x.2.2.2.2.map (Value.int .i64)))
    (hb : base ≤ gy) (hx : gx ≤ gy) (o : Obj) (hown : W2.ownsRow base 65 3 (.slice A' (T.length + 1) c') (T.length + 1) (flatG T ++ encG x)) (hg : (W.alloc o).grownBy W2 (Value.slice OA T.length oc).ownBlock) : OwnG W2 base A' c' (T ++ [x]) := by
  have hr := h.own.row.alloc o
  refine ⟨by rw [List.length_append, List.length_singleton, flatG_snoc]; exact hown, fun y hy => ?_, fun y hy => ?_, ?_, ?_⟩
  · rcases List.mem_append.1 hy with h1 | h1
    · exact row_farK ((h.own.vec y h1).alloc o) hr (by decide) hg
    · rw [List.mem_singleton] at h1
      subst h1
      exact own_base (row_farK (hv.alloc o) hr (by decide) hg) hb
  · rcases List.mem_append.1 hy with h1 | h1
    · exact row_farK ((h.own.out y h1).alloc o) hr (by decide) hg
    · rw [List.mem_singleton] at h1
      subst h1
      exact own_base (row_farK (ho.alloc o) hr (by decide) hg) hb
  · refine List.pairwise_append.2 ⟨h.own.av, by simp, fun y hy z hz => ?_⟩
    rw [List.mem_singleton] at hz
    subst hz
    exact blk_ne (h.rv y hy) (fun g hg => Nat.le_trans hx (hv.lt g hg).1)
  · refine List.pairwise_append.2 ⟨h.own.ao, by simp, fun y hy z hz => ?_⟩
    rw [List.mem_singleton] at hz
    subst hz
    exact blk_ne (h.ru y hy) (fun g hg => Nat.le_trans hx (ho.lt g hg).1)
set_option maxRecDepth 100000 in
set_option maxHeartbeats 4000000 in
theorem rDrop_any (A : Option Addr) (c : Nat) (L : List Gn) (s : Int) (B : Option Addr) (d : Nat) (P : List Int) (w : World) (hx : GArg w A L) (hn : ∀ x ∈ L, x.2.1.1 = none → x.2.1.2.1 = 0) (hp : Rd .i64 w w.heap.size B P) (hP : P.length ≤ 100000000) (hPok : ∀ p ∈ P, -9223372036854775808 ≤ p ∧ p ≤ 9223372036854775807) :
    Calls Try.prog 31 #[.agg #[.slice A L.length c, .int .i64 s], .slice B P.length d] w (GAns w (dropA (pns L) s P) (dropS (pns L) s P) (errG (dropB (pns L) s P))) := by
  have hs : ∀ x ∈ pns L, x.2.2.length ≤ 20000 := fun x h => (hx.sm.at_ h).2
  have hl : L.length ≤ 20000 := by have := hx.sm.len; rwa [pns_len] at this
  have HX := Lib.hid hx
  have HSM := Lib.hid hs
  have HNL := Lib.hid hn
  have HP := Lib.hid hp
  have HPK := Lib.hid hPok
  clear hx hs hn hp hPok
  have HO := Lib.hid (fun W (h : Below w.heap.size w W) => rHolds_any A c L s W _ h.size (HX.out.rd.below h) hl HSM.out)
  have HW0 := Lib.hid ((Whole.new w 24 #[.slice A L.length c, .int .i64 s]).alloc (.cells #[.slice none 0 0, .int .i64 0] 24))
  have HW1 : Hid (Whole ((w.alloc (.cells #[.slice A L.length c, .int .i64 s] 24)).alloc (.cells #[.slice none 0 0, .int .i64 0] 24)) (w.heap.size + 1) 24 #[.slice none 0 0, .int .i64 0]) := Lib.hid (by
    have := Whole.new (w.alloc (.cells #[.slice A L.length c, .int .i64 s] 24)) 24 #[.slice none 0 0, .int .i64 0]
    simpa using this)
  have HB0 : Hid (Below w.heap.size w ((w.alloc (.cells #[.slice A L.length c, .int .i64 s] 24)).alloc (.cells #[.slice none 0 0, .int .i64 0] 24))) := Lib.hid (below_one (below_one (Below.refl _ _) _) _)
  cases hh : holdsB (pns L) s with
  | false =>
    rw [hh] at HO
    have E0 := Lib.hid (show dropB (pns L) s P = false by unfold dropB; rw [hh]; rfl)
    have E1 := Lib.hid (show dropA (pns L) s P = [] by unfold dropA; rw [E0.out]; rfl)
    have E2 := Lib.hid (show dropS (pns L) s P = 0 by unfold dropS; rw [E0.out]; rfl)
    rw [E0.out, E1.out, E2.out]
    clear hh
    go_enter Try.func31, Try.ntmps31
    go_wp2_with (go_at_call 41; refine (HO.out _ HB0.out).mono ?_; rintro e w1 ⟨rfl, b1⟩; have z0 := HW0.out.below b1 HW0.out.lt; have z1 := HW1.out.below b1 HW1.out.lt; have zc0 : w1.cell? ⟨w.heap.size, 0, none⟩ = some (.slice A L.length c) := z0.cell 0; have zc1 : w1.cell? ⟨w.heap.size, 1, none⟩ = some (.int .i64 s) := z0.cell 1; have zd0 : w1.cell? ⟨w.heap.size + 1, 0, none⟩ = some (.slice none 0 0) := z1.cell 0; have zd1 : w1.cell? ⟨w.heap.size + 1, 1, none⟩ = some (.int .i64 0) := z1.cell 1; have zf0 := z1.frozen 0; have zf1 := z1.frozen 1; have b1 := HB0.out.trans (b1.mono HB0.out.size))
    refine bodyPost_ret (v := .tuple #[.agg #[.slice none 0 0, .int .i64 0], .int .i64 1]) (by rw [resCellH rfl]; go_simp) rfl ?_
    exact GAns.nil _ _ ((b1.setCell (p := ⟨w.heap.size + 1, 0, none⟩) (Nat.le_succ _) _).setCell (p := ⟨w.heap.size + 1, 1, none⟩) (Nat.le_succ _) _)
  | true =>
    rw [hh] at HO
    have HLN := Lib.hid (pns_len L)
    have HH := holdsB_yes hh
    have hL : L.length ≤ 2048 := by have := HH.1; rwa [pns_len] at this
    have HHS := Lib.hid HH
    have EB := Lib.hid (show dropB (pns L) s P = decide (OkTo L.length P) by unfold dropB; rw [hh, HLN.out]; rfl)
    have hmk : ∀ W : World, (Instr.makeSlice 62 (.int .i64 (L.length : Int)) (.int .i64 (L.length : Int))).run Try.prog W = .ok (.slice (some ⟨W.heap.size, 0, none⟩) L.length L.length) (W.alloc (.cells (cellsB (List.replicate L.length false)) 4)) := fun W => by
      have := run_make_row' (P := Try.prog) 62 4 (.bool false) 1 Try.underlying62 Try.info4b (by rfl) .i64 .i64 L.length (by omega) (by omega) W
      rw [cellsB_made] at this
      exact this
    clear hh HH
    go_enter Try.func31, Try.ntmps31
    go_wp2_with (go_at_call 41; refine (HO.out _ HB0.out).mono ?_; rintro e w1 ⟨rfl, b1⟩; have z0 := HW0.out.below b1 HW0.out.lt; have z1 := HW1.out.below b1 HW1.out.lt; have zc0 : w1.cell? ⟨w.heap.size, 0, none⟩ = some (.slice A L.length c) := z0.cell 0; have zc1 : w1.cell? ⟨w.heap.size, 1, none⟩ = some (.int .i64 s) := z0.cell 1; have zd0 : w1.cell? ⟨w.heap.size + 1, 0, none⟩ = some (.slice none 0 0) := z1.cell 0; have zd1 : w1.cell? ⟨w.heap.size + 1, 1, none⟩ = some (.int .i64 0) := z1.cell 1; have zf0 := z1.frozen 0; have zf1 := z1.frozen 1; have b1 := HB0.out.trans (b1.mono HB0.out.size))
    have st0 : DrSt w w.heap.size w1.heap.size #[.slice A L.length c, .int .i64 s] (goneL L.length (P.take 0)) (w1.alloc (.cells (cellsB (List.replicate L.length false)) 4)) := by
      rw [List.take_zero, goneL_nil]
      exact ⟨below_one b1 _, z0.alloc _, z1.alloc _, Whole.new w1 4 _⟩
    obtain ⟨w2, ew2⟩ : ∃ w2, w1.alloc (.cells (cellsB (List.replicate L.length false)) 4) = w2 := ⟨_, rfl⟩
    rw [ew2] at st0 ⊢
    have hgq : w.heap.size + 1 < w1.heap.size := z1.lt
    obtain ⟨q, eq⟩ : ∃ q, w1.heap.size = q := ⟨_, rfl⟩
    rw [eq] at st0 hgq ⊢
    obtain ⟨g, eg⟩ : ∃ g, w.heap.size = g := ⟨_, rfl⟩
    rw [eg] at st0 hgq ⊢
    have HG := Lib.hid eg
    clear ew2 eq eg z0 z1 zc0 zc1 zd0 zd1 zf0 zf1 b1 hmk HW0 HW1 HB0 HO
    obtain ⟨box, ebox⟩ : ∃ box : Array Value, #[Value.slice A L.length c, .int .i64 s] = box := ⟨_, rfl⟩
    rw [ebox] at st0
    have HBOX := Lib.hid ebox
    have HST := Lib.hid st0
    clear ebox st0
    go_loopw [8] (fun i wr => ∃ k : Nat, k ≤ P.length ∧ i = .int .i64 k ∧ Hid (OkTo L.length (P.take k)) ∧ Hid (DrSt w g q box (goneL L.length (P.take k)) wr)) (fun i _ => P.length - (intOf i).toNat)
    case atStart => exact ⟨0, by omega, rfl, Lib.hid (by rw [List.take_zero]; exact OkTo.nil _), HST⟩
    case round =>
      clear HST
      obtain ⟨k, hk, rfl, HK, HS⟩ := hrel
      by_cases hlt : k < P.length
      · have e1 : decide ((k : Int) < (P.length : Int)) = true := decide_eq_true (by omega)
        obtain ⟨bo, oo, p, rfl, hBo, hco, hvo⟩ := HP.out.at_ hlt
        have bW : Below w.heap.size w wr := by rw [HG.out]; exact HS.out.bel
        have co : wr.cell? ⟨bo, oo + k, none⟩ = some (.int .i64 p) := (bW.cell (p := ⟨bo, oo + k, none⟩) hBo).trans hco
        have HPG : Hid (P[k]? = some p) := Lib.hid (by rw [← hvo.out, List.getElem?_eq_getElem hlt]; rfl)
        have r0 := HS.out.rs.cell 0
        have r1 := HS.out.rs.cell 1
        have f0 := HS.out.rs.frozen 0
        have f1 := HS.out.rs.frozen 1
        have x1 : (0 : Int) ≤ (k : Int) := by omega
        have x2 : (k : Int) < (P.length : Int) := by omega
        have HERR : Hid (¬ OkTo L.length P → bodyPost Try.prog Try.f31 (GAns w (dropA (pns L) s P) (dropS (pns L) s P) (errG (dropB (pns L) s P))) .ret = bodyPost Try.prog Try.f31 (GAns w [] 0 1) .ret) := Lib.hid (fun h => by
          have E0 : dropB (pns L) s P = false := by rw [EB.out]; exact decide_eq_false h
          unfold dropA dropS
          rw [E0]; rfl)
        clear hco hvo bW
        by_cases hr : 0 ≤ p ∧ p < (L.length : Int)
        · obtain ⟨pN, rfl⟩ := Int.eq_ofNat_of_zero_le hr.1
          have hpN : pN < L.length := by omega
          have a1 : decide ((pN : Int) < 0) = false := decide_eq_false (by omega)
          have a2 : decide ((L.length : Int) ≤ (pN : Int)) = false := decide_eq_false (by omega)
          have y1 : (0 : Int) ≤ (pN : Int) := by omega
          have y2 : (pN : Int) < (L.length : Int) := by omega
          have cg : wr.cell? ⟨q, pN, none⟩ = some (.bool (goneAt (P.take k) pN)) := (HS.out.m.cell pN).trans ((cellsB_at (by rw [goneL_len]; exact hpN)).trans (by rw [goneL_at hpN]))
          have fg := HS.out.m.frozen pN
          cases hg : goneAt (P.take k) pN with
          | true =>
            rw [hg] at cg
            have HE := Lib.hid (HERR.out (okTo_twice HPG.out hg))
            clear hg
            go_wp2
            rw [HE.out]
            refine bodyPost_ret (v := .tuple #[.agg #[.slice none 0 0, .int .i64 0], .int .i64 1]) (by rw [resCellH rfl]; go_simp) rfl ?_
            exact GAns.nil _ _ (by rw [HG.out]; exact (HS.out.bel.setCell (p := ⟨g + 1, 0, none⟩) (Nat.le_succ _) _).setCell (p := ⟨g + 1, 1, none⟩) (Nat.le_succ _) _)
          | false =>
            rw [hg] at cg
            have HK2 := Lib.hid (HK.out.snoc hpN hg)
            have HS2 := Lib.hid (HS.out.setM hgq pN true)
            rw [goneL_set hpN] at HS2
            have HTK : Hid (P.take (k + 1) = P.take k ++ [(pN : Int)]) := Lib.hid (by rw [List.take_add_one, HPG.out]; rfl)
            rw [← HTK.out] at HK2 HS2
            clear hg
            go_wp2
            exact ⟨⟨k + 1, by omega, by go_num, HK2, HS2⟩, by simp [intOf]; omega⟩
        · have HE := Lib.hid (HERR.out (okTo_range HPG.out hr))
          by_cases hr1 : p < 0
          · have a1 : decide (p < 0) = true := decide_eq_true hr1
            go_wp2
            rw [HE.out]
            refine bodyPost_ret (v := .tuple #[.agg #[.slice none 0 0, .int .i64 0], .int .i64 1]) (by rw [resCellH rfl]; go_simp) rfl ?_
            exact GAns.nil _ _ (by rw [HG.out]; exact (HS.out.bel.setCell (p := ⟨g + 1, 0, none⟩) (Nat.le_succ _) _).setCell (p := ⟨g + 1, 1, none⟩) (Nat.le_succ _) _)
          · have a1 : decide (p < 0) = false := decide_eq_false hr1
            have a2 : decide ((L.length : Int) ≤ p) = true := decide_eq_true (by omega)
            go_wp2
            rw [HE.out]
            refine bodyPost_ret (v := .tuple #[.agg #[.slice none 0 0, .int .i64 0], .int .i64 1]) (by rw [resCellH rfl]; go_simp) rfl ?_
            exact GAns.nil _ _ (by rw [HG.out]; exact (HS.out.bel.setCell (p := ⟨g + 1, 0, none⟩) (Nat.le_succ _) _).setCell (p := ⟨g + 1, 1, none⟩) (Nat.le_succ _) _)
      · obtain rfl : k = P.length := by omega
        have e1 : decide ((P.length : Int) < (P.length : Int)) = false := decide_eq_false (by omega)
        rw [List.take_length] at HK HS
        have hmk2 : ∀ W : World, (Instr.makeSlice 35 (.int .i64 (L.length : Int)) (.int .i64 (L.length : Int))).run Try.prog W = .ok (.slice (some ⟨W.heap.size, 0, none⟩) L.length L.length) (W.alloc (.cells (cellsI (List.replicate L.length 0)) 3)) := fun W => by
          have := run_make_row' (P := Try.prog) 35 3 (.int .i64 0) 8 Try.underlying35 Try.info3 (by rfl) .i64 .i64 L.length (by omega) (by omega) W
          rw [cellsI_made] at this
          exact this
        have HOK := Lib.hid HK.out
        have EB2 := Lib.hid (show dropB (pns L) s P = true by rw [EB.out]; exact decide_eq_true HK.out)
        clear HK EB
        go_wp2
        have st2 : Dr2 w g q wr.heap.size box (goneL L.length P) (toK L.length P 0) (wr.alloc (.cells (cellsI (List.replicate L.length 0)) 3)) := by
          rw [toK_zero]
          exact ⟨HS.out.below (below_one (Below.refl _ _) _), Whole.new wr 3 _⟩
        have hq2 : q < wr.heap.size := HS.out.m.lt
        obtain ⟨w3, ew3⟩ : ∃ w3, wr.alloc (.cells (cellsI (List.replicate L.length 0)) 3) = w3 := ⟨_, rfl⟩
        rw [ew3] at st2 ⊢
        obtain ⟨t, et⟩ : ∃ t, wr.heap.size = t := ⟨_, rfl⟩
        rw [et] at st2 hq2 ⊢
        have HST := Lib.hid st2
        clear ew3 et st2 HS hmk2
        go_loopw [11, 12] (fun kk i wz => ∃ m : Nat, m ≤ L.length ∧ i = .int .i64 m ∧ kk = .int .i64 ((toN P m : Nat) : Int) ∧ Hid (Dr2 w g q t box (goneL L.length P) (toK L.length P m) wz)) (fun _ i _ => L.length - (intOf i).toNat)
        case atStart => exact ⟨0, by omega, rfl, rfl, HST⟩
        case round =>
          clear HST
          obtain ⟨m, hm, rfl, rfl, HS⟩ := hrel
          by_cases hlt : m < L.length
          · have e1 : decide ((m : Int) < (L.length : Int)) = true := decide_eq_true (by omega)
            have x1 : (0 : Int) ≤ (m : Int) := by omega
            have x2 : (m : Int) < (L.length : Int) := by omega
            have c1 : wr.cell? ⟨t, m, none⟩ = some (.int .i64 (hAt (toK L.length P m) m)) := (HS.out.t.cell m).trans (cellsI_at (by rw [toK_len hm]; exact hlt))
            have f1 := HS.out.t.frozen m
            have n1 := HS.out.setT hgq hq2 m ((toN P m : Nat) : Int)
            rw [toK_set hlt] at n1
            have cg : (wr.setCell ⟨t, m, none⟩ (.int .i64 ((toN P m : Nat) : Int))).cell? ⟨q, m, none⟩ = some (.bool (goneAt P m)) := (n1.d.m.cell m).trans ((cellsB_at (by rw [goneL_len]; exact hlt)).trans (by rw [goneL_at hlt]))
            have HN := Lib.hid n1
            have htl := toN_le P m
            clear n1
            cases hg : goneAt P m with
            | true =>
              rw [hg] at cg
              have HT := Lib.hid (toN_yes hg)
              clear hg
              go_wp2
              exact ⟨⟨m + 1, by omega, by go_num, by rw [HT.out], HN⟩, by simp [intOf]; omega⟩
            | false =>
              rw [hg] at cg
              have HT := Lib.hid (toN_no hg)
              have wk : IntKind.i64.wrap (((toN P m : Nat) : Int) + 1) = ((toN P m : Nat) : Int) + 1 := by rw [IntKind.wrap_i64]; omega
              clear hg
              go_wp2
              exact ⟨⟨m + 1, by omega, by go_num, by rw [HT.out]; go_num, HN⟩, by simp [intOf]; omega⟩
          · obtain rfl : m = L.length := by omega
            have e1 : decide ((L.length : Int) < (L.length : Int)) = false := decide_eq_false (by omega)
            have HD := Lib.hid (HS.out.below (below_one (Below.refl _ _) (.cells #[.slice none 0 0, .int .i64 0] 24)))
            have HBX := Lib.hid (Whole.new wr 24 #[.slice none 0 0, .int .i64 0])
            have htb : t < wr.heap.size := HS.out.t.lt
            have HOW := Lib.hid (OwnG.nil (wr.alloc (.cells #[.slice none 0 0, .int .i64 0] 24)) (wr.heap.size + 1))
            clear HS hk hm
            go_wp2
            obtain ⟨w4, ew4⟩ : ∃ w4, wr.alloc (.cells #[.slice none 0 0, .int .i64 0] 24) = w4 := ⟨_, rfl⟩
            rw [ew4] at HD HBX HOW ⊢
            obtain ⟨b, eb⟩ : ∃ b, wr.heap.size = b := ⟨_, rfl⟩
            rw [eb] at htb HBX HOW ⊢
            clear ew4 eb
            go_loopw [14] (fun i wz => ∃ (m : Nat) (OA : Option Addr) (oc : Nat) (T : List Gn), m ≤ L.length ∧ i = .int .i64 m ∧ Hid (Dr2 w g q t box (goneL L.length P) (toK L.length P L.length) wz) ∧ Hid (Whole wz b 24 #[.slice OA T.length oc, .int .i64 0]) ∧ Hid (OwnG wz (b + 1) OA oc T) ∧ Hid (pns T = dropN (pns L) P m)) (fun i _ => L.length - (intOf i).toNat)
            case atStart => exact ⟨0, none, 0, [], by omega, rfl, HD, HBX, HOW, Lib.hid rfl⟩
            case round =>
              clear HD HBX HOW
              obtain ⟨m, OA, oc, T, hm, rfl, HD, HBX, HOW, HT⟩ := hrel
              by_cases hlt : m < L.length
              · have e1 : decide ((m : Int) < (L.length : Int)) = true := decide_eq_true (by omega)
                have x1 : (0 : Int) ≤ (m : Int) := by omega
                have x2 : (m : Int) < (L.length : Int) := by omega
                have cg : wr.cell? ⟨q, m, none⟩ = some (.bool (goneAt P m)) := (HD.out.d.m.cell m).trans ((cellsB_at (by rw [goneL_len]; exact hlt)).trans (by rw [goneL_at hlt]))
                cases hg : goneAt P m with
                | true =>
                  rw [hg] at cg
                  have HT2 := Lib.hid (HT.out.trans (dropN_yes hg).symm)
                  clear hg
                  go_wp2
                  exact ⟨⟨m + 1, OA, oc, T, by omega, by go_num, HD, HBX, HOW, HT2⟩, by simp [intOf]; omega⟩
                | false =>
                  rw [hg] at cg
                  have b0 : wr.cell? ⟨g, 0, none⟩ = some (.slice A L.length c) := (HD.out.d.bx.cell 0).trans (by rw [← HBOX.out]; rfl)
                  obtain ⟨bb, off, id, a1, c1, v, a2, c2, o, rfl, hBb, h1, h2, h3, hr1, hr2, hv⟩ := HX.out.rd.at_ hlt
                  have bW : Below w.heap.size w wr := by rw [HG.out]; exact HD.out.d.bel
                  have h1' : wr.cell? ⟨bb, off + m * 3, none⟩ = some (.int .u64 id) := (bW.cell (p := ⟨bb, off + m * 3, none⟩) hBb).trans h1
                  have h2' : wr.cell? ⟨bb, off + m * 3 + 1, none⟩ = some (.slice a1 v.length c1) := (bW.cell (p := ⟨bb, off + m * 3 + 1, none⟩) hBb).trans h2
                  have h3' : wr.cell? ⟨bb, off + m * 3 + 2, none⟩ = some (.slice a2 o.length c2) := (bW.cell (p := ⟨bb, off + m * 3 + 2, none⟩) hBb).trans h3
                  have HR1 := Lib.hid hr1
                  have HR2 := Lib.hid hr2
                  have HV := Lib.hid hv.out
                  have hsm := HX.out.sm.at_ (List.mem_of_getElem? (pns_at hv.out))
                  have hvl : v.length ≤ 20000 := hsm.1
                  have hol : o.length ≤ 20000 := hsm.2
                  clear hsm hv hr1 hr2 h1 h2 h3 bW
                  have HXB : Hid (Whole ((wr.alloc (.cells #[.int .u64 id, .slice a1 v.length c1, .slice a2 o.length c2] 65)).alloc (.cells #[.int .u64 id, .slice none 0 0, .slice none 0 0] 65)) wr.heap.size 65 #[.int .u64 id, .slice a1 v.length c1, .slice a2 o.length c2]) := Lib.hid ((Whole.new wr 65 _).alloc _)
                  have HYB : Hid (Whole ((wr.alloc (.cells #[.int .u64 id, .slice a1 v.length c1, .slice a2 o.length c2] 65)).alloc (.cells #[.int .u64 id, .slice none 0 0, .slice none 0 0] 65)) (wr.heap.size + 1) 65 #[.int .u64 id, .slice none 0 0, .slice none 0 0]) := Lib.hid (by
                    have := Whole.new (wr.alloc (.cells #[.int .u64 id, .slice a1 v.length c1, .slice a2 o.length c2] 65)) 65 #[.int .u64 id, .slice none 0 0, .slice none 0 0]
                    simpa using this)
                  have BA : Below wr.heap.size wr ((wr.alloc (.cells #[.int .u64 id, .slice a1 v.length c1, .slice a2 o.length c2] 65)).alloc (.cells #[.int .u64 id, .slice none 0 0, .slice none 0 0] 65)) := below_one (below_one (Below.refl _ _) _) _
                  have hbx : b < wr.heap.size := HBX.out.lt
                  have H3 := Lib.hid (show Dr3 w g q t b wr.heap.size box (goneL L.length P) (toK L.length P L.length) OA oc T #[.int .u64 id, .slice a1 v.length c1, .slice a2 o.length c2] _ from ⟨HD.out.below BA, HBX.out.below BA HBX.out.lt, (OwnR.of HOW.out).below BA, HXB.out⟩)
                  have hrdv : Rd .i8 ((wr.alloc (.cells #[.int .u64 id, .slice a1 v.length c1, .slice a2 o.length c2] 65)).alloc (.cells #[.int .u64 id, .slice none 0 0, .slice none 0 0] 65)) w.heap.size a1 v := HR1.out.below (by rw [HG.out]; exact H3.out.d.d.bel)
                  have hnlv : a1 = none → c1 = 0 := HNL.out _ (List.mem_of_getElem? HV.out)
                  obtain ⟨j0, hj, hjz0, hjz1, hjz2⟩ := info_parts Try.info84
                  clear HD HBX HOW HXB
                  go_wp2_with (at_builtin; refine wpList_app _ rfl _ _ 63 rfl (wr.heap.size + 1 + 1) 84 j0 (.int .i8 0) 1 Try.underlying63 hj hjz0 hjz1 hjz2 rfl .i8 (.slice none 0 0) 0 [] rfl (own_nil_row _ _ _) a1 v.length c1 v w.heap.size rfl rfl hrdv hnlv (by show 0 + v.length ≤ 9223372036854775807; omega) (by omega) (by simp) ?_; intro v' w5 hown' hgrow
                               rw [Nat.zero_add, List.nil_append] at hown'
                               obtain ⟨va, vm, vc, rfl⟩ := own_form hown'
                               obtain rfl := own_len hown'
                               have h5 := H3.out.grown hgq hq2 htb hbx hgrow (fun k hk => by cases hk)
                               have y5 := whole_grown (hi := wr.heap.size + 1 + 1) HYB.out hgrow (fun k hk => by cases hk) (Nat.lt_succ_self _)
                               have yf := y5.frozen 1
                               have yc := y5.cell 1)
                  have H6 := Lib.hid (h5.set hgq hq2 htb hbx (Nat.lt_succ_self _) 1 (.slice va v.length vc))
                  have Y6 : Hid (Whole (w5.setCell ⟨wr.heap.size + 1, 1, none⟩ (.slice va v.length vc)) (wr.heap.size + 1) 65 #[.int .u64 id, .slice va v.length vc, .slice none (keepO P (o.take 0)).length 0]) := Lib.hid (y5.set 1 (.slice va v.length vc))
                  have V6 := Lib.hid (row_setK (i := 1) (u := .slice va v.length vc) (b := wr.heap.size + 1) hown' (fun e => by have := (hown'.lt _ e).1; omega))
                  have O6 : Hid ((w5.setCell ⟨wr.heap.size + 1, 1, none⟩ (.slice va v.length vc)).ownsRow (wr.heap.size + 1 + 1) 3 1 (.slice none (keepO P (o.take 0)).length 0) (keepO P (o.take 0)).length ((keepO P (o.take 0)).map (Value.int .i64))) := Lib.hid (own_nil_row _ _ _)
                  have S6 : wr.heap.size + 1 + 1 ≤ (w5.setCell ⟨wr.heap.size + 1, 1, none⟩ (.slice va v.length vc)).heap.size := by
                    have e : (w5.setCell ⟨wr.heap.size + 1, 1, none⟩ (.slice va v.length vc)).heap.size = w5.heap.size := by simp
                    rw [e]; exact y5.lt
                  have EO := Lib.hid (show outAt (pns L) m = o by unfold outAt; rw [nAt_get (pns_at HV.out)])
                  have EN := Lib.hid (show nAt (pns L) m = (id, v, o) from nAt_get (pns_at HV.out))
                  obtain ⟨w6, ew6⟩ : ∃ w6, w5.setCell ⟨wr.heap.size + 1, 1, none⟩ (.slice va v.length vc) = w6 := ⟨_, rfl⟩
                  rw [ew6] at H6 Y6 V6 O6 S6 ⊢
                  obtain ⟨gx, egx⟩ : ∃ gx, wr.heap.size = gx := ⟨_, rfl⟩
                  rw [egx] at H6 Y6 V6 O6 S6 hbx ⊢
                  clear ew6 egx hown' hgrow h5 y5 yf yc H3 HYB BA hrdv hnlv b0 cg h1' h2' h3' hj hjz0 hjz1 hjz2
                  obtain ⟨xb, exb⟩ : ∃ xb : Array Value, #[.int .u64 id, .slice a1 v.length c1, .slice a2 o.length c2] = xb := ⟨_, rfl⟩
                  rw [exb] at H6
                  have HXE := Lib.hid exb
                  have HG2 := Lib.hid hg
                  clear exb hg
                  obtain ⟨i0, hi, hz0, hz1, hz2⟩ := info_parts Try.info3
                  obtain ⟨n0, ni, nz0, nz1, nz2⟩ := info_parts Try.info65g
                  go_loopw [17] (fun jj wz => ∃ (j : Nat) (KA : Option Addr) (kc : Nat), j ≤ o.length ∧ jj = .int .i64 j ∧ Hid (Dr3 w g q t b gx box (goneL L.length P) (toK L.length P L.length) OA oc T xb wz) ∧ Hid (Whole wz (gx + 1) 65 #[.int .u64 id, .slice va v.length vc, .slice KA (keepO P (o.take j)).length kc]) ∧ Hid (wz.ownsRow (gx + 1 + 1) 84 1 (.slice va v.length vc) v.length (v.map (Value.int .i8))) ∧ Hid (wz.ownsRow (gx + 1 + 1) 3 1 (.slice KA (keepO P (o.take j)).length kc) (keepO P (o.take j)).length ((keepO P (o.take j)).map (Value.int .i64))) ∧ gx + 1 + 1 ≤ wz.heap.size) (fun jj _ => o.length - (intOf jj).toNat)
                  case atStart => exact ⟨0, none, 0, by omega, rfl, H6, Y6, V6, O6, S6⟩
                  case round =>
                    clear H6 Y6 V6 O6 S6
                    obtain ⟨j, KA, kc, hj, rfl, H6, Y6, V6, O6, S6⟩ := hrel
                    have hkl := keepO_len P (o.take j)
                    rw [List.length_take] at hkl
                    by_cases hlt2 : j < o.length
                    · have g1 : decide ((j : Int) < (o.length : Int)) = true := decide_eq_true (by omega)
                      have cx : wr.cell? ⟨gx, 2, none⟩ = some (.slice a2 o.length c2) := (H6.out.xb.cell 2).trans (by rw [← HXE.out]; rfl)
                      obtain ⟨bo, oo, p, rfl, hBo, hco, hvo⟩ := HR2.out.at_ hlt2
                      have ep : o[j]? = some p := by rw [← hvo.out, List.getElem?_eq_getElem hlt2]; rfl
                      have htr := HHS.out.out (i := m) (by rw [HLN.out]; exact hlt) (List.mem_of_getElem? (by rw [EO.out]; exact ep))
                      rw [HLN.out] at htr
                      obtain ⟨pN, rfl⟩ := Int.eq_ofNat_of_zero_le htr.1
                      have hpN : pN < L.length := by omega
                      have bW : Below w.heap.size w wr := by rw [HG.out]; exact H6.out.d.d.bel
                      have co : wr.cell? ⟨bo, oo + j, none⟩ = some (.int .i64 (pN : Int)) := (bW.cell (p := ⟨bo, oo + j, none⟩) hBo).trans hco
                      have cg : wr.cell? ⟨q, pN, none⟩ = some (.bool (goneAt P pN)) := (H6.out.d.d.m.cell pN).trans ((cellsB_at (by rw [goneL_len]; exact hpN)).trans (by rw [goneL_at hpN]))
                      have ct : wr.cell? ⟨t, pN, none⟩ = some (.int .i64 ((toN P pN : Nat) : Int)) := (H6.out.d.t.cell pN).trans ((cellsI_at (by rw [toK_len (Nat.le_refl _)]; exact hpN)).trans (by rw [toK_at hpN]))
                      have y1 : (0 : Int) ≤ (j : Int) := by omega
                      have y2 : (j : Int) < (o.length : Int) := by omega
                      have y3 : (0 : Int) ≤ (pN : Int) := by omega
                      have y4 : (pN : Int) < (L.length : Int) := by omega
                      have HEP := Lib.hid ep
                      clear hco hvo bW htr ep
                      cases hg : goneAt P pN with
                      | true =>
                        rw [hg] at cg
                        have HK := Lib.hid (keepO_yes HEP.out hg)
                        clear hg
                        go_wp2
                        exact ⟨⟨j + 1, KA, kc, by omega, by go_num, H6, by rw [HK.out]; exact Y6, V6, by rw [HK.out]; exact O6, S6⟩, by simp [intOf]; omega⟩
                      | false =>
                        rw [hg] at cg
                        have HK := Lib.hid (keepO_no HEP.out hg)
                        clear hg
                        obtain ⟨K, eK⟩ : ∃ K, keepO P (o.take j) = K := ⟨_, rfl⟩
                        rw [eK] at HK Y6 O6 hkl
                        have cy := Y6.out.cell 2
                        obtain ⟨tv, etv⟩ : ∃ tv : Int, ((toN P pN : Nat) : Int) = tv := ⟨_, rfl⟩
                        rw [etv] at ct HK
                        clear eK etv
                        have hd : Below wr.heap.size wr wr.drew := (Below.refl _ _).drew
                        have HUP : Hid (∀ W, Below wr.heap.size wr W → Below (gx + 1 + 1) wr W) := Lib.hid (fun W h => h.mono S6)
                        have HCL : Hid (∀ W, Below (gx + 1 + 1) wr W → (W.cell? ⟨gx, 2, none⟩ = some (.slice (some ⟨bo, oo, none⟩) o.length c2) ∧ W.cell? ⟨bo, oo + j, none⟩ = some (.int .i64 (pN : Int)) ∧ W.cell? ⟨t, pN, none⟩ = some (.int .i64 tv)) ∧ W.cell? ⟨gx + 1, 2, none⟩ = some (.slice KA K.length kc) ∧ W.frozen? ⟨gx + 1, 2, none⟩ = false) := Lib.hid (fun W h => by
                          have yw := Y6.out.below h (Nat.lt_succ_self _)
                          refine ⟨⟨?_, ?_, ?_⟩, yw.cell 2, yw.frozen 2⟩
                          · exact (h.cell (p := ⟨gx, 2, none⟩) (by show gx < gx + 1 + 1; omega)).trans cx
                          · exact (h.cell (p := ⟨bo, oo + j, none⟩) (by show bo < gx + 1 + 1; rw [HG.out] at hBo; omega)).trans co
                          · exact (h.cell (p := ⟨t, pN, none⟩) (by show t < gx + 1 + 1; omega)).trans ct)
                        obtain ⟨⟨d1, d2, d3⟩, d4, d5⟩ := HCL.out _ (HUP.out _ hd)
                        obtain ⟨⟨-, -, -⟩, d4', d5'⟩ := HCL.out _ (HUP.out _ (below_one hd (.cells #[.int .i64 tv] 3)))
                        have HST : Hid (∀ (W : World) (v : Value), W.cell? ⟨gx, 2, none⟩ = some (.slice (some ⟨bo, oo, none⟩) o.length c2) ∧ W.cell? ⟨bo, oo + j, none⟩ = some (.int .i64 (pN : Int)) ∧ W.cell? ⟨t, pN, none⟩ = some (.int .i64 tv) → ((W.setCell ⟨gx + 1, 2, none⟩ v).cell? ⟨gx, 2, none⟩ = some (.slice (some ⟨bo, oo, none⟩) o.length c2) ∧ (W.setCell ⟨gx + 1, 2, none⟩ v).cell? ⟨bo, oo + j, none⟩ = some (.int .i64 (pN : Int)) ∧ (W.setCell ⟨gx + 1, 2, none⟩ v).cell? ⟨t, pN, none⟩ = some (.int .i64 tv))) := Lib.hid (fun W v z => by
                          obtain ⟨z1, z2, z3⟩ := z
                          refine ⟨?_, ?_, ?_⟩
                          · rw [World.cell?_setCell_other _ _ _ _ (fun e => by injection e with e1 e2; omega)]; exact z1
                          · rw [World.cell?_setCell_other _ _ _ _ (fun e => by injection e with e1 e2; rw [HG.out] at hBo; omega)]; exact z2
                          · rw [World.cell?_setCell_other _ _ _ _ (fun e => by injection e with e1 e2; omega)]; exact z3)
                        have hln : K.length + 1 ≤ 20001 := by omega
                        have HCL4 : Hid (∀ W, Below (gx + 1 + 1) wr W → W.cell? ⟨gx, 2, none⟩ = some (.slice (some ⟨bo, oo, none⟩) o.length c2) ∧ W.cell? ⟨bo, oo + j, none⟩ = some (.int .i64 (pN : Int)) ∧ W.cell? ⟨t, pN, none⟩ = some (.int .i64 tv) ∧ W.cell? ⟨gx + 1, 2, none⟩ = some (.slice KA K.length kc)) := Lib.hid (fun W h => ⟨(HCL.out W h).1.1, (HCL.out W h).1.2.1, (HCL.out W h).1.2.2, (HCL.out W h).2.1⟩)
                        go_wp2
                        clear cx co cg ct
                        obtain ⟨-, e4, e5⟩ := HCL.out _ (HUP.out _ (below_one (Below.refl _ wr) (.cells #[.int .i64 tv] 3)).drew)
                        go_region_law
                          (first
                            | (refine step_append_lies _ (by rfl) _ _ _ (by rfl) (gx + 1 + 1) 3 i0 (.int .i64 0) 1 8 Try.underlying35 hi hz0 hz1 hz2 rfl (by omega) (.slice KA K.length kc) K.length (K.map (Value.int .i64)) (by rfl) (own_below O6.out (below_one (Below.refl _ _) _).drew) ⟨wr.heap.size, 0, none⟩ 1 1 [.int .i64 tv] (by rfl) (by rfl) (World.news_of_block (cs := #[.int .i64 tv]) (t := 3) (fr := (0, 0)) (heap_alloc_new wr _)) (by simp [Value.oneCell']) (by omega) (by unfold maxLen; omega) (by omega) (by show gx + 1 + 1 ≤ (wr.alloc _).heap.size; rw [World.size_alloc]; exact Nat.le_succ_of_le S6) (wr.heap.size + 1) (by simp) ?_; intro gg gcap w6 hown6 hgrow6 hat6 hlt6
                               have b6 : Below (gx + 1 + 1) wr w6 := (HUP.out _ (below_one (Below.refl _ _) _).drew).grown hgrow6 (by show gx + 1 + 1 ≤ (wr.alloc _).heap.size; rw [World.size_alloc]; exact Nat.le_succ_of_le S6) (fun r hr => (O6.out.lt r hr).1)
                               obtain ⟨⟨k1, k2, k3⟩, k4, k5⟩ := HCL.out w6 b6)
                            | fail)
                        all_goals
                          have hb7 : ∀ k, (Value.slice KA K.length kc).ownBlock = some k → gx + 1 + 1 ≤ k := fun k hk => (O6.out.lt k hk).1
                          have bA : Below wr.heap.size wr (wr.alloc (.cells #[.int .i64 tv] 3)).drew := (below_one (Below.refl _ _) _).drew
                          have h7 := Lib.hid (((H6.out.below bA).grown hgq hq2 htb hbx hgrow6 (fun k hk => Nat.le_of_succ_le (hb7 k hk))).set (y := gx + 1) hgq hq2 htb hbx (Nat.lt_succ_self _) 2 (.slice (some ⟨gg, 0, none⟩) (K.length + 1) gcap))
                          have y7 := Lib.hid ((whole_grown (Y6.out.below bA Y6.out.lt) hgrow6 hb7 (Nat.lt_succ_self _)).set 2 (.slice (some ⟨gg, 0, none⟩) (K.length + 1) gcap))
                          have v7 := Lib.hid (row_setK (i := 2) (u := .slice (some ⟨gg, 0, none⟩) (K.length + 1) gcap) (b := gx + 1) (row_farK (own_below V6.out bA) (own_below O6.out bA) (by decide) hgrow6) (fun e => by have := (V6.out.lt _ e).1; omega))
                          have o7 := Lib.hid (row_setK (i := 2) (u := .slice (some ⟨gg, 0, none⟩) (K.length + 1) gcap) (b := gx + 1) hown6 (fun e => by have := (hown6.lt _ e).1; omega))
                          have s7 : gx + 1 + 1 ≤ w6.heap.size := Nat.le_trans S6 b6.size
                          have HKL := Lib.hid (show K.length + 1 = (keepO P (o.take (j + 1))).length by rw [HK.out]; simp)
                          clear hown6 hgrow6 hat6 hlt6 b6 bA k1 k2 k3 k4 k5
                          go_wp2
                          go_roundw
                          case rel => exact ⟨j + 1, some ⟨gg, 0, none⟩, gcap, by omega, by go_num, h7, by rw [← HKL.out]; exact y7, v7, by rw [← HKL.out, HK.out, List.map_append]; exact o7, by simpa using s7⟩
                          case measure => simp [intOf]; omega
                    · obtain rfl : j = o.length := by omega
                      have g1 : decide ((o.length : Int) < (o.length : Int)) = false := decide_eq_false (by omega)
                      have cx : wr.cell? ⟨gx, 2, none⟩ = some (.slice a2 o.length c2) := (H6.out.xb.cell 2).trans (by rw [← HXE.out]; rfl)
                      rw [List.take_of_length_le (Nat.le_refl _)] at Y6 O6 hkl
                      obtain ⟨K, eK⟩ : ∃ K, keepO P o = K := ⟨_, rfl⟩
                      rw [eK] at Y6 O6 hkl
                      have HKE := Lib.hid eK
                      have q0 := Y6.out.cell 0
                      have q1 := Y6.out.cell 1
                      have q2 := Y6.out.cell 2
                      have bc := H6.out.ob.cell 0
                      have bf := H6.out.ob.frozen 0
                      have hTl : T.length ≤ m := by
                        have h1 := congrArg List.length HT.out
                        rw [pns_len, dropN_len] at h1
                        have := toN_le P m
                        omega
                      clear eK
                      go_wp2_with (at_builtin; refine wpList_append_own _ rfl _ _ 22 rfl (b + 1) 65 n0 (.agg #[.int .u64 0, .slice none 0 0, .slice none 0 0]) 3 56 Try.underlying22 ni nz0 nz1 nz2 rfl (by decide) _ _ _ rfl (H6.out.ow.own.row.alloc _) ⟨wr.heap.size, 0, none⟩ 1 1 [.int .u64 id, .slice va v.length vc, .slice KA K.length kc] rfl rfl (World.news_of_block (cs := #[.int .u64 id, .slice va v.length vc, .slice KA K.length kc]) (t := 65) (fr := (0, 0)) (heap_alloc_new wr _)) (by simp [Value.oneCell']) (by show T.length + 1 ≤ 9223372036854775807; omega) (by omega) (by rw [World.size_alloc]; omega) ?_; intro v' w7 hown' hgrow _
                                   obtain ⟨va2, vm2, vc2, rfl⟩ := own_form hown'
                                   obtain rfl := own_len hown'
                                   have hb7 : ∀ k, (Value.slice OA T.length oc).ownBlock = some k → b + 1 ≤ k := fun k hk => (H6.out.ow.own.row.lt k hk).1
                                   have d7 := (H6.out.d.below (below_one (Below.refl _ _) (.cells #[.int .u64 id, .slice va v.length vc, .slice KA K.length kc] 65))).grown hgq hq2 hgrow (fun k hk => by have := hb7 k hk; omega)
                                   have o7 := whole_grown (H6.out.ob.alloc (.cells #[.int .u64 id, .slice va v.length vc, .slice KA K.length kc] 65)) hgrow hb7 (Nat.lt_succ_self _)
                                   have n7 := H6.out.ow.next (x := (id, (va, vc, v), (KA, kc, K))) V6.out O6.out (by omega) (by omega) _ hown' hgrow
                                   have f7 := o7.frozen 0
                                   have c7 := o7.cell 0)
                      go_roundw
                      case rel =>
                        refine ⟨m + 1, va2, vc2, T ++ [(id, (va, vc, v), (KA, kc, K))], by omega, by go_num, Lib.hid (d7.set hgq hq2 htb 0 _), ?_, Lib.hid (n7.set (Nat.lt_succ_self _) 0 _), Lib.hid ?_⟩
                        · rw [List.length_append, List.length_singleton]
                          exact o7.set 0 _
                        · rw [pns_snoc, HT.out, dropN_no HG2.out, EN.out]
                          show dropN (pns L) P m ++ [(id, v, K)] = dropN (pns L) P m ++ [(id, v, keepO P o)]
                          rw [HKE.out]
                      case measure => simp [intOf]; omega
              · obtain rfl : m = L.length := by omega
                have e1 : decide ((L.length : Int) < (L.length : Int)) = false := decide_eq_false (by omega)
                have EA := Lib.hid (show dropA (pns L) s P = dropN (pns L) P L.length by unfold dropA; rw [EB2.out, HLN.out]; rfl)
                have oc0 := HBX.out.cell 0
                have oc1 := HBX.out.cell 1
                have r0 := HD.out.d.rs.cell 0
                have r1 := HD.out.d.rs.cell 1
                have f0 := HD.out.d.rs.frozen 0
                have f1 := HD.out.d.rs.frozen 1
                by_cases h0 : L.length = 0
                · have e2 : decide (0 < (L.length : Int)) = false := decide_eq_false (by omega)
                  have e3 : decide (0 < L.length) = false := decide_eq_false (by omega)
                  have ES := Lib.hid (show dropS (pns L) s P = 0 by
                    unfold dropS
                    rw [HLN.out, show decide (0 < L.length) = false from decide_eq_false (by omega), Bool.and_false, Bool.false_and]; rfl)
                  clear h0
                  go_wp2
                  rw [EB2.out, EA.out, ES.out]
                  refine bodyPost_ret (v := .tuple #[.agg #[.slice OA T.length oc, .int .i64 0], .int .i64 0]) (by rw [resCellH rfl]; go_simp) rfl ?_
                  exact ⟨OA, oc, T, rfl, ((HOW.out.set (b := g + 1) (by omega) 0 (.slice OA T.length oc)).set (b := g + 1) (by omega) 1 (.int .i64 0)).base (by rw [HG.out]; omega), HT.out, by rw [HG.out]; exact (HD.out.d.bel.setCell (p := ⟨g + 1, 0, none⟩) (Nat.le_succ _) _).setCell (p := ⟨g + 1, 1, none⟩) (Nat.le_succ _) _⟩
                · have e2 : decide (0 < (L.length : Int)) = true := decide_eq_true (by omega)
                  have e3 : decide (0 < L.length) = true := decide_eq_true (by omega)
                  have hst := HHS.out.start (by rw [HLN.out]; omega)
                  rw [HLN.out] at hst
                  obtain ⟨sN, rfl⟩ := Int.eq_ofNat_of_zero_le hst.1
                  have hsN : sN < L.length := by omega
                  have x1 : (0 : Int) ≤ (sN : Int) := by omega
                  have x2 : (sN : Int) < (L.length : Int) := by omega
                  have b1 : wr.cell? ⟨g, 1, none⟩ = some (.int .i64 (sN : Int)) := (HD.out.d.bx.cell 1).trans (by rw [← HBOX.out]; rfl)
                  have cg : wr.cell? ⟨q, sN, none⟩ = some (.bool (goneAt P sN)) := (HD.out.d.m.cell sN).trans ((cellsB_at (by rw [goneL_len]; exact hsN)).trans (by rw [goneL_at hsN]))
                  have ct : wr.cell? ⟨t, sN, none⟩ = some (.int .i64 ((toN P sN : Nat) : Int)) := (HD.out.t.cell sN).trans ((cellsI_at (by rw [toK_len (Nat.le_refl _)]; exact hsN)).trans (by rw [toK_at hsN]))
                  clear hst
                  cases hg : goneAt P sN with
                  | true =>
                    rw [hg] at cg
                    have ES := Lib.hid (show dropS (pns L) (sN : Int) P = 0 by
                      unfold dropS
                      rw [Int.toNat_natCast, hg, Bool.not_true, Bool.and_false]; rfl)
                    clear hg h0
                    go_wp2
                    rw [EB2.out, EA.out, ES.out]
                    refine bodyPost_ret (v := .tuple #[.agg #[.slice OA T.length oc, .int .i64 0], .int .i64 0]) (by rw [resCellH rfl]; go_simp) rfl ?_
                    exact ⟨OA, oc, T, rfl, ((HOW.out.set (b := g + 1) (by omega) 0 (.slice OA T.length oc)).set (b := g + 1) (by omega) 1 (.int .i64 0)).base (by rw [HG.out]; omega), HT.out, by rw [HG.out]; exact (HD.out.d.bel.setCell (p := ⟨g + 1, 0, none⟩) (Nat.le_succ _) _).setCell (p := ⟨g + 1, 1, none⟩) (Nat.le_succ _) _⟩
                  | false =>
                    rw [hg] at cg
                    have ES := Lib.hid (show dropS (pns L) (sN : Int) P = ((toN P sN : Nat) : Int) by
                      unfold dropS
                      rw [Int.toNat_natCast, hg, EB2.out, HLN.out, show decide (0 < L.length) = true from decide_eq_true (by omega)]; rfl)
                    have of1 := HBX.out.frozen 1
                    have HD2 := Lib.hid (HD.out.set hgq hq2 htb 1 (.int .i64 ((toN P sN : Nat) : Int)))
                    have HO2 := Lib.hid (HOW.out.set (Nat.lt_succ_self _) 1 (.int .i64 ((toN P sN : Nat) : Int)))
                    have r0' := HD2.out.d.rs.cell 0
                    have r1' := HD2.out.d.rs.cell 1
                    have f0' := HD2.out.d.rs.frozen 0
                    have f1' := HD2.out.d.rs.frozen 1
                    have HB2 := HBX.out.set 1 (.int .i64 ((toN P sN : Nat) : Int))
                    have oc0' := HB2.cell 0
                    have oc1' := HB2.cell 1
                    clear hg h0 HB2
                    go_wp2
                    rw [EB2.out, EA.out, ES.out]
                    refine bodyPost_ret (v := .tuple #[.agg #[.slice OA T.length oc, .int .i64 ((toN P sN : Nat) : Int)], .int .i64 0]) (by rw [resCellH rfl]; go_simp) rfl ?_
                    exact ⟨OA, oc, T, rfl, ((HO2.out.set (b := g + 1) (by omega) 0 (.slice OA T.length oc)).set (b := g + 1) (by omega) 1 (.int .i64 ((toN P sN : Nat) : Int))).base (by rw [HG.out]; omega), HT.out, by rw [HG.out]; exact (HD2.out.d.bel.setCell (p := ⟨g + 1, 0, none⟩) (Nat.le_succ _) _).setCell (p := ⟨g + 1, 1, none⟩) (Nat.le_succ _) _⟩
end Go.Proofs.Ytjihnkoimbcfnaa
