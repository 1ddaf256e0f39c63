/- The walk of the statement HeapPlays. -/
import Derived.Test.YtaempklgmoabcaaGreatPe
import Derived.Deep.RegionHeld3
namespace Go.Proofs.YtaempklgmoabcaaGreat
open Go.Shelf Go.RowKit Go.Lib
open Go.Sort hiding Below
set_option linter.unusedVariables false
set_option maxRecDepth 100000 in
theorem heapPlays_far (A : Option Addr) (c n : Nat) (m : Int) (w : World) (h : 500 < n) :
    Calls Tryz.prog 3 #[.int .i64 m, .slice A n c] w fun e w' => e = .returned (.bool true) ∧ Below w.heap.size w w' := by
  have z : (500 : Int) < (n : Int) := by omega
  go_enter Tryz.func3, Tryz.ntmps3
  go_wp2
  go_ret
  exact ⟨rfl, Below.refl _ _⟩
/-- What a pop leaves of both, of the idle ones. -/
theorem iPopH {w0 : World} {hv rv : Value} {zb bk most : Nat} {ys zs : HL} (w : World) (i : InvE w0 hv rv zb bk most ys zs w) :
    Calls Tryz.prog 6 #[hv] w fun e w' => e = .returned (outV ys) ∧ InvE w0 hv rv zb bk most ys.dropLast zs w' := by
  obtain ⟨F, G, i⟩ := i
  refine (gPop hv F most ys w i.h).mono ?_
  rintro e w' ⟨h1, h2, h3⟩
  exact ⟨h1, F, G, i.stepH h2 h3 (fun f hf => .inl hf)⟩
/-- .. a block that lies apart from all stays. -/
theorem iPopR {w0 : World} {hv rv : Value} {zb bk most : Nat} {ys zs : HL} (w : World) (i : InvE w0 hv rv zb bk most ys zs w) (o : Obj) :
    Calls Tryz.prog 7 #[rv] (w.alloc o) fun e w' => e = .returned (outV zs) ∧ InvE w0 hv rv zb bk most ys zs.dropLast w' ∧ w'.heap[w.heap.size]? = some o := by
  obtain ⟨F, G, i⟩ := i
  have i' := i.same ((Turn.refl [] w).alloc o)
  refine (rPop rv G most zs _ i'.r).mono ?_
  rintro e w' ⟨h1, h2, h3⟩
  exact ⟨h1, ⟨F, G, i'.stepR h2 h3 (fun f hf => .inl hf)⟩, (h3.block _ (by simp) (fun hm => by have := i.r.lt _ hm; omega)).trans (heap_alloc_new w o)⟩
theorem iPopZ {w0 : World} {hv rv : Value} {zb bk most : Nat} {ys zs : HL} (w : World) (i : InvE w0 hv rv zb bk most ys zs w) :
    Calls Tryz.prog 6 #[.pointer (some ⟨zb, 0, none⟩)] w fun e w' => e = .returned (.tuple #[.agg #[.int .u64 0, .int .i64 0], .bool false]) ∧ Turn [] w w' := by
  obtain ⟨F, G, i⟩ := i
  rcases i.z with ⟨h, _⟩ | ⟨b, e, h⟩
  · exact idle_pop h
  · exact absurd h.facts.2.2.2.2.1 (by omega)
theorem iWorstZ {w0 : World} {hv rv : Value} {zb bk most : Nat} {ys zs : HL} (w : World) (i : InvE w0 hv rv zb bk most ys zs w) :
    Calls Tryz.prog 10 #[.pointer (some ⟨zb, 0, none⟩)] w fun e w' => e = .returned (.tuple #[.agg #[.int .u64 0, .int .i64 0], .bool false]) ∧ Turn [] w w' := by
  obtain ⟨F, G, i⟩ := i
  rcases i.z with ⟨h, _⟩ | ⟨b, e, h⟩
  · exact idle_worst h
  · exact absurd h.facts.2.2.2.2.1 (by omega)
theorem outV_eq (ys : HL) : ∃ x1 x2 bb, outV ys = .tuple #[.agg #[.int .u64 x1, .int .i64 x2], .bool bb] := ⟨_, _, _, rfl⟩
theorem rdA {w : World} {A : Option Addr} {n c : Nat} {ys : HL} (h : w.ownsRow 0 53 2 (.slice A n c) n (flatH ys)) : RdH w w.heap.size A ys := by
  obtain ⟨A', c', h1, h2, h3⟩ := own_sliceH h
  injection h1 with h1
  subst h1
  exact h3
/-- Behind the loop: the two lists that were answered stand. -/
structure StE (w0 : World) (hv rv : Value) (zb bk most : Nat) (F G : List Nat) (ys : HL) (A1 A2 : Option Addr) (w : World) : Prop where
  i : Inv w0 hv rv zb bk most F G ys ys w
  a : w.ownsRow 0 53 2 (.slice A1 ys.length ys.length) ys.length (flatH ys)
  b : w.ownsRow 0 53 2 (.slice A2 ys.length ys.length) ys.length (flatH ys)
theorem StE.same {w0 w w' : World} {hv rv : Value} {zb bk most : Nat} {F G : List Nat} {ys : HL} {A1 A2 : Option Addr} (s : StE w0 hv rv zb bk most F G ys A1 A2 w) (t : Turn [] w w') : StE w0 hv rv zb bk most F G ys A1 A2 w' :=
  ⟨s.i.same t, own_turn s.a t (fun _ _ => by simp), own_turn s.b t (fun _ _ => by simp)⟩
theorem Inv.idle {w0 w : World} {hv rv : Value} {zb bk most : Nat} {F G : List Nat} {ys zs : HL} (i : Inv w0 hv rv zb bk most F G ys zs w) : Idle w (.pointer (some ⟨zb, 0, none⟩)) [zb] := by
  rcases i.z with ⟨h, _⟩ | ⟨b, e, h⟩
  · exact h
  · exact absurd h.facts.2.2.2.2.1 (by omega)
theorem hits_any (bk base n : Nat) (A : Option Addr) (len cap : Nat) (sv : Nat → Value) (es : List Bk.Ent) (xs : List Value) (w : World) (hn : n < 1000000) (hb : base ≤ w.heap.size) (hbb : base ≤ bk) (hk : Bk.BookAt w bk n sv)
    (hK : Bk.KIn w base 53 82 2 es Bk.mkHit 0 (sv 10)) (hx : w.ownsRow base 53 2 (.slice A len cap) len xs) (hap : ∀ e' ∈ es, e'.blk = none ∨ e'.blk ≠ (Value.slice A len cap).ownBlock) (hlen : len ≤ 10000000) (hes : es.length < 1000000) :
    Calls Tryz.prog 17 #[.pointer (some ⟨bk, 0, none⟩), .slice A len cap] w (Bk.Kept 10 82 53 2 Bk.mkHit w bk base n sv (es ++ [⟨A, len, cap, n + 1⟩])) := by
  have H := Lib.hid (Bk.keepHit_any bk base n A len cap sv es xs w hn hb hbb hk hK hx hap hlen hes)
  clear hk hK hx hap
  go_enter Tryz.func17, Tryz.ntmps17
  go_wp2_with fail
  refine H.out.mono ?_
  rintro e w' ⟨rfl, h⟩
  go_wp2
  go_end0
  exact ⟨rfl, h⟩
set_option maxRecDepth 100000 in
set_option maxHeartbeats 4000000 in
theorem heapPlays_main (A : Option Addr) (c : Nat) (n : Int) (ops : List ((Int × Int) × Bool)) (w : World) (hx : RdO w w.heap.size A ops) (ok : ∀ x ∈ ops, HitOk x.1) (hl : ops.length ≤ 500) (most : Nat) (en : Int) (bn : Bool)
    (hh : ∀ w, Calls Tryz.prog 4 #[.int .i64 n] w (GNew most en bn w)) (hr : ∀ w, Calls Tryz.prog 5 #[.int .i64 n] w (RNew most en bn w)) :
    Calls Tryz.prog 3 #[.int .i64 n, .slice A ops.length c] w fun e w' => e = .returned (.bool true) ∧ Below w.heap.size w w' := by
  have z : decide ((ops.length : Int) > 500) = false := decide_eq_false (by omega)
  have z' : ¬ (500 : Int) < (ops.length : Int) := by omega
  have mixed : Tryz.prog.follows .mixedOrders = true := by kernel_rfl
  have HX := Lib.hid hx
  have OK := Lib.hid ok
  have HH := Lib.hid hh
  have HR := Lib.hid hr
  clear hx ok hh hr
  go_enter Tryz.func3, Tryz.ntmps3
  go_wp2_with fail
  refine (HH.out w).mono ?_
  rintro e w1 ⟨hv, F, rfl, h1, h2, t1, E1, E5⟩
  go_wp2_with fail
  refine (HR.out w1).mono ?_
  rintro e w2 ⟨rv, G, rfl, r1, r2, t2, E2, E6⟩
  have hfg : ∀ f ∈ F, f ∉ G := fun f hf hg => by have := h1.lt f hf; have := r2 f hg; omega
  have h1' := h1.turn t2 (fun _ _ => by simp)
  have t12 := t1.trans t2 (fun _ h => by simp at h)
  have E3 : (en != en) = false := by simp
  have E4 : (bn != bn) = false := by cases bn <;> rfl
  have HI : Hid (InvE w hv rv w2.heap.size (w2.heap.size + 1) most [] [] ((w2.alloc (.cells #[.slice none 0 0, .map none, .int .i64 0] 36)).alloc (.cells #[.int .i64 0, .slice none 0 0, .slice none 0 0, .slice none 0 0, .slice none 0 0, .slice none 0 0, .slice none 0 0, .slice none 0 0, .slice none 0 0, .slice none 0 0, .slice none 0 0, .slice none 0 0, .slice none 0 0] 50))) := by
    have k1 := (Turn.refl [] w2).alloc (.cells #[.slice none 0 0, .map none, .int .i64 0] 36)
    have k2 := k1.alloc (.cells #[.int .i64 0, .slice none 0 0, .slice none 0 0, .slice none 0 0, .slice none 0 0, .slice none 0 0, .slice none 0 0, .slice none 0 0, .slice none 0 0, .slice none 0 0, .slice none 0 0, .slice none 0 0, .slice none 0 0] 50)
    have k3 := (Turn.refl [] (w2.alloc (.cells #[.slice none 0 0, .map none, .int .i64 0] 36))).alloc (.cells #[.int .i64 0, .slice none 0 0, .slice none 0 0, .slice none 0 0, .slice none 0 0, .slice none 0 0, .slice none 0 0, .slice none 0 0, .slice none 0 0, .slice none 0 0, .slice none 0 0, .slice none 0 0, .slice none 0 0] 50)
    have hz : HG (w2.alloc (.cells #[.slice none 0 0, .map none, .int .i64 0] 36)) (.pointer (some ⟨w2.heap.size, 0, none⟩)) [w2.heap.size] 0 [] := .inl ⟨.inr ⟨_, rfl, rfl, Whole.new w2 36 _⟩, rfl, rfl⟩
    have hb := book_new (w2.alloc (.cells #[.slice none 0 0, .map none, .int .i64 0] 36))
    have es : (w2.alloc (.cells #[.slice none 0 0, .map none, .int .i64 0] 36)).heap.size = w2.heap.size + 1 := by simp
    rw [es] at hb
    have s1 := t1.size
    have s2 := t12.size
    exact ⟨F, G, h1'.turn k2 (fun _ _ => by simp), r1.turn k2 (fun _ _ => by simp), hz.turn k3 (fun _ _ => by simp), hb, hfg, fun h => by have := h1'.lt _ h; omega, fun h => by have := r1.lt _ h; omega, fun h => by have := h1'.lt _ h; omega, fun h => by have := r1.lt _ h; omega, by omega, fun f hf => h2 f hf, fun f hf => by have := r2 f hf; omega, s2, by omega, t12.trans k2 (fun _ h => by simp at h)⟩
  clear h1 h2 t1 r1 r2 t2 hfg h1' t12
  go_wp2
  generalize (w2.alloc (.cells #[.slice none 0 0, .map none, .int .i64 0] 36)).alloc (.cells #[.int .i64 0, .slice none 0 0, .slice none 0 0, .slice none 0 0, .slice none 0 0, .slice none 0 0, .slice none 0 0, .slice none 0 0, .slice none 0 0, .slice none 0 0, .slice none 0 0, .slice none 0 0, .slice none 0 0] 50) = w3 at HI ⊢
  generalize w2.heap.size + 1 = bk at HI ⊢
  generalize w2.heap.size = zb at HI ⊢
  go_loopg [12] ops.length (fun g1 s wr => ∃ (i : Nat) (ys : HL), s = .int .i64 i ∧ i ≤ ops.length ∧ ops.length - i ≤ g1 ∧ Hid (InvE w hv rv zb bk most ys ys wr))
  case atStart => exact ⟨0, [], rfl, by omega, by omega, HI⟩
  case round =>
    clear HI
    obtain ⟨i, ys, rfl, hi, hg1, HM⟩ := hrel
    by_cases hlt : i < ops.length
    · obtain ⟨b, off, x, y, p, rfl, hb, hc0, hc1, hc2, hop⟩ := HX.out i hlt
      have okx : Hid (HitOk (x, y)) := OK.out _ (List.mem_of_getElem? hop)
      have KC : Hid (∀ W, Below w.heap.size w W → W.cell? ⟨b, off + i * 3, none⟩ = some (.int .u64 x) ∧ W.cell? ⟨b, off + i * 3 + 1, none⟩ = some (.int .i64 y) ∧ W.cell? ⟨b, off + i * 3 + 2, none⟩ = some (.bool p)) := fun W hB =>
        ⟨(hB.cell (p := ⟨b, _, none⟩) hb).trans hc0, (hB.cell (p := ⟨b, _, none⟩) hb).trans hc1, (hB.cell (p := ⟨b, _, none⟩) hb).trans hc2⟩
      have z3 : (i : Int) < (ops.length : Int) := by omega
      have kc2 := (KC.out wr HM.out.below).2.2
      clear hc0 hc1 hc2 hop hb
      cases p
      · skip
        obtain ⟨tk, htk⟩ : ∃ tk, tookG most ys (x, y) = tk := ⟨_, rfl⟩
        obtain ⟨ps, hps⟩ : ∃ ps, pushG most ys (x, y) = ps := ⟨_, rfl⟩
        have PH0 : Hid (∀ W, InvE w hv rv zb bk most ys ys W → Calls Tryz.prog 8 #[hv, .agg #[.int .u64 x, .int .i64 y]] W fun e W' => e = .returned (.bool tk) ∧ InvE w hv rv zb bk most ps ys W' ∧ W'.cell? ⟨b, off + i * 3, none⟩ = some (.int .u64 x) ∧ W'.cell? ⟨b, off + i * 3 + 1, none⟩ = some (.int .i64 y)) := fun W i => by
          have q := iPushH x y W i okx.out
          rw [htk, hps] at q
          refine q.mono ?_
          rintro e W' ⟨h1, h2⟩
          exact ⟨h1, h2, (KC.out W' h2.below).1, (KC.out W' h2.below).2.1⟩
        have PH1 : Hid (∀ W, InvE w hv rv zb bk most ys ps W → Calls Tryz.prog 8 #[hv, .agg #[.int .u64 x, .int .i64 y]] W fun e W' => e = .returned (.bool tk) ∧ InvE w hv rv zb bk most ps ps W' ∧ W'.cell? ⟨b, off + i * 3, none⟩ = some (.int .u64 x) ∧ W'.cell? ⟨b, off + i * 3 + 1, none⟩ = some (.int .i64 y)) := fun W i => by
          have q := iPushH x y W i okx.out
          rw [htk, hps] at q
          refine q.mono ?_
          rintro e W' ⟨h1, h2⟩
          exact ⟨h1, h2, (KC.out W' h2.below).1, (KC.out W' h2.below).2.1⟩
        have PR0 : Hid (∀ W, InvE w hv rv zb bk most ys ys W → Calls Tryz.prog 9 #[rv, .agg #[.int .u64 x, .int .i64 y]] W fun e W' => e = .returned (.bool tk) ∧ InvE w hv rv zb bk most ys ps W' ∧ W'.cell? ⟨b, off + i * 3, none⟩ = some (.int .u64 x) ∧ W'.cell? ⟨b, off + i * 3 + 1, none⟩ = some (.int .i64 y)) := fun W i => by
          have q := iPushR x y W i
          rw [htk, hps] at q
          refine q.mono ?_
          rintro e W' ⟨h1, h2⟩
          exact ⟨h1, h2, (KC.out W' h2.below).1, (KC.out W' h2.below).2.1⟩
        have PR1 : Hid (∀ W, InvE w hv rv zb bk most ps ys W → Calls Tryz.prog 9 #[rv, .agg #[.int .u64 x, .int .i64 y]] W fun e W' => e = .returned (.bool tk) ∧ InvE w hv rv zb bk most ps ps W' ∧ W'.cell? ⟨b, off + i * 3, none⟩ = some (.int .u64 x) ∧ W'.cell? ⟨b, off + i * 3 + 1, none⟩ = some (.int .i64 y)) := fun W i => by
          have q := iPushR x y W i
          rw [htk, hps] at q
          refine q.mono ?_
          rintro e W' ⟨h1, h2⟩
          exact ⟨h1, h2, (KC.out W' h2.below).1, (KC.out W' h2.below).2.1⟩
        have PZ : Hid (∀ W, InvE w hv rv zb bk most ps ps W → Calls Tryz.prog 8 #[.pointer (some ⟨zb, 0, none⟩), .agg #[.int .u64 x, .int .i64 y]] W fun e W' => e = .returned (.bool false) ∧ InvE w hv rv zb bk most ps ps W' ∧ W'.cell? ⟨b, off + i * 3, none⟩ = some (.int .u64 x) ∧ W'.cell? ⟨b, off + i * 3 + 1, none⟩ = some (.int .i64 y)) := fun W i => by
          refine (iPushZ x y W i).mono ?_
          rintro e W' ⟨h1, h2⟩
          exact ⟨h1, h2, (KC.out W' h2.below).1, (KC.out W' h2.below).2.1⟩
        have PN : Hid (∀ W, InvE w hv rv zb bk most ps ps W → Calls Tryz.prog 8 #[.pointer none, .agg #[.int .u64 x, .int .i64 y]] W fun e W' => e = .returned (.bool false) ∧ InvE w hv rv zb bk most ps ps W' ∧ W'.cell? ⟨b, off + i * 3, none⟩ = some (.int .u64 x) ∧ W'.cell? ⟨b, off + i * 3 + 1, none⟩ = some (.int .i64 y)) := fun W i => by
          refine (iPushN x y W i).mono ?_
          rintro e W' ⟨h1, h2⟩
          exact ⟨h1, h2, (KC.out W' h2.below).1, (KC.out W' h2.below).2.1⟩
        have BB : (tk != tk) = false := by cases tk <;> rfl
        have kc0 : wr.drew.cell? ⟨b, off + i * 3, none⟩ = some (.int .u64 x) := (KC.out wr HM.out.below).1
        have kc1 : wr.drew.cell? ⟨b, off + i * 3 + 1, none⟩ = some (.int .i64 y) := (KC.out wr HM.out.below).2.1
        have hm0 : InvE w hv rv zb bk most ys ys wr.drew := HM.out.same (Turn.refl [] wr).drew
        have z0 : (0 : Int) ≤ (i : Int) := by omega
        clear htk hps okx KC HM
        go_wp2_with fail
        clear kc2
        go_region_held3 (fun w' => w'.cell? ⟨b, off + i * 3, none⟩ = some (.int .u64 x) ∧ w'.cell? ⟨b, off + i * 3 + 1, none⟩ = some (.int .i64 y))
          (first | exact ⟨by with_reducible assumption, by with_reducible assumption⟩)
          (first
            | (go_at_call 8; (with_reducible refine (PH0.out _ (by with_reducible assumption)).mono ?_); rintro e w4 ⟨rfl, hm4, ea4, eb4⟩)
            | (go_at_call 9; (with_reducible refine (PR0.out _ (by with_reducible assumption)).mono ?_); rintro e w4 ⟨rfl, hm4, ea4, eb4⟩)
            | (go_at_call 9; (with_reducible refine (PR1.out _ (by with_reducible assumption)).mono ?_); rintro e w5 ⟨rfl, hm5, ea5, eb5⟩)
            | (go_at_call 8; (with_reducible refine (PH1.out _ (by with_reducible assumption)).mono ?_); rintro e w5 ⟨rfl, hm5, ea5, eb5⟩)
            | (go_at_call 8; (with_reducible refine (PZ.out _ (by with_reducible assumption)).mono ?_); rintro e w6 ⟨rfl, hm6, ea6, eb6⟩)
            | (go_at_call 8; (with_reducible refine (PN.out _ (by with_reducible assumption)).mono ?_); rintro e w7 ⟨rfl, hm7, ea7, eb7⟩))
        clear PH0 PH1 PR0 PR1 PZ PN kc0 kc1 hm0 hm4 ea4 eb4 hm5 ea5 eb5 hm6 ea6 eb6 ea7 eb7 BB
        have HI10 := Lib.hid hm7
        clear hm7
        go_wp2_with fail
        obtain ⟨v1, v2, vb, hov2⟩ := outV_eq (ps)
        have HW : Hid (∀ W, InvE w hv rv zb bk most (ps) (ps) W → Calls Tryz.prog 10 #[hv] W fun e w' => e = .returned (.tuple #[.agg #[.int .u64 v1, .int .i64 v2], .bool vb]) ∧ Turn [] W w') := fun W ⟨F, G, i⟩ => by
          have := gWorst hv F most _ W i.h
          rw [hov2] at this
          exact this
        have HV : Hid (∀ W, InvE w hv rv zb bk most (ps) (ps) W → Calls Tryz.prog 11 #[rv] W fun e w' => e = .returned (.tuple #[.agg #[.int .u64 v1, .int .i64 v2], .bool vb]) ∧ Turn [] W w') := fun W ⟨F, G, i⟩ => by
          have := rWorst rv G most _ W i.r
          rw [hov2] at this
          exact this
        have HLH : Hid (∀ W, InvE w hv rv zb bk most (ps) (ps) W → Calls Tryz.prog 12 #[hv] W fun e w' => e = .returned (.int .i64 ((ps).length : Int)) ∧ w' = W) := fun W ⟨F, G, i⟩ => gLen hv F most _ W i.h
        have HLR : Hid (∀ W, InvE w hv rv zb bk most (ps) (ps) W → Calls Tryz.prog 13 #[rv] W fun e w' => e = .returned (.int .i64 ((ps).length : Int)) ∧ w' = W) := fun W ⟨F, G, i⟩ => rLen rv G most _ W i.r
        clear hov2
        generalize hY : (ps) = Y at HI10 HW HV HLH HLR
        clear hY
        generalize hL : (Y.length : Int) = L at HLH HLR
        clear hL
        go_wp2_with fail
        refine (HW.out _ HI10.out).mono ?_
        rintro e w11 ⟨rfl, t11⟩
        have t12 := t11.alloc (.cells #[.int .u64 v1, .int .i64 v2] 53)
        have HB12 := Lib.hid (⟨HI10.out.same t12, Whole.new w11 53 #[.int .u64 v1, .int .i64 v2]⟩ : _ ∧ _)
        clear t11 t12 HI10
        go_wp2_with fail
        generalize w11.alloc (.cells #[.int .u64 v1, .int .i64 v2] 53) = w12 at HB12 ⊢
        generalize w11.heap.size = q1 at HB12 ⊢
        refine (HV.out _ HB12.out.1).mono ?_
        rintro e w13 ⟨rfl, t13⟩
        have t14 := t13.alloc (.cells #[.int .u64 v1, .int .i64 v2] 53)
        have HB14 := Lib.hid (⟨HB12.out.1.same t14, HB12.out.2.turn t14 (by simp), Whole.new w13 53 #[.int .u64 v1, .int .i64 v2]⟩ : _ ∧ _ ∧ _)
        have k5 : (w13.alloc (.cells #[.int .u64 v1, .int .i64 v2] 53)).cell? ⟨q1, 0, none⟩ = some (.int .u64 v1) := HB14.out.2.1.cell 0
        have k6 : (w13.alloc (.cells #[.int .u64 v1, .int .i64 v2] 53)).cell? ⟨q1, 1, none⟩ = some (.int .i64 v2) := HB14.out.2.1.cell 1
        have k7 : (w13.alloc (.cells #[.int .u64 v1, .int .i64 v2] 53)).cell? ⟨w13.heap.size, 0, none⟩ = some (.int .u64 v1) := HB14.out.2.2.cell 0
        have k8 : (w13.alloc (.cells #[.int .u64 v1, .int .i64 v2] 53)).cell? ⟨w13.heap.size, 1, none⟩ = some (.int .i64 v2) := HB14.out.2.2.cell 1
        have NE2 : ∀ W, Sem.run Tryz.prog (binOp .neq 53 (.agg #[.int .u64 v1, .int .i64 v2]) (.agg #[.int .u64 v1, .int .i64 v2])) W = .ok (.bool false) W := fun W => by
          have := neqH v1 v2 v1 v2 W
          simpa using this
        have BB2 : (vb != vb) = false := by cases vb <;> rfl
        have LL : (L != L) = false := by simp
        clear HB12 t13 t14 HW HV
        go_wp2_with fail
        refine (HLH.out _ HB14.out.1).mono ?_
        rintro e w15 ⟨rfl, rfl⟩
        go_wp2_with fail
        refine (HLR.out _ HB14.out.1).mono ?_
        rintro e w16 ⟨rfl, rfl⟩
        have HI17 := Lib.hid HB14.out.1
        clear HB14
        go_wp2
        go_roundg (ops.length - (i + 1))
        case measure => omega
        case rel => exact ⟨i + 1, Y, rfl, by omega, by omega, HI17⟩
      · clear okx
        obtain ⟨x1, x2, bb, hov⟩ := outV_eq ys
        have HP : Hid (Calls Tryz.prog 6 #[hv] wr fun e w' => e = .returned (.tuple #[.agg #[.int .u64 x1, .int .i64 x2], .bool bb]) ∧ InvE w hv rv zb bk most ys.dropLast ys w') := by
          have := iPopH wr HM.out
          rw [hov] at this
          exact this
        go_wp2_with fail
        refine HP.out.mono ?_
        rintro e w4 ⟨rfl, i4⟩
        have HP2 : Hid (Calls Tryz.prog 7 #[rv] (w4.alloc (.cells #[.int .u64 x1, .int .i64 x2] 53)) fun e w' => e = .returned (.tuple #[.agg #[.int .u64 x1, .int .i64 x2], .bool bb]) ∧ InvE w hv rv zb bk most ys.dropLast ys.dropLast w' ∧ w'.heap[w4.heap.size]? = some (.cells #[.int .u64 x1, .int .i64 x2] 53)) := by
          have := iPopR w4 i4 (.cells #[.int .u64 x1, .int .i64 x2] 53)
          rw [hov] at this
          exact this
        clear HP HM i4 kc2
        go_wp2_with fail
        generalize w4.heap.size = p1 at HP2 ⊢
        refine HP2.out.mono ?_
        rintro e w5 ⟨rfl, i5, c5⟩
        have c5 : Whole w5 p1 53 #[.int .u64 x1, .int .i64 x2] := c5
        have t6 := (Turn.refl [] w5).alloc (.cells #[.int .u64 x1, .int .i64 x2] 53)
        have HB6 := Lib.hid (⟨i5.same t6, c5.turn t6 (by simp), Whole.new w5 53 #[.int .u64 x1, .int .i64 x2]⟩ : _ ∧ _ ∧ _)
        have HP3 := Lib.hid (iPopZ (w5.alloc (.cells #[.int .u64 x1, .int .i64 x2] 53)) HB6.out.1)
        clear HP2 i5 c5 t6
        go_wp2_with fail
        generalize w5.alloc (.cells #[.int .u64 x1, .int .i64 x2] 53) = w6 at HB6 HP3 ⊢
        generalize w5.heap.size = p2 at HB6 ⊢
        refine HP3.out.mono ?_
        rintro e w7 ⟨rfl, t7⟩
        have t8 := t7.alloc (.cells #[.int .u64 0, .int .i64 0] 53)
        have HB8 := Lib.hid (⟨HB6.out.1.same t8, HB6.out.2.1.turn t8 (by simp), HB6.out.2.2.turn t8 (by simp)⟩ : _ ∧ _ ∧ _)
        have HP4 := Lib.hid (idle_pop (w := w7.alloc (.cells #[.int .u64 0, .int .i64 0] 53)) (.inl ⟨rfl, rfl⟩))
        clear HP3 HB6 t7 t8
        go_wp2_with fail
        generalize w7.alloc (.cells #[.int .u64 0, .int .i64 0] 53) = w8 at HB8 HP4 ⊢
        generalize w7.heap.size = p3
        refine HP4.out.mono ?_
        rintro e w9 ⟨rfl, t9⟩
        have t10 := t9.alloc (.cells #[.int .u64 0, .int .i64 0] 53)
        have HB10 := Lib.hid (⟨HB8.out.1.same t10, HB8.out.2.1.turn t10 (by simp), HB8.out.2.2.turn t10 (by simp)⟩ : _ ∧ _ ∧ _)
        have k1 : (w9.alloc (.cells #[.int .u64 0, .int .i64 0] 53)).cell? ⟨p1, 0, none⟩ = some (.int .u64 x1) := HB10.out.2.1.cell 0
        have k2 : (w9.alloc (.cells #[.int .u64 0, .int .i64 0] 53)).cell? ⟨p1, 1, none⟩ = some (.int .i64 x2) := HB10.out.2.1.cell 1
        have k3 : (w9.alloc (.cells #[.int .u64 0, .int .i64 0] 53)).cell? ⟨p2, 0, none⟩ = some (.int .u64 x1) := HB10.out.2.2.cell 0
        have k4 : (w9.alloc (.cells #[.int .u64 0, .int .i64 0] 53)).cell? ⟨p2, 1, none⟩ = some (.int .i64 x2) := HB10.out.2.2.cell 1
        have NE : ∀ W, Sem.run Tryz.prog (binOp .neq 53 (.agg #[.int .u64 x1, .int .i64 x2]) (.agg #[.int .u64 x1, .int .i64 x2])) W = .ok (.bool false) W := fun W => by
          have := neqH x1 x2 x1 x2 W
          simpa using this
        have BB : (bb != bb) = false := by cases bb <;> rfl
        clear HP4 HB8 t9 t10
        have HI10 := Lib.hid HB10.out.1
        clear HB10
        go_wp2_with fail
        clear k1 k2 k3 k4 NE BB
        generalize w9.alloc (.cells #[.int .u64 0, .int .i64 0] 53) = w10 at HI10 ⊢
        obtain ⟨v1, v2, vb, hov2⟩ := outV_eq (ys.dropLast)
        have HW : Hid (∀ W, InvE w hv rv zb bk most (ys.dropLast) (ys.dropLast) W → Calls Tryz.prog 10 #[hv] W fun e w' => e = .returned (.tuple #[.agg #[.int .u64 v1, .int .i64 v2], .bool vb]) ∧ Turn [] W w') := fun W ⟨F, G, i⟩ => by
          have := gWorst hv F most _ W i.h
          rw [hov2] at this
          exact this
        have HV : Hid (∀ W, InvE w hv rv zb bk most (ys.dropLast) (ys.dropLast) W → Calls Tryz.prog 11 #[rv] W fun e w' => e = .returned (.tuple #[.agg #[.int .u64 v1, .int .i64 v2], .bool vb]) ∧ Turn [] W w') := fun W ⟨F, G, i⟩ => by
          have := rWorst rv G most _ W i.r
          rw [hov2] at this
          exact this
        have HLH : Hid (∀ W, InvE w hv rv zb bk most (ys.dropLast) (ys.dropLast) W → Calls Tryz.prog 12 #[hv] W fun e w' => e = .returned (.int .i64 ((ys.dropLast).length : Int)) ∧ w' = W) := fun W ⟨F, G, i⟩ => gLen hv F most _ W i.h
        have HLR : Hid (∀ W, InvE w hv rv zb bk most (ys.dropLast) (ys.dropLast) W → Calls Tryz.prog 13 #[rv] W fun e w' => e = .returned (.int .i64 ((ys.dropLast).length : Int)) ∧ w' = W) := fun W ⟨F, G, i⟩ => rLen rv G most _ W i.r
        clear hov2
        generalize hY : (ys.dropLast) = Y at HI10 HW HV HLH HLR
        clear hY
        generalize hL : (Y.length : Int) = L at HLH HLR
        clear hL
        go_wp2_with fail
        refine (HW.out _ HI10.out).mono ?_
        rintro e w11 ⟨rfl, t11⟩
        have t12 := t11.alloc (.cells #[.int .u64 v1, .int .i64 v2] 53)
        have HB12 := Lib.hid (⟨HI10.out.same t12, Whole.new w11 53 #[.int .u64 v1, .int .i64 v2]⟩ : _ ∧ _)
        clear t11 t12 HI10
        go_wp2_with fail
        generalize w11.alloc (.cells #[.int .u64 v1, .int .i64 v2] 53) = w12 at HB12 ⊢
        generalize w11.heap.size = q1 at HB12 ⊢
        refine (HV.out _ HB12.out.1).mono ?_
        rintro e w13 ⟨rfl, t13⟩
        have t14 := t13.alloc (.cells #[.int .u64 v1, .int .i64 v2] 53)
        have HB14 := Lib.hid (⟨HB12.out.1.same t14, HB12.out.2.turn t14 (by simp), Whole.new w13 53 #[.int .u64 v1, .int .i64 v2]⟩ : _ ∧ _ ∧ _)
        have k5 : (w13.alloc (.cells #[.int .u64 v1, .int .i64 v2] 53)).cell? ⟨q1, 0, none⟩ = some (.int .u64 v1) := HB14.out.2.1.cell 0
        have k6 : (w13.alloc (.cells #[.int .u64 v1, .int .i64 v2] 53)).cell? ⟨q1, 1, none⟩ = some (.int .i64 v2) := HB14.out.2.1.cell 1
        have k7 : (w13.alloc (.cells #[.int .u64 v1, .int .i64 v2] 53)).cell? ⟨w13.heap.size, 0, none⟩ = some (.int .u64 v1) := HB14.out.2.2.cell 0
        have k8 : (w13.alloc (.cells #[.int .u64 v1, .int .i64 v2] 53)).cell? ⟨w13.heap.size, 1, none⟩ = some (.int .i64 v2) := HB14.out.2.2.cell 1
        have NE2 : ∀ W, Sem.run Tryz.prog (binOp .neq 53 (.agg #[.int .u64 v1, .int .i64 v2]) (.agg #[.int .u64 v1, .int .i64 v2])) W = .ok (.bool false) W := fun W => by
          have := neqH v1 v2 v1 v2 W
          simpa using this
        have BB2 : (vb != vb) = false := by cases vb <;> rfl
        have LL : (L != L) = false := by simp
        clear HB12 t13 t14 HW HV
        go_wp2_with fail
        refine (HLH.out _ HB14.out.1).mono ?_
        rintro e w15 ⟨rfl, rfl⟩
        go_wp2_with fail
        refine (HLR.out _ HB14.out.1).mono ?_
        rintro e w16 ⟨rfl, rfl⟩
        have HI17 := Lib.hid HB14.out.1
        clear HB14
        go_wp2
        go_roundg (ops.length - (i + 1))
        case measure => omega
        case rel => exact ⟨i + 1, Y, rfl, by omega, by omega, HI17⟩
    · obtain ⟨F', G', hm⟩ := HM.out
      have z3 : ¬ (i : Int) < (ops.length : Int) := by omega
      have hle := hm.h.le
      have HF := Lib.hid hm.h.lt
      have HGL := Lib.hid hm.r.lt
      have HBK := Lib.hid hm.ltb
      have HA := Lib.hid (gHits hv F' most ys wr hm.h)
      clear HM
      go_wp2_with fail
      refine HA.out.mono ?_
      rintro e w4 ⟨A1, rfl, o1, g1, t4⟩
      have m4 := hm.same t4
      have HB := Lib.hid (gHits hv F' most ys w4 m4.h)
      have HM4 := Lib.hid (⟨m4, o1, t4.size⟩ : _ ∧ _ ∧ _)
      have HG1 := Lib.hid g1
      clear HA hm t4 m4 o1 g1
      go_wp2_with fail
      refine HB.out.mono ?_
      rintro e w5 ⟨A2, rfl, o2, g2, t5⟩
      have s5 : StE w hv rv zb bk most F' G' ys A1 A2 w5 := ⟨HM4.out.1.same t5, own_turn HM4.out.2.1 t5 (fun _ _ => by simp), o2⟩
      have HAP : Hid ((Value.slice A1 ys.length ys.length).ownBlock = none ∨ (Value.slice A1 ys.length ys.length).ownBlock ≠ (Value.slice A2 ys.length ys.length).ownBlock) := by
        cases hq : (Value.slice A1 ys.length ys.length).ownBlock with
        | none => exact .inl rfl
        | some g =>
          refine .inr (fun e => ?_)
          have h1 := (HM4.out.2.1.lt g hq).2
          have h2 := g2 g e.symm
          omega
      have HG2 : Hid (∀ g, (Value.slice A2 ys.length ys.length).ownBlock = some g → wr.heap.size ≤ g) := fun g hg => Nat.le_trans HM4.out.2.2 (g2 g hg)
      have HSZ : Hid (wr.heap.size ≤ w5.heap.size) := Nat.le_trans HM4.out.2.2 t5.size
      have HC := Lib.hid (idle_worst s5.i.idle)
      have HS5 := Lib.hid s5
      clear HB HM4 o2 g2 t5 s5
      go_wp2_with fail
      refine HC.out.mono ?_
      rintro e w6 ⟨rfl, t6⟩
      have t7 := t6.alloc (.cells #[.int .u64 0, .int .i64 0] 53)
      have HS7 := Lib.hid (HS5.out.same t7)
      have HSZ7 := Lib.hid (Nat.le_trans HSZ.out t7.size)
      have HD := Lib.hid (rHits rv G' most ys _ HS7.out.i.r)
      clear HC HS5 t6 t7 HSZ
      go_wp2_with fail
      generalize w6.alloc (.cells #[.int .u64 0, .int .i64 0] 53) = w7 at HS7 HSZ7 HD ⊢
      generalize w6.heap.size = p6
      refine HD.out.mono ?_
      rintro e w8 ⟨S, c8, rfl, rd8, t8⟩
      have HS8 := Lib.hid (HS7.out.same t8)
      have HSZ8 := Lib.hid (Nat.le_trans HSZ7.out t8.size)
      have HE := Lib.hid (sameTrue A1 S ys.length c8 ys ys.length rfl w8 _ (rdA HS8.out.a) rd8 (by omega))
      clear HD HS7 rd8 t8 HSZ7
      go_wp2_with fail
      refine HE.out.mono ?_
      rintro e w9 ⟨rfl, q9, rfl⟩
      have t9 := (Turn.refl [] w8).drewN q9
      have HS9 := Lib.hid (HS8.out.same t9)
      have HSZ9 := Lib.hid (Nat.le_trans HSZ8.out t9.size)
      clear HE HS8 t9 HSZ8
      generalize w8.drewN q9 = w9 at HS9 HSZ9 ⊢
      have HD := Lib.hid (rHits rv G' most ys _ HS9.out.i.r)
      go_wp2_with fail
      refine HD.out.mono ?_
      rintro e w10 ⟨S', c10, rfl, rd10, t10⟩
      have HS10 := Lib.hid (HS9.out.same t10)
      have HSZ10 := Lib.hid (Nat.le_trans HSZ9.out t10.size)
      have HE := Lib.hid (sameTrue A2 S' ys.length c10 ys ys.length rfl w10 _ (rdA HS10.out.b) rd10 (by omega))
      clear HD HS9 rd10 t10 HSZ9
      go_wp2_with fail
      refine HE.out.mono ?_
      rintro e w11 ⟨rfl, q11, rfl⟩
      have t11 := (Turn.refl [] w10).drewN q11
      have HS11 := Lib.hid (HS10.out.same t11)
      have HSZ11 := Lib.hid (Nat.le_trans HSZ10.out t11.size)
      clear HE HS10 t11 HSZ10
      generalize w10.drewN q11 = w11 at HS11 HSZ11 ⊢
      have L1 := Lib.hid (idle_len HS11.out.i.idle)
      have L2 := Lib.hid (idle_len (w := w11) (.inl ⟨rfl, rfl⟩))
      have L3 := Lib.hid (idle_hits HS11.out.i.idle)
      have L4 := Lib.hid (idle_hits (w := w11) (.inl ⟨rfl, rfl⟩))
      go_wp2_with fail
      refine L1.out.mono ?_
      rintro e w12 ⟨rfl, rfl⟩
      go_wp2_with fail
      refine L2.out.mono ?_
      rintro e w13 ⟨rfl, rfl⟩
      go_wp2_with fail
      refine L3.out.mono ?_
      rintro e w14 ⟨rfl, rfl⟩
      go_wp2_with fail
      refine L4.out.mono ?_
      rintro e w15 ⟨rfl, rfl⟩
      clear L1 L2 L3 L4
      have hbk : bk ≤ w15.heap.size := by have := HS11.out.i.ltb; omega
      have K0 : Bk.KIn w15 bk 53 82 2 [] Bk.mkHit 0 (svNil 10) := Bk.KIn.nil _ _ _ _ _ _ _
      have OA := own_rebase HS11.out.a (fun g hg => Nat.le_trans (Nat.le_of_lt HBK.out) (HG1.out g hg))
      have OB := own_rebase HS11.out.b (fun g hg => Nat.le_trans (Nat.le_of_lt HBK.out) (HG2.out g hg))
      have HO := Lib.hid OB
      have HK1 := Lib.hid (hits_any bk bk 0 A1 ys.length ys.length svNil [] _ w15 (by omega) hbk (Nat.le_refl _) HS11.out.i.k K0 OA (fun e' he => by simp at he) (by omega) (by simp))
      clear K0 OA OB
      go_wp2_with fail
      refine HK1.out.mono ?_
      rintro e w16 ⟨rfl, sv1, hsv1, k1, K1, f1, loc1, fr1⟩
      have T1 : Turn [bk] w15 w16 := ⟨f1.below.os, f1.below.tape, f1.below.output, f1.below.size, fun k hk hn => fr1 k hk (fun e => hn (by simp [e])) (by simp [svNil, Value.ownBlock])⟩
      have R1 : ∀ g, (sv1 10).ownBlock = some g → w15.heap.size ≤ g := fun g hg => by
        rcases loc1 g hg with h | h
        · simp [svNil, Value.ownBlock] at h
        · exact h
      have OB1 := Bk.own_frm2 HO.out f1 (by decide) (by decide)
      have HK2 := Lib.hid (hits_any bk bk 1 A2 ys.length ys.length sv1 _ _ w16 (by omega) (by have := f1.below.size; omega) (Nat.le_refl _) k1 K1 OB1 (fun e' he => by
        simp only [List.nil_append, List.mem_singleton] at he
        subst he
        exact HAP.out) (by omega) (by simp))
      have HT1 := Lib.hid (⟨T1, R1, f1.below, hsv1⟩ : _ ∧ _ ∧ _ ∧ _)
      clear HK1 HO T1 R1 f1 hsv1 k1 K1 loc1 fr1 OB1
      go_wp2_with fail
      refine HK2.out.mono ?_
      rintro e w17 ⟨rfl, sv2, hsv2, k2, K2, f2, loc2, fr2⟩
      have T2 : Turn (bk :: (sv1 10).ownBlock.toList) w16 w17 := ⟨f2.below.os, f2.below.tape, f2.below.output, f2.below.size, fun k hk hn => fr2 k hk (fun e => hn (by simp [e])) (fun e => hn (by simp [e]))⟩
      have R2 : ∀ g, (sv2 10).ownBlock = some g → w15.heap.size ≤ g := fun g hg => by
        rcases loc2 g hg with h | h
        · exact HT1.out.2.1 g h
        · exact Nat.le_trans HT1.out.1.size h
      have SV : ∀ j, j ≠ 10 → sv2 j = svNil j := fun j hj => (hsv2 j hj).trans (HT1.out.2.2.2 j hj)
      have TT := HT1.out.1.trans T2 (fun a ha => by
        simp only [List.mem_cons, Option.mem_toList] at ha
        rcases ha with rfl | ha
        · exact .inl (by simp)
        · exact .inr (HT1.out.2.1 a ha))
      have BK := HT1.out.2.2.1.trans f2.below
      have HS17 : Hid (HG w17 hv F' most ys ∧ RG w17 rv G' most ys) := ⟨HS11.out.i.h.turn TT (fun f hf h => by simp at h; subst h; exact HS11.out.i.bf hf), HS11.out.i.r.turn TT (fun f hf h => by simp at h; subst h; exact HS11.out.i.bg hf)⟩
      have B17 : Hid (Below w.heap.size w w17) := (HS11.out.i.t.below (fun a ha => by simp at ha) (Nat.le_refl _)).trans (BK.mono HS11.out.i.nb)
      have sz17 : wr.heap.size ≤ w17.heap.size := Nat.le_trans HSZ11.out TT.size
      have K2' := kin_rebase (base' := wr.heap.size) K2 (fun e he g hg => by
        simp only [List.nil_append, List.cons_append, List.mem_cons, List.not_mem_nil, or_false] at he
        rcases he with rfl | rfl
        · exact HG1.out g hg
        · exact HG2.out g hg) (fun g hg => Nat.le_trans HSZ11.out (R2 g hg))
      have AP := Lib.hid (Bk.apart_any sz17 k2 K2' (SV 1 (by decide)) (SV 2 (by decide)) (SV 3 (by decide)) (SV 4 (by decide)) (SV 5 (by decide)) (SV 6 (by decide)) (SV 7 (by decide)) (SV 8 (by decide)) (SV 9 (by decide)) (SV 11 (by decide)) (SV 12 (by decide)))
      have hw0 : w.heap.size ≤ wr.heap.size := Nat.le_trans HS11.out.i.nb (Nat.le_of_lt HBK.out)
      have HW0 := Lib.hid hw0
      clear HK2 HT1 T2 R2 SV TT BK K2 K2' k2 f2 loc2 fr2 hsv2 HS11 HSZ11 HAP HG1 HG2 hbk sz17 hw0
      go_wp2_with fail
      refine AP.out.mono ?_
      rintro e w18 ⟨rfl, B18⟩
      have T18 := turn_from B18
      have h18 := HS17.out.1.turn T18 (fun f hf => not_from (HF.out f hf))
      have r18 := HS17.out.2.turn T18 (fun f hf => not_from (HGL.out f hf))
      have HB18 : Hid (Below w.heap.size w w18) := B17.out.trans (B18.mono HW0.out)
      have M1 := Lib.hid (gLen hv F' most ys w18 h18)
      have M2 := Lib.hid (rLen rv G' most ys w18 r18)
      have M3 := Lib.hid (gHits hv F' most ys w18 h18)
      have HR18 := Lib.hid r18
      have sz18 : w.heap.size ≤ w18.heap.size := HB18.out.size
      have LL : ((ys.length : Int) == (ys.length : Int)) = true := by simp
      clear AP B18 T18 h18 r18 HS17 B17
      go_wp2_with fail
      refine M1.out.mono ?_
      rintro e w19 ⟨rfl, rfl⟩
      go_wp2_with fail
      refine M2.out.mono ?_
      rintro e w20 ⟨rfl, rfl⟩
      go_wp2_with fail
      refine M3.out.mono ?_
      rintro e w21 ⟨A3, rfl, o3, g3, t21⟩
      have HO3 := Lib.hid o3
      have M4 := Lib.hid (rHits rv G' most ys _ (HR18.out.turn t21 (fun _ _ => by simp)))
      have HT21 := Lib.hid t21
      clear M1 M2 M3 o3 g3 t21
      go_wp2_with fail
      refine M4.out.mono ?_
      rintro e w22 ⟨S3, c22, rfl, rd22, t22⟩
      have o22 := own_turn HO3.out t22 (fun _ _ => by simp)
      have HE := Lib.hid (sameTrue A3 S3 ys.length c22 ys ys.length rfl w22 _ (rdA o22) rd22 (by omega))
      have T22 := Lib.hid (HT21.out.trans t22 (fun a ha => by simp at ha))
      clear M4 HO3 HT21 rd22 t22 o22
      go_wp2_with fail
      refine HE.out.mono ?_
      rintro e w23 ⟨rfl, q23, rfl⟩
      have T23 := Lib.hid (T22.out.drewN q23)
      clear HE T22
      go_wp2
      go_ret
      exact ⟨rfl, HB18.out.trans (T23.out.below (fun a ha => by simp at ha) sz18)⟩
theorem heapPlays_any (A : Option Addr) (c : Nat) (n : Int) (ops : List ((Int × Int) × Bool)) (w : World) (hx : RdO w w.heap.size A ops) (ok : ∀ x ∈ ops, HitOk x.1) :
    Calls Tryz.prog 3 #[.int .i64 n, .slice A ops.length c] w fun e w' => e = .returned (.bool true) ∧ Below w.heap.size w w' := by
  rcases Nat.lt_or_ge 500 ops.length with h | h
  · exact heapPlays_far A c _ n w h
  · obtain ⟨most, en, bn, h1, h2⟩ := new_both n
    exact heapPlays_main A c n ops w hx ok h most en bn h1 h2
end Go.Proofs.YtaempklgmoabcaaGreat
