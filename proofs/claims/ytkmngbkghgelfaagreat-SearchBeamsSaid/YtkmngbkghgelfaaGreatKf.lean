/- Several texts in one. -/
import Derived.Test.YtkmngbkghgelfaaGreatLb
import Derived.Test.YtkmngbkghgelfaaGreatBs
import Derived.Test.YtkmngbkghgelfaaGreatOw
import Derived.Deep.AppendLies
import Derived.Deep.RegionHeld3
import Derived.Deep.RegionLaw
import Derived.Deep.RegionWith
import Derived.Maps.AppendAt
/- The walks of TwinNode, TwinNodes, TwinGraph. -/
namespace Go.Proofs.YtkmngbkghgelfaaGreat
open Go.RowKit
set_option linter.unusedVariables false
/-- A twin of a list of numbers: its own memory, with the mark behind it. -/
def KTw (k : IntKind) (t : TypeId) (w : World) (base : Nat) (x : Vc) : Prop := x.2.1 = x.2.2.length + 1 ∧ (∃ g, x.1 = some ⟨g, 0, none⟩) ∧ w.ownsRow base t 1 (.slice x.1 (x.2.2.length + 1) x.2.1) (x.2.2.length + 1) ((x.2.2 ++ [77]).map (Value.int k))
theorem KTw.below {k : IntKind} {t : TypeId} {w w' : World} {base : Nat} {x : Vc} (h : KTw k t w base x) (hb : Below w.heap.size w w') : KTw k t w' base x := ⟨h.1, h.2.1, own_below h.2.2 hb⟩
theorem KTw.base {k : IntKind} {t : TypeId} {w : World} {b b' : Nat} {x : Vc} (h : KTw k t w b x) (hb : b' ≤ b) : KTw k t w b' x := ⟨h.1, h.2.1, own_base h.2.2 hb⟩
theorem KTw.rd {k : IntKind} {t : TypeId} {w : World} {base : Nat} {x : Vc} (h : KTw k t w base x) : Rd k w w.heap.size x.1 (x.2.2 ++ [77]) := by
  obtain ⟨A, c, hv, _, _, hrd, _⟩ := own_slice h.2.2
  injection hv with q1 q2 q3
  rw [q1]; exact hrd
theorem KTw.rd0 {k : IntKind} {t : TypeId} {w : World} {base : Nat} {x : Vc} (h : KTw k t w base x) : Rd k w w.heap.size x.1 x.2.2 := by
  have := h.rd.take x.2.2.length
  rwa [List.take_left' rfl] at this
theorem KTw.own {k : IntKind} {t : TypeId} {w : World} {base : Nat} {x : Vc} (h : KTw k t w base x) : w.ownsRow base t 1 (.slice x.1 x.2.2.length x.2.1) x.2.2.length (x.2.2.map (Value.int k)) := by
  obtain ⟨h1, ⟨g, hg⟩, h2⟩ := h
  rw [hg] at h2 ⊢
  have h3 := own_shrink (n := x.2.2.length + 1) (c := x.2.2.length) (Nat.le_succ _) h2
  rw [Nat.mul_one, ← List.map_take, List.take_left' rfl] at h3
  exact h3
theorem KTw.lt {k : IntKind} {t : TypeId} {w : World} {base : Nat} {x : Vc} (h : KTw k t w base x) : ∃ g, x.1 = some ⟨g, 0, none⟩ ∧ base ≤ g ∧ g < w.heap.size := by
  obtain ⟨h1, ⟨g, hg⟩, h2⟩ := h
  rw [hg] at h2
  exact ⟨g, hg, (h2.lt g rfl).1, (h2.lt g rfl).2⟩
/-- A row stands where a row of another type is grown. -/
theorem row_farK {w w' : World} {b1 b2 n1 n2 s1 s2 : Nat} {e1 e2 : TypeId} {v1 v2 : Value} {xs1 xs2 : List Value} (h : w.ownsRow b1 e1 s1 v1 n1 xs1) (ho : w.ownsRow b2 e2 s2 v2 n2 xs2) (hne : e1 ≠ e2) (hg : w.grownBy w' v2.ownBlock) : w'.ownsRow b1 e1 s1 v1 n1 xs1 := by
  refine h.kept hg ?_
  rcases h.2 with ⟨hv, _⟩ | ⟨g, cap, cur, hv, _, hc, _⟩
  · rw [hv]; exact .inl rfl
  · rcases ho.2 with ⟨hv2, _⟩ | ⟨g', cap', cur', hv2, _, hc', _⟩
    · rw [hv2]; exact .inr (by rw [hv]; simp [Value.ownBlock])
    · refine .inr fun e => ?_
      rw [hv, hv2] at e
      have e2 : g = g' := by simpa [Value.ownBlock] using e
      subst e2
      rw [hc] at hc'
      injection hc' with hc'
      injection hc' with q1 q2 q3
      exact hne q2
theorem resCellG {P : Program} {fn : Func} {p : Tmp} {ty : TypeId} (h : fn.results = #[.cell p ty]) (tmps : Array Value) (w : World) :
    (results fn tmps).run P w = ((asAddr (tmps.getD p undef)).run P w).andThen fun a w₁ => (loadVar ty a).run P w₁ := by
  simp only [results, h]
  simp [Sem.run_bind, Result.andThen]
theorem KTw.set {k : IntKind} {t t' : TypeId} {w : World} {base b : Nat} {x : Vc} {cs : Array Value} (h : KTw k t w base x) (hw : Whole w b t' cs) (hne : t' ≠ t) (i : Nat) (u : Value) : KTw k t (w.setCell ⟨b, i, none⟩ u) base x := ⟨h.1, h.2.1, own_far h.2.2 hw hne i u⟩
/-- The cells of nodes. -/
def encG (x : Gn) : List Value := [.int .u64 x.1, .slice x.2.1.1 x.2.1.2.2.length x.2.1.2.1, .slice x.2.2.1 x.2.2.2.2.length x.2.2.2.1]
def flatG (L : List Gn) : List Value := L.flatMap encG
theorem flatG_len (L : List Gn) : (flatG L).length = L.length * 3 := by
  induction L with
  | nil => rfl
  | cons x r ih => unfold flatG at *; rw [List.flatMap_cons, List.length_append, ih, List.length_cons]; simp [encG]; omega
theorem flatG_snoc (L : List Gn) (x : Gn) : flatG (L ++ [x]) = flatG L ++ encG x := by unfold flatG; rw [List.flatMap_append]; simp
theorem flatG_get {L : List Gn} : ∀ {i : Nat} {x : Gn}, L[i]? = some x → (flatG L)[i * 3]? = some (.int .u64 x.1) ∧ (flatG L)[i * 3 + 1]? = some (.slice x.2.1.1 x.2.1.2.2.length x.2.1.2.1) ∧ (flatG L)[i * 3 + 2]? = some (.slice x.2.2.1 x.2.2.2.2.length x.2.2.2.1) := by
  induction L with
  | nil => intro i x h; simp at h
  | cons y r ih =>
    intro i x h
    have e : flatG (y :: r) = Value.int .u64 y.1 :: Value.slice y.2.1.1 y.2.1.2.2.length y.2.1.2.1 :: Value.slice y.2.2.1 y.2.2.2.2.length y.2.2.2.1 :: flatG r := rfl
    rw [e]
    cases i with
    | zero => simp at h; subst h; exact ⟨rfl, rfl, rfl⟩
    | succ i =>
      rw [List.getElem?_cons_succ] at h
      have := ih h
      rw [show (i + 1) * 3 = i * 3 + 3 by omega]
      simpa using this
/-- The mark behind a twin's nodes. -/
def gMark : Gn := (77, vNil, vNil)
/-- A row of nodes of the call's own reads as its nodes. -/
theorem rowG_rd {w : World} {base g n cap : Nat} {L : List Gn} (h : w.ownsRow base 87 3 (.slice (some ⟨g, 0, none⟩) n cap) n (flatG L)) (hr : ∀ x ∈ L, Rd .i8 w w.heap.size x.2.1.1 x.2.1.2.2 ∧ Rd .i64 w w.heap.size x.2.2.1 x.2.2.2.2) : RdG w w.heap.size (some ⟨g, 0, none⟩) L := fun hl => by
  have hn : n = L.length := by have := h.1; rw [flatG_len] at this; omega
  refine ⟨g, 0, rfl, (h.lt g rfl).2, fun i hi => ?_⟩
  have e : L[i]? = some (L[i]?.getD gNil) := by simp [List.getElem?_eq_getElem hi]
  obtain ⟨h1, h2, h3⟩ := flatG_get e
  have hm : L[i]?.getD gNil ∈ L := List.mem_of_getElem? e
  refine ⟨?_, ?_, ?_, (hr _ hm).1, (hr _ hm).2⟩
  · rw [Nat.zero_add]; exact (h.cellAt (i * 3) (by omega)).trans h1
  · rw [Nat.zero_add]; exact (h.cellAt (i * 3 + 1) (by omega)).trans h2
  · rw [Nat.zero_add]; exact (h.cellAt (i * 3 + 2) (by omega)).trans h3
/-- A twin of a graph's nodes. -/
structure TwinG (w : World) (base g : Nat) (T : List Gn) : Prop where
  row : w.ownsRow base 87 3 (.slice (some ⟨g, 0, none⟩) (T.length + 1) (T.length + 1)) (T.length + 1) (flatG (T ++ [gMark]))
  tv : ∀ x ∈ T, KTw .i8 64 w base x.2.1
  to : ∀ x ∈ T, KTw .i64 3 w base x.2.2
  av : T.Pairwise fun x y => x.2.1.1 ≠ y.2.1.1
  ao : T.Pairwise fun x y => x.2.2.1 ≠ y.2.2.1
theorem TwinG.below {w w' : World} {base g : Nat} {T : List Gn} (h : TwinG w base g T) (hb : Below w.heap.size w w') : TwinG w' base g T := ⟨own_below h.row hb, fun x hx => (h.tv x hx).below hb, fun x hx => (h.to x hx).below hb, h.av, h.ao⟩
theorem TwinG.own {w : World} {base g : Nat} {T : List Gn} (h : TwinG w base g T) : w.ownsRow base 87 3 (.slice (some ⟨g, 0, none⟩) T.length (T.length + 1)) T.length (flatG T) := by
  have h3 := own_shrink (n := T.length + 1) (c := T.length) (Nat.le_succ _) h.row
  rw [flatG_snoc, List.take_left' (flatG_len T)] at h3
  exact h3
theorem TwinG.rd {w : World} {base g : Nat} {T : List Gn} (h : TwinG w base g T) : RdG w w.heap.size (some ⟨g, 0, none⟩) T := rowG_rd h.own (fun x hx => ⟨(h.tv x hx).rd0, (h.to x hx).rd0⟩)
theorem TwinG.base {w : World} {b b' g : Nat} {T : List Gn} (h : TwinG w b g T) (hb : b' ≤ b) : TwinG w b' g T := ⟨own_base h.row hb, fun x hx => (h.tv x hx).base hb, fun x hx => (h.to x hx).base hb, h.av, h.ao⟩
theorem TwinG.set {w : World} {base g b : Nat} {T : List Gn} {t : TypeId} {cs : Array Value} (h : TwinG w base g T) (hw : Whole w b t cs) (h0 : t ≠ 87) (h1 : t ≠ 64) (h2 : t ≠ 3) (i : Nat) (u : Value) : TwinG (w.setCell ⟨b, i, none⟩ u) base g T :=
  ⟨own_far h.row hw h0 i u, fun x hx => (h.tv x hx).set hw h1 i u, fun x hx => (h.to x hx).set hw h2 i u, h.av, h.ao⟩
set_option maxRecDepth 100000 in
set_option maxHeartbeats 4000000 in
theorem twinNode_any (id : Int) (a1 a2 : Option Addr) (c1 c2 : Nat) (v o : List Int) (n m : Nat) (hn : n = v.length) (hm : m = o.length) (w : World) (h1 : Rd .i8 w w.heap.size a1 v) (h2 : Rd .i64 w w.heap.size a2 o) (hl1 : v.length ≤ 1000000) (hl2 : o.length ≤ 1000000) :
    Calls Tryz.prog 73 #[.agg #[.int .u64 id, .slice a1 n c1, .slice a2 m c2]] w fun e w' => ∃ g1 g2, e = .returned (.agg #[.int .u64 id, .slice (some ⟨g1, 0, none⟩) n (n + 1), .slice (some ⟨g2, 0, none⟩) m (m + 1)]) ∧ KTw .i8 64 w' w.heap.size (some ⟨g1, 0, none⟩, n + 1, v) ∧ KTw .i64 3 w' w.heap.size (some ⟨g2, 0, none⟩, m + 1, o) ∧ Below w.heap.size w w' := by
  subst hn hm
  have W0 := (Whole.new w 87 #[.int .u64 id, .slice a1 v.length c1, .slice a2 o.length c2]).alloc (.cells #[.int .u64 0, .slice none 0 0, .slice none 0 0] 87)
  have W1 : Whole ((w.alloc (.cells #[.int .u64 id, .slice a1 v.length c1, .slice a2 o.length c2] 87)).alloc (.cells #[.int .u64 0, .slice none 0 0, .slice none 0 0] 87)) (w.heap.size + 1) 87 #[.int .u64 0, .slice none 0 0, .slice none 0 0] := by
    have := Whole.new (w.alloc (.cells #[.int .u64 id, .slice a1 v.length c1, .slice a2 o.length c2] 87)) 87 #[.int .u64 0, .slice none 0 0, .slice none 0 0]
    simpa using this
  have B0 : Below w.heap.size w ((w.alloc (.cells #[.int .u64 id, .slice a1 v.length c1, .slice a2 o.length c2] 87)).alloc (.cells #[.int .u64 0, .slice none 0 0, .slice none 0 0] 87)) := below_one (below_one (Below.refl _ _) _) _
  have H1 := Lib.hid (h1.below B0)
  have H2 := Lib.hid (h2.below B0)
  clear h1 h2
  go_enter Tryz.func73, Tryz.ntmps73
  go_wp2
  obtain ⟨w1, ew1⟩ : ∃ w1, (w.alloc (.cells #[.int .u64 id, .slice a1 v.length c1, .slice a2 o.length c2] 87)).alloc (.cells #[.int .u64 0, .slice none 0 0, .slice none 0 0] 87) = w1 := ⟨_, rfl⟩
  rw [ew1] at H1 H2 W0 W1 B0 ⊢
  obtain ⟨g, eg⟩ : ∃ g, w.heap.size = g := ⟨_, rfl⟩
  rw [eg] at W0 W1 H1 H2 ⊢
  have HG := Lib.hid eg
  have HW0 := Lib.hid W0
  have HW1 := Lib.hid W1
  have HB := Lib.hid B0
  clear ew1 eg
  have hd : Below w1.heap.size w1 w1.drew := (Below.refl _ _).drew
  have HCL : Hid (∀ W, Below w1.heap.size w1 W → W.cell? ⟨g, 0, none⟩ = some (.int .u64 id) ∧ W.cell? ⟨g, 1, none⟩ = some (.slice a1 v.length c1) ∧ W.cell? ⟨g, 2, none⟩ = some (.slice a2 o.length c2) ∧ W.frozen? ⟨g + 1, 0, none⟩ = false ∧ W.frozen? ⟨g + 1, 1, none⟩ = false ∧ W.frozen? ⟨g + 1, 2, none⟩ = false ∧ W.cell? ⟨g + 1, 0, none⟩ = some (.int .u64 0) ∧ W.cell? ⟨g + 1, 1, none⟩ = some (.slice none 0 0) ∧ W.cell? ⟨g + 1, 2, none⟩ = some (.slice none 0 0)) := Lib.hid (fun W h => by
    have z0 := HW0.out.below h HW0.out.lt
    have z1 := HW1.out.below h HW1.out.lt
    exact ⟨z0.cell 0, z0.cell 1, z0.cell 2, z1.frozen 0, z1.frozen 1, z1.frozen 2, z1.cell 0, z1.cell 1, z1.cell 2⟩)
  have TV := Lib.hid (fun W (h : Below w1.heap.size w1 W) => twinInt8s_any a1 c1 v _ rfl W ((H1.out.below ((show Below g w1 W from h.mono (Nat.le_of_lt (Nat.lt_trans (Nat.lt_succ_self g) HW1.out.lt))))).more (Nat.le_trans (Nat.le_of_lt (Nat.lt_trans (Nat.lt_succ_self g) HW1.out.lt)) h.size)) (by omega))
  have TI := Lib.hid (fun W (h : Below w1.heap.size w1 W) => twinInts_any a2 c2 o _ rfl W ((H2.out.below ((show Below g w1 W from h.mono (Nat.le_of_lt (Nat.lt_trans (Nat.lt_succ_self g) HW1.out.lt))))).more (Nat.le_trans (Nat.le_of_lt (Nat.lt_trans (Nat.lt_succ_self g) HW1.out.lt)) h.size)) (by omega))
  obtain ⟨p0, p1, p2, f0, f1, f2, q0, q1, q2⟩ := HCL.out w1.drew hd
  clear W0 W1 B0 H1 H2
  go_region_held3 (fun w' => w'.cell? ⟨g, 0, none⟩ = some (.int .u64 id) ∧ w'.cell? ⟨g, 1, none⟩ = some (.slice a1 v.length c1) ∧ w'.cell? ⟨g, 2, none⟩ = some (.slice a2 o.length c2))
    (first | exact ⟨by with_reducible assumption, by with_reducible assumption, by with_reducible assumption⟩ | go_keep)
    (first
      | (go_at_call 8; (with_reducible refine (TV.out _ (by with_reducible assumption)).mono ?_); rintro e w2 ⟨rfl, b2, o2⟩
         have d2 : Below w1.heap.size w1 w2 := hd.trans (b2.mono hd.size)
         obtain ⟨r0, r1, r2, rf0, rf1, rf2, rq0, rq1, rq2⟩ := HCL.out w2 d2)
      | (go_at_call 117; (with_reducible refine (TI.out _ (by with_reducible assumption)).mono ?_); rintro e w3 ⟨rfl, b3, o3⟩
         have d3 : Below w1.heap.size w1 w3 := d2.trans (b3.mono d2.size)
         obtain ⟨s0, s1, s2, sf0, sf1, sf2, sq0, sq1, sq2⟩ := HCL.out w3 d3)
      | fail)
  all_goals
    go_wp2
    refine bodyPost_ret (v := .agg #[.int .u64 id, .slice (some ⟨w1.heap.size, 0, none⟩) v.length (v.length + 1), .slice (some ⟨w2.heap.size, 0, none⟩) o.length (o.length + 1)]) (by rw [resCellG rfl]; go_simp) rfl ?_
    have k2 : KTw .i8 64 w2 g (some ⟨w1.heap.size, 0, none⟩, v.length + 1, v) := ⟨rfl, ⟨_, rfl⟩, own_base o2 (by have := HW1.out.lt; show g ≤ w1.drew.heap.size; exact Nat.le_of_lt (Nat.lt_trans (Nat.lt_succ_self g) this))⟩
    have k3 := k2.below b3
    have i3 : KTw .i64 3 w3 g (some ⟨w2.heap.size, 0, none⟩, o.length + 1, o) := ⟨rfl, ⟨_, rfl⟩, own_base o3 (Nat.le_trans (Nat.le_of_lt (Nat.lt_trans (Nat.lt_succ_self g) HW1.out.lt)) d2.size)⟩
    have z := HW1.out.below d3 HW1.out.lt
    have z' := z.set 0 (.int .u64 id)
    have z'' := z'.set 1 (.slice (some ⟨w1.heap.size, 0, none⟩) v.length (v.length + 1))
    have hb : Below g w w3 := by rw [← HG.out]; exact HB.out.trans (d3.mono HB.out.size)
    rw [HG.out]
    refine ⟨w1.heap.size, w2.heap.size, rfl, ((k3.set z (by decide) _ _).set z' (by decide) _ _).set z'' (by decide) _ _, ((i3.set z (by decide) _ _).set z' (by decide) _ _).set z'' (by decide) _ _, ?_⟩
    exact ((hb.setCell (p := ⟨g + 1, 0, none⟩) (Nat.le_succ _) _).setCell (p := ⟨g + 1, 1, none⟩) (Nat.le_succ _) _).setCell (p := ⟨g + 1, 2, none⟩) (Nat.le_succ _) _
theorem pns_tk {L : List Gn} {k : Nat} {x : Pn} (h : (pns L)[k]? = some x) : (pns L).take (k + 1) = (pns L).take k ++ [x] := by rw [List.take_add_one, h]; rfl
/-- A twin under way. -/
structure TwinK (w : World) (base g cap : Nat) (T : List Gn) : Prop where
  row : w.ownsRow base 87 3 (.slice (some ⟨g, 0, none⟩) T.length cap) T.length (flatG T)
  tv : ∀ x ∈ T, KTw .i8 64 w base x.2.1
  to : ∀ x ∈ T, KTw .i64 3 w base x.2.2
  av : T.Pairwise fun x y => x.2.1.1 ≠ y.2.1.1
  ao : T.Pairwise fun x y => x.2.2.1 ≠ y.2.2.1
theorem TwinK.below {w w' : World} {base g cap : Nat} {T : List Gn} (h : TwinK w base g cap T) (hb : Below w.heap.size w w') : TwinK w' base g cap T := ⟨own_below h.row hb, fun x hx => (h.tv x hx).below hb, fun x hx => (h.to x hx).below hb, h.av, h.ao⟩
theorem KTw.farK {k : IntKind} {t e2 : TypeId} {w w' : World} {base b2 n2 s2 : Nat} {x : Vc} {v2 : Value} {xs2 : List Value} (h : KTw k t w base x) (ho : w.ownsRow b2 e2 s2 v2 n2 xs2) (hne : t ≠ e2) (hg : w.grownBy w' v2.ownBlock) : KTw k t w' base x := ⟨h.1, h.2.1, row_farK h.2.2 ho hne hg⟩
theorem TwinK.next {w w1 w2 : World} {base g cap : Nat} {T : List Gn} {x : Gn} (h : TwinK w base g cap T) (hb : Below w.heap.size w w1) (hv : KTw .i8 64 w1 w.heap.size x.2.1) (ho : KTw .i64 3 w1 w.heap.size x.2.2) (hbase : base ≤ w.heap.size) (o : Obj)
    (hown : w2.ownsRow base 87 3 (.slice (some ⟨g, 0, none⟩) (T.length + 1) cap) (T.length + 1) (flatG T ++ encG x)) (hg : (w1.alloc o).grownBy w2 (some g)) : TwinK w2 base g cap (T ++ [x]) := by
  have hr := (own_below h.row hb).alloc o
  have f8 : ∀ y : Vc, KTw .i8 64 w1 base y → KTw .i8 64 w2 base y := fun y hy => (hy.below (below_one (Below.refl _ _) o)).farK hr (by decide) hg
  have f64 : ∀ y : Vc, KTw .i64 3 w1 base y → KTw .i64 3 w2 base y := fun y hy => (hy.below (below_one (Below.refl _ _) o)).farK hr (by decide) hg
  obtain ⟨g1, e1, l1, u1⟩ := hv.lt
  obtain ⟨g2, e2, l2, u2⟩ := ho.lt
  refine ⟨by rw [List.length_append, List.length_singleton, flatG_snoc]; exact hown, fun y hy => ?_, fun y hy => ?_, ?_, ?_⟩
  · rcases List.mem_append.1 hy with h1 | h1
    · exact f8 _ ((h.tv y h1).below hb)
    · rw [List.mem_singleton] at h1
      subst h1
      exact f8 _ (hv.base hbase)
  · rcases List.mem_append.1 hy with h1 | h1
    · exact f64 _ ((h.to y h1).below hb)
    · rw [List.mem_singleton] at h1
      subst h1
      exact f64 _ (ho.base hbase)
  · refine List.pairwise_append.2 ⟨h.av, by simp, fun y hy z hz => ?_⟩
    rw [List.mem_singleton] at hz
    subst hz
    obtain ⟨gy, ey, ly, uy⟩ := (h.tv y hy).lt
    rw [ey, e1]
    intro e
    injection e with e
    injection e with e
    omega
  · refine List.pairwise_append.2 ⟨h.ao, by simp, fun y hy z hz => ?_⟩
    rw [List.mem_singleton] at hz
    subst hz
    obtain ⟨gy, ey, ly, uy⟩ := (h.to y hy).lt
    rw [ey, e2]
    intro e
    injection e with e
    injection e with e
    omega
theorem Tryz.info87g : (Tryz.prog.info? 87).map (fun i => (i.zero, i.size, i.bytes)) = some (some (.agg #[.int .u64 0, .slice none 0 0, .slice none 0 0]), 3, 56) := by kernel_rfl
set_option maxRecDepth 100000 in
set_option maxHeartbeats 4000000 in
theorem twinNodes_any (A : Option Addr) (c : Nat) (L : List Gn) (n : Nat) (hn : n = L.length) (w : World) (hx : RdG w w.heap.size A L) (hl : L.length ≤ 20000) (hs : ∀ x ∈ pns L, x.2.1.length ≤ 20000 ∧ x.2.2.length ≤ 20000) :
    Calls Tryz.prog 23 #[.slice A n c] w fun e w' => e = .returned (.slice (some ⟨w.heap.size, 0, none⟩) n (n + 1)) ∧ (∃ T, TwinG w' w.heap.size w.heap.size T ∧ pns T = pns L ∧ T.length = L.length) ∧ Below w.heap.size w w' := by
  subst hn
  have HSM := Lib.hid hs
  have HL := Lib.hid (pns_len L)
  obtain ⟨i0, hi, hz0, hz1, hz2⟩ := info_parts Tryz.info87g
  clear hs
  go_enter Tryz.func23, Tryz.ntmps23
  go_wp2_with (at_make; refine wpList_make_own _ rfl _ _ 22 rfl w.heap.size 87 i0 (.agg #[.int .u64 0, .slice none 0 0, .slice none 0 0]) 3 Tryz.underlying22 hi hz0 hz1 _ _ _ (L.length + 1) rfl rfl (by omega) ?b2 ?b3 (Nat.le_refl _) ?_)
  case b2 => rw [hz2]; omega
  case b3 => unfold maxLen; omega
  intro w1 hown hgrow
  have hB1 : Below w.heap.size w w1 := (Below.refl _ _).grown hgrow (Nat.le_refl _) (by simp)
  have st0 : TwinK w1 w.heap.size w.heap.size (L.length + 1) [] := ⟨by simpa [flatG] using hown, fun x hx => by simp at hx, fun x hx => by simp at hx, List.Pairwise.nil, List.Pairwise.nil⟩
  clear hgrow hown
  go_wp2
  go_loopw [3, 4] (fun v i wr => ∃ (k : Nat) (T : List Gn), k ≤ L.length ∧ i = .int .i64 k ∧ v = .slice (some ⟨w.heap.size, 0, none⟩) k (L.length + 1) ∧ Hid (T.length = k) ∧ Hid (TwinK wr w.heap.size w.heap.size (L.length + 1) T) ∧ Hid (pns T = (pns L).take k) ∧ Hid (Below w.heap.size w wr)) (fun _ i _ => L.length - (intOf i).toNat)
  case atStart => exact ⟨0, [], by omega, rfl, rfl, Lib.hid rfl, st0, Lib.hid (by simp [pns]), hB1⟩
  case round =>
    clear st0 hB1
    obtain ⟨k, T, hk, rfl, rfl, HTK, HT, HP, HB⟩ := hrel
    have hsz := HB.out.size
    by_cases hlt : k < L.length
    · obtain ⟨b, off, id, a1, c1, v, a2, c2, o, rfl, hBb, h1, h2, h3, hr1, hr2, hv⟩ := (hx.below HB.out).at_ hlt
      have hsm := HSM.out _ (List.mem_of_getElem? (pns_at hv.out))
      have TN := Lib.hid (twinNode_any id a1 a2 c1 c2 v o _ _ rfl rfl wr (hr1.more hsz) (hr2.more hsz) (by have : v.length ≤ 20000 := hsm.1; omega) (by have : o.length ≤ 20000 := hsm.2; omega))
      have HS := Lib.hid (pns_tk (pns_at hv.out))
      have hTl : T.length ≤ 20000 := by have := HTK.out; omega
      clear hv hsm hr1 hr2
      go_wp2_with (first
        | (go_at_call 73; refine TN.out.mono ?_; rintro e w2 ⟨g1, g2, rfl, kv, ko, b2⟩
           have hr2 := (own_below HT.out.row b2).alloc (.cells #[.int .u64 id, .slice (some ⟨g1, 0, none⟩) v.length (v.length + 1), .slice (some ⟨g2, 0, none⟩) o.length (o.length + 1)] 87)
           rw [HTK.out] at hr2)
        | (at_builtin; refine wpList_append_fits _ rfl _ _ 22 rfl w.heap.size 87 i0 3 Tryz.underlying22 hi hz1 w.heap.size k (L.length + 1) _ rfl hr2 ⟨w2.heap.size, 0, none⟩ 1 1 [.int .u64 id, .slice (some ⟨g1, 0, none⟩) v.length (v.length + 1), .slice (some ⟨g2, 0, none⟩) o.length (o.length + 1)] rfl rfl (World.news_of_block (cs := #[.int .u64 id, .slice (some ⟨g1, 0, none⟩) v.length (v.length + 1), .slice (some ⟨g2, 0, none⟩) o.length (o.length + 1)]) (t := 87) (fr := (0, 0)) (heap_alloc_new w2 _)) (by simp [Value.oneCell']) (by omega) ?_; intro w3 hown3 hg3))
      have b3 : Below w.heap.size w w3 := ((HB.out.trans (b2.mono hsz)).alloc (Nat.le_trans hsz b2.size) _).grown hg3 (by rw [World.size_alloc]; have := b2.size; omega) (by simp)
      have T3 := HT.out.next (x := (id, (some ⟨g1, 0, none⟩, v.length + 1, v), (some ⟨g2, 0, none⟩, o.length + 1, o))) b2 kv ko hsz _ (by rw [HTK.out]; exact hown3) hg3
      exact ⟨⟨k + 1, _, by omega, by go_num, rfl, Lib.hid (by rw [List.length_append, HTK.out]; rfl), T3, Lib.hid (by rw [pns_snoc, HP.out, HS.out]; rfl), b3⟩, by simp [intOf]; omega⟩
    · obtain rfl : k = L.length := by omega
      have hr2 := HT.out.row.alloc (.cells #[.int .u64 77, .slice none 0 0, .slice none 0 0] 87)
      rw [HTK.out] at hr2
      have HPL := Lib.hid (show pns T = pns L by rw [HP.out, List.take_of_length_le (by rw [HL.out]; exact Nat.le_refl _)])
      go_wp2_with (at_builtin; refine wpList_append_fits _ rfl _ _ 22 rfl w.heap.size 87 i0 3 Tryz.underlying22 hi hz1 w.heap.size L.length (L.length + 1) _ rfl hr2 ⟨wr.heap.size, 0, none⟩ 1 1 [.int .u64 77, .slice none 0 0, .slice none 0 0] rfl rfl (World.news_of_block (cs := #[.int .u64 77, .slice none 0 0, .slice none 0 0]) (t := 87) (fr := (0, 0)) (heap_alloc_new wr _)) (by simp [Value.oneCell']) (by omega) ?_; intro w3 hown3 hg3)
      have b3 : Below w.heap.size w w3 := (HB.out.alloc hsz _).grown hg3 (by rw [World.size_alloc]; omega) (by simp)
      have hr := HT.out.row.alloc (.cells #[.int .u64 77, .slice none 0 0, .slice none 0 0] 87)
      have T3 : TwinG w3 w.heap.size w.heap.size T := ⟨by rw [flatG_snoc, HTK.out]; exact hown3, fun y hy => ((HT.out.tv y hy).below (below_one (Below.refl _ _) _)).farK hr (by decide) hg3, fun y hy => ((HT.out.to y hy).below (below_one (Below.refl _ _) _)).farK hr (by decide) hg3, HT.out.av, HT.out.ao⟩
      have HT3 := Lib.hid T3
      have HB3 := Lib.hid b3
      clear T3 b3 hr hr2 hown3 hg3
      go_wp2
      go_ret
      exact ⟨rfl, ⟨T, HT3.out, HPL.out, HTK.out⟩, HB3.out⟩
set_option maxRecDepth 100000 in
set_option maxHeartbeats 4000000 in
theorem twinGraph_any (A : Option Addr) (c : Nat) (L : List Gn) (s : Int) (w : World) (hx : GGiven w A L) (hs : GSmall (pns L)) :
    Calls Tryz.prog 7 #[.agg #[.slice A L.length c, .int .i64 s]] w fun e w' => ∃ g T, e = .returned (.agg #[.slice (some ⟨g, 0, none⟩) L.length (L.length + 1), .int .i64 s]) ∧ w.heap.size ≤ g ∧ TwinG w' w.heap.size g T ∧ pns T = pns L ∧ T.length = L.length ∧ Below w.heap.size w w' := by
  have W0 := (Whole.new w 24 #[.slice A L.length c, .int .i64 s]).alloc (.cells #[.slice none 0 0, .int .i64 0] 24)
  have W1 : Whole ((w.alloc (.cells #[.slice A L.length c, .int .i64 s] 24)).alloc (.cells #[.slice none 0 0, .int .i64 0] 24)) (w.heap.size + 1) 24 #[.slice none 0 0, .int .i64 0] := by
    have := Whole.new (w.alloc (.cells #[.slice A L.length c, .int .i64 s] 24)) 24 #[.slice none 0 0, .int .i64 0]
    simpa using this
  have B0 : Below w.heap.size w ((w.alloc (.cells #[.slice A L.length c, .int .i64 s] 24)).alloc (.cells #[.slice none 0 0, .int .i64 0] 24)) := below_one (below_one (Below.refl _ _) _) _
  have HX := Lib.hid (hx.below B0)
  have HSM := Lib.hid hs
  have HL := Lib.hid (pns_len L)
  clear hx hs
  go_enter Tryz.func7, Tryz.ntmps7
  go_wp2
  obtain ⟨w1, ew1⟩ : ∃ w1, (w.alloc (.cells #[.slice A L.length c, .int .i64 s] 24)).alloc (.cells #[.slice none 0 0, .int .i64 0] 24) = w1 := ⟨_, rfl⟩
  rw [ew1] at HX W0 W1 B0 ⊢
  obtain ⟨g, eg⟩ : ∃ g, w.heap.size = g := ⟨_, rfl⟩
  rw [eg] at W0 W1 ⊢
  have HG := Lib.hid eg
  have HW0 := Lib.hid W0
  have HW1 := Lib.hid W1
  have HB := Lib.hid B0
  clear ew1 eg
  have hd : Below w1.heap.size w1 w1.drew := (Below.refl _ _).drew
  have HCL : Hid (∀ W, Below w1.heap.size w1 W → W.cell? ⟨g, 0, none⟩ = some (.slice A L.length c) ∧ W.cell? ⟨g, 1, none⟩ = some (.int .i64 s) ∧ W.frozen? ⟨g + 1, 0, none⟩ = false ∧ W.frozen? ⟨g + 1, 1, none⟩ = false ∧ W.cell? ⟨g + 1, 0, none⟩ = some (.slice none 0 0) ∧ W.cell? ⟨g + 1, 1, none⟩ = some (.int .i64 0)) := Lib.hid (fun W h => by
    have z0 := HW0.out.below h HW0.out.lt
    have z1 := HW1.out.below h HW1.out.lt
    exact ⟨z0.cell 0, z0.cell 1, z1.frozen 0, z1.frozen 1, z1.cell 0, z1.cell 1⟩)
  have TN := Lib.hid (fun W (h : Below w1.heap.size w1 W) => twinNodes_any A c L _ rfl W ((HX.out.rd.below h).more h.size) (by have := HSM.out.len; rwa [HL.out] at this) (fun x hx => HSM.out.at_ hx))
  obtain ⟨p0, p1, f0, f1, q0, q1⟩ := HCL.out w1.drew hd
  clear W0 W1 B0 HX HSM
  go_region_held3 (fun w' => w'.cell? ⟨g, 0, none⟩ = some (.slice A L.length c) ∧ w'.cell? ⟨g, 1, none⟩ = some (.int .i64 s))
    (first | exact ⟨by with_reducible assumption, by with_reducible assumption⟩ | go_keep)
    (first
      | (go_at_call 23; (with_reducible refine (TN.out _ (by with_reducible assumption)).mono ?_); rintro e w2 ⟨rfl, hT, b2⟩
         have d2 : Below w1.heap.size w1 w2 := hd.trans (b2.mono hd.size)
         obtain ⟨r0, r1, rf0, rf1, rq0, rq1⟩ := HCL.out w2 d2)
      | fail)
  all_goals
    obtain ⟨T, hT, hTv, hTl⟩ := hT
    have HT := Lib.hid hT
    clear hT
    go_wp2
    refine bodyPost_ret (v := .agg #[.slice (some ⟨w1.heap.size, 0, none⟩) L.length (L.length + 1), .int .i64 s]) (by rw [resCellG rfl]; go_simp) rfl ?_
    have z := HW1.out.below d2 HW1.out.lt
    have z' := z.set 0 (.slice (some ⟨w1.heap.size, 0, none⟩) L.length (L.length + 1))
    have hg1 : g ≤ w1.heap.size := Nat.le_of_lt (Nat.lt_trans (Nat.lt_succ_self g) HW1.out.lt)
    have hb : Below g w w2 := by rw [← HG.out]; exact HB.out.trans (d2.mono HB.out.size)
    have hTs := (((HT.out.base hg1).set z (by decide) (by decide) (by decide) 0 (.slice (some ⟨w1.heap.size, 0, none⟩) L.length (L.length + 1))).set z' (by decide) (by decide) (by decide) 1 (.int .i64 s))
    rw [HG.out]
    exact ⟨w1.heap.size, T, rfl, hg1, hTs, hTv, hTl, (hb.setCell (p := ⟨g + 1, 0, none⟩) (Nat.le_succ _) _).setCell (p := ⟨g + 1, 1, none⟩) (Nat.le_succ _) _⟩
end Go.Proofs.YtkmngbkghgelfaaGreat
/- The walks of SameNode, SameNodes, SameGraph; LeftNode, LeftNodes, LeftGraph. -/
namespace Go.Proofs.YtkmngbkghgelfaaGreat
open Go.RowKit
set_option linter.unusedVariables false
/-- Two nodes by value, each in a box. -/
theorem twoN (w : World) (x y : Array Value) (t : TypeId) : Whole ((w.alloc (.cells x t)).alloc (.cells y t)) w.heap.size t x ∧ Whole ((w.alloc (.cells x t)).alloc (.cells y t)) (w.heap.size + 1) t y ∧ Below w.heap.size w ((w.alloc (.cells x t)).alloc (.cells y t)) ∧ ((w.alloc (.cells x t)).alloc (.cells y t)).heap.size = w.heap.size + 2 := by
  refine ⟨(Whole.new w t _).alloc _, ?_, below_one (below_one (Below.refl _ _) _) _, by simp⟩
  have := Whole.new (w.alloc (.cells x t)) t y
  rwa [World.size_alloc] at this
set_option maxRecDepth 100000 in
set_option maxHeartbeats 4000000 in
/-- A twin of a node that is still what it was made of. -/
theorem leftNode_any (id : Int) (a1 a2 a3 a4 : Option Addr) (c1 c2 c3 c4 : Nat) (v o : List Int) (w : World) (D : Nat) (hD : D ≤ w.heap.size) (h1 : Rd .i8 w D a1 (v ++ [77])) (h2 : Rd .i64 w D a2 (o ++ [77])) (h3 : Rd .i8 w D a3 v) (h4 : Rd .i64 w D a4 o)
    (l1 : v.length ≤ 1000000) (l2 : o.length ≤ 1000000) (k1 : v.length < c1 ∧ c1 ≤ 9223372036854775807) (k2 : o.length < c2 ∧ c2 ≤ 9223372036854775807) (k3 : v.length ≤ c3 ∧ c3 ≤ 9223372036854775807) (k4 : o.length ≤ c4 ∧ c4 ≤ 9223372036854775807) :
    Calls Tryz.prog 88 #[.agg #[.int .u64 id, .slice a1 v.length c1, .slice a2 o.length c2], .agg #[.int .u64 id, .slice a3 v.length c3, .slice a4 o.length c4]] w fun e w' => e = .returned (.bool true) ∧ Below w.heap.size w w' := by
  obtain ⟨W0, W1, B0, hsz⟩ := twoN w #[.int .u64 id, .slice a1 v.length c1, .slice a2 o.length c2] #[.int .u64 id, .slice a3 v.length c3, .slice a4 o.length c4] 87
  have L8 := Lib.hid (fun W (h : Below w.heap.size w W) => leftInt8s_any a1 a3 c1 c3 v _ rfl W D (h3.below (h.mono hD)) (h1.below (h.mono hD)) k3.1 k1.1 ⟨k3.2, by omega⟩ k1.2)
  have LI := Lib.hid (fun W (h : Below w.heap.size w W) => leftInts_any a2 a4 c2 c4 o _ rfl W D (h4.below (h.mono hD)) (h2.below (h.mono hD)) k4.1 k2.1 ⟨k4.2, by omega⟩ k2.2)
  have HB := Lib.hid B0
  have p0 := W0.cell 0
  have p1 := W0.cell 1
  have p2 := W0.cell 2
  have q0 := W1.cell 0
  have q1 := W1.cell 1
  have q2 := W1.cell 2
  clear W0 W1 B0 hsz h1 h2 h3 h4 k1 k2 k3 k4
  have e1 : (id == id) = true := by simp
  go_enter Tryz.func88, Tryz.ntmps88
  go_wp2_with (first
    | (go_at_call 13; refine (L8.out _ HB.out).mono ?_; rintro e w2 ⟨rfl, nq, rfl⟩)
    | (go_at_call 132; refine (LI.out _ (below_drewN HB.out _)).mono ?_; rintro e w3 ⟨rfl, mq, rfl⟩))
  go_ret
  exact ⟨rfl, below_drewN HB.out _⟩
end Go.Proofs.YtkmngbkghgelfaaGreat
/- The walks of LeftNodes, LeftGraph. -/
namespace Go.Proofs.YtkmngbkghgelfaaGreat
open Go.RowKit
set_option linter.unusedVariables false
theorem TwinG.rdm {w : World} {base g : Nat} {T : List Gn} (h : TwinG w base g T) : RdG w w.heap.size (some ⟨g, 0, none⟩) (T ++ [gMark]) := by
  have h1 := h.row
  rw [show T.length + 1 = (T ++ [gMark]).length by simp] at h1
  exact rowG_rd h1 (fun x hx => by
    rcases List.mem_append.1 hx with h2 | h2
    · exact ⟨(h.tv x h2).rd0, (h.to x h2).rd0⟩
    · rw [List.mem_singleton] at h2
      subst h2
      exact ⟨rd_nil _ _ _, rd_nil _ _ _⟩)
set_option maxRecDepth 100000 in
set_option maxHeartbeats 4000000 in
theorem leftNodes_any (g base : Nat) (T : List Gn) (A : Option Addr) (c : Nat) (L : List Gn) (n : Nat) (hn : n = L.length) (w : World) (hT : TwinG w base g T) (hv : pns T = pns L) (hTl : T.length = L.length) (hx : GGiven w A L) (hs : GSmall (pns L)) :
    Calls Tryz.prog 30 #[.slice (some ⟨g, 0, none⟩) n (n + 1), .slice A n c] w fun e w' => e = .returned (.bool true) ∧ Below w.heap.size w w' := by
  subst hn
  have HSM := Lib.hid (fun x (h : x ∈ pns L) => hs.at_ h)
  have hl : L.length ≤ 20000 := by have := hs.len; rwa [pns_len] at this
  have HV := Lib.hid hv
  have HTL := Lib.hid hTl
  have HT := Lib.hid hT
  have HX := Lib.hid hx
  have hgl := hT.row.lt g rfl
  have nl : ((L.length : Int) != (L.length : Int)) = false := by simp
  have nc : decide ((L.length : Int) + 1 ≤ (L.length : Int)) = false := decide_eq_false (by omega)
  clear hv hTl hT hs hx
  go_enter Tryz.func30, Tryz.ntmps30
  go_wp2
  go_loopw [5] (fun i wr => ∃ k : Nat, k ≤ L.length ∧ i = .int .i64 k ∧ Hid (Below w.heap.size w wr)) (fun i _ => L.length - (intOf i).toNat)
  case atStart => exact ⟨0, by omega, rfl, Below.refl _ _⟩
  case round =>
    obtain ⟨k, hk, rfl, HB⟩ := hrel
    have hsz := HB.out.size
    by_cases hlt : k < L.length
    · have e1 : decide ((k : Int) < (L.length : Int)) = true := decide_eq_true (by omega)
      obtain ⟨b, off, id, a1, c1, v, a2, c2, o, rfl, hBb, h1, h2, h3, hr1, hr2, hvx⟩ := (HX.out.below HB.out).rd.at_ hlt
      have hT := HT.out.below HB.out
      obtain ⟨b', off', id', a1', c1', v', a2', c2', o', eT, hBb', h1', h2', h3', hr1', hr2', hvy⟩ := hT.rd.at_ (i := k) (by rw [HTL.out]; exact hlt)
      simp only [Option.some.injEq, Addr.mk.injEq, and_true] at eT
      obtain ⟨rfl, rfl⟩ := eT
      simp only [Nat.zero_add] at h1' h2' h3'
      have hsm := HSM.out _ (List.mem_of_getElem? (pns_at hvx.out))
      have l1 : v.length ≤ 20000 := hsm.1
      have l2 : o.length ≤ 20000 := hsm.2
      have e : (id', v', o') = (id, v, o) := by
        have q1 := pns_at hvx.out
        have q2 := pns_at hvy.out
        rw [HV.out, q1] at q2
        simpa using q2.symm
      simp only [Prod.mk.injEq] at e
      obtain ⟨rfl, rfl, rfl⟩ := e
      have hmT := List.mem_of_getElem? hvy.out
      have kv := hT.tv _ hmT
      have ko := hT.to _ hmT
      have kc1 : c1' = v'.length + 1 := kv.1
      have kc2 : c2' = o'.length + 1 := ko.1
      have room := HX.out.room _ (List.mem_of_getElem? hvx.out)
      have rm1 : v'.length ≤ c1 ∧ c1 ≤ 9223372036854775807 := room.1
      have rm2 : o'.length ≤ c2 ∧ c2 ≤ 9223372036854775807 := room.2
      have kvr : Rd .i8 wr wr.heap.size a1' (v' ++ [77]) := kv.rd
      have kor : Rd .i64 wr wr.heap.size a2' (o' ++ [77]) := ko.rd
      have HLN := Lib.hid (fun W (h : Below wr.heap.size wr W) => ((leftNode_any id' a1' a2' a1 a2 c1' c2' c1 c2 v' o' W wr.heap.size h.size (kvr.below h) (kor.below h) (hr1.below h) (hr2.below h) (by omega) (by omega) (by omega) (by omega) rm1 rm2).mono fun e w' q => (by
          have hq := h.trans (q.2.mono h.size)
          exact ⟨q.1, hq, (hq.cell (p := ⟨g, k * 3, none⟩) hBb').trans h1', (hq.cell (p := ⟨g, k * 3 + 1, none⟩) hBb').trans h2', (hq.cell (p := ⟨g, k * 3 + 2, none⟩) hBb').trans h3', (hq.cell (p := ⟨b, off + k * 3, none⟩) hBb).trans h1, (hq.cell (p := ⟨b, off + k * 3 + 1, none⟩) hBb).trans h2, (hq.cell (p := ⟨b, off + k * 3 + 2, none⟩) hBb).trans h3⟩ : e = .returned (.bool true) ∧ Below wr.heap.size wr w' ∧ w'.cell? ⟨g, k * 3, none⟩ = some (.int .u64 id') ∧ w'.cell? ⟨g, k * 3 + 1, none⟩ = some (.slice a1' v'.length c1') ∧ w'.cell? ⟨g, k * 3 + 2, none⟩ = some (.slice a2' o'.length c2') ∧ w'.cell? ⟨b, off + k * 3, none⟩ = some (.int .u64 id') ∧ w'.cell? ⟨b, off + k * 3 + 1, none⟩ = some (.slice a1 v'.length c1) ∧ w'.cell? ⟨b, off + k * 3 + 2, none⟩ = some (.slice a2 o'.length c2))))
      have x1 : (0 : Int) ≤ (k : Int) := by omega
      have x2 : (k : Int) < (L.length : Int) := by omega
      have hd : Below wr.heap.size wr wr.drew := (Below.refl _ _).drew
      have j1 : wr.drew.cell? ⟨g, k * 3, none⟩ = some (.int .u64 id') := h1'
      have j2 : wr.drew.cell? ⟨g, k * 3 + 1, none⟩ = some (.slice a1' v'.length c1') := h2'
      have j3 : wr.drew.cell? ⟨g, k * 3 + 2, none⟩ = some (.slice a2' o'.length c2') := h3'
      have j4 : wr.drew.cell? ⟨b, off + k * 3, none⟩ = some (.int .u64 id') := h1
      have j5 : wr.drew.cell? ⟨b, off + k * 3 + 1, none⟩ = some (.slice a1 v'.length c1) := h2
      have j6 : wr.drew.cell? ⟨b, off + k * 3 + 2, none⟩ = some (.slice a2 o'.length c2) := h3
      clear hsm hvx hvy hr1 hr2 hr1' hr2' l1 l2 hT kv ko kc1 kc2 room rm1 rm2 kvr kor hmT
      go_wp2
      clear h1 h2 h3 h1' h2' h3'
      go_region_held3 (fun w' => w'.cell? ⟨g, k * 3, none⟩ = some (.int .u64 id') ∧ w'.cell? ⟨g, k * 3 + 1, none⟩ = some (.slice a1' v'.length c1') ∧ w'.cell? ⟨g, k * 3 + 2, none⟩ = some (.slice a2' o'.length c2') ∧ w'.cell? ⟨b, off + k * 3, none⟩ = some (.int .u64 id') ∧ w'.cell? ⟨b, off + k * 3 + 1, none⟩ = some (.slice a1 v'.length c1) ∧ w'.cell? ⟨b, off + k * 3 + 2, none⟩ = some (.slice a2 o'.length c2))
        (first | exact ⟨by with_reducible assumption, by with_reducible assumption, by with_reducible assumption, by with_reducible assumption, by with_reducible assumption, by with_reducible assumption⟩)
        (first
          | (go_at_call 88; (with_reducible refine (HLN.out _ (by with_reducible assumption)).mono ?_); rintro e w2 ⟨rfl, b2, y1, y2, y3, y4, y5, y6⟩)
          | fail)
      all_goals
        have HB2 := Lib.hid (HB.out.trans (b2.mono hsz))
        clear b2 y1 y2 y3 y4 y5 y6 j1 j2 j3 j4 j5 j6 hd
        go_wp2
        go_roundw
        case rel => exact ⟨k + 1, by omega, by go_num, HB2⟩
        case measure => simp [intOf]; omega
    · obtain rfl : k = L.length := by omega
      have e1 : decide ((L.length : Int) < (L.length : Int)) = false := decide_eq_false (by omega)
      obtain ⟨b', off', id', a1', c1', v', a2', c2', o', eT, hBb', h1', h2', h3', hr1', hr2', hvy⟩ := (HT.out.below HB.out).rdm.at_ (i := L.length) (by simp; have := HTL.out; omega)
      simp only [Option.some.injEq, Addr.mk.injEq, and_true] at eT
      obtain ⟨rfl, rfl⟩ := eT
      simp only [Nat.zero_add] at h1' h2' h3'
      have e : (id', (a1', c1', v'), (a2', c2', o')) = gMark := by
        have := hvy.out
        rw [← HTL.out, List.getElem?_append_right (Nat.le_refl _), Nat.sub_self] at this
        simpa using this.symm
      simp only [gMark, vNil, Prod.mk.injEq] at e
      obtain ⟨rfl, ⟨rfl, rfl, rfl⟩, ⟨rfl, rfl, rfl⟩⟩ := e
      clear hr1' hr2' hvy
      go_wp2
      go_ret
      exact ⟨rfl, HB.out.alloc hsz _⟩
set_option maxRecDepth 100000 in
set_option maxHeartbeats 4000000 in
theorem leftGraph_any (g base : Nat) (T : List Gn) (A : Option Addr) (c : Nat) (L : List Gn) (s : Int) (n : Nat) (hn : n = L.length) (w : World) (hT : TwinG w base g T) (hv : pns T = pns L) (hTl : T.length = L.length) (hx : GGiven w A L) (hs : GSmall (pns L)) :
    Calls Tryz.prog 12 #[.agg #[.slice (some ⟨g, 0, none⟩) n (n + 1), .int .i64 s], .agg #[.slice A n c, .int .i64 s]] w fun e w' => e = .returned (.bool true) ∧ Below w.heap.size w w' := by
  subst hn
  obtain ⟨W0, W1, B0, hsz⟩ := twoN w #[.slice (some ⟨g, 0, none⟩) L.length (L.length + 1), .int .i64 s] #[.slice A L.length c, .int .i64 s] 24
  have SN := Lib.hid (leftNodes_any g base T A c L _ rfl _ (hT.below B0) hv hTl (hx.below B0) hs)
  have HB := Lib.hid B0
  have HW0 := Lib.hid W0
  have HW1 := Lib.hid W1
  have p0 := W0.cell 0
  have p1 := W0.cell 1
  have q0 := W1.cell 0
  have q1 := W1.cell 1
  clear W0 W1 B0 hsz hx hT hv hs hTl
  have e1 : (s == s) = true := by simp
  go_enter Tryz.func12, Tryz.ntmps12
  go_wp2_with (go_at_call 30; refine SN.out.mono ?_; rintro e w2 ⟨rfl, b2⟩
               have z0 := HW0.out.below b2 HW0.out.lt
               have z1 := HW1.out.below b2 HW1.out.lt
               have r1 : w2.cell? ⟨w.heap.size, 1, none⟩ = some (.int .i64 s) := z0.cell 1
               have t1 : w2.cell? ⟨w.heap.size + 1, 1, none⟩ = some (.int .i64 s) := z1.cell 1
               have B2 := Lib.hid (HB.out.trans (b2.mono HB.out.size))
               clear z0 z1 b2)
  go_ret
  exact ⟨rfl, B2.out⟩
end Go.Proofs.YtkmngbkghgelfaaGreat
