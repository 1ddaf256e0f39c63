/- How an argument that is a graph, or a setup of five ints, is opened. Over any program. -/
import Derived.Test.YtkmngbkghgelfaaGreatLb
import Derived.Test.YtkmngbkghgelfaaGreatAv
import Derived.Lib.SmallJoins
namespace Go.Proofs.YtkmngbkghgelfaaGreat
open Go.ChangeShapes Go.WideShapes Go.ChangeAt Go.RowKit Go.Joins Go.Deep
set_option linter.unusedVariables false
/-- What is known of one list of numbers in an argument. -/
def KvOk (k : IntKind) (W : World) (v : Vc) : Prop := Rd k W W.heap.size v.1 v.2.2 ∧ (∀ n ∈ v.2.2, (Lit.int k n).wf = true) ∧ v.2.2.length ≤ v.2.1 ∧ v.2.1 ≤ 140737488351232 ∧ (v.1 = none → v.2.1 = 0)
theorem opened_ints_in {H : Type} {enc : TypeId × Value → H} {P : Program} {W : World} {e f : TypeId} {k : IntKind} {x : Value} {B fuel : Nat} {y : DataW H × List MemPlace} (hB : 1 ≤ B)
    (he : P.underlying e = some (.slice f)) (hf : P.underlying f = some (.int k)) (hc2 : P.cellsOf f = 1) (hb2 : P.bytesOf f = B)
    (hsz : ∀ n ∈ y.1.weights P e, n ≤ reachBytes) (htr : DataW.trod enc P W 0 (fun _ => true) true fuel e [x] = some y) :
    ∃ v : Vc, x = .slice v.1 v.2.2.length v.2.1 ∧ KvOk k W v := by
  rcases open_ints he hf hc2 htr with ⟨hcs2, hx2⟩ | ⟨y', l2, c2, zs, hcs2, _, hl2, hm2, hz2, hx2, hcell2, hwz⟩
  · simp only [List.cons.injEq, and_true] at hcs2
    subst hcs2
    exact ⟨vNil, rfl, fun h => by simp [vNil] at h, fun n hn => by simp [vNil] at hn, Nat.le_refl _, by simp [vNil], fun _ => rfl⟩
  · simp only [List.cons.injEq, and_true] at hcs2
    subst hcs2
    simp only [if_true] at hz2
    subst hx2
    have hwi : (l2 + (c2 - l2)) * B ≤ reachBytes := hsz _ (by
      simp only [DataW.weights, he, hb2, lits, List.length_map, List.length_take, List.length_drop, List.mem_cons]
      left
      rw [show min l2 zs.length = l2 by omega, show zs.length - l2 = c2 - l2 by omega])
    simp only [reachBytes] at hwi
    have hwj : l2 + (c2 - l2) ≤ 140737488351232 := Nat.le_trans (Nat.le_mul_of_pos_right _ hB) hwi
    refine ⟨(some y', c2, zs.take l2), ?_, fun hpos => ?_, fun n hn => hwz n (List.mem_of_mem_take hn), ?_, ?_, fun h => by cases h⟩
    · simp only [List.length_take]; rw [show min l2 zs.length = l2 by omega]
    · have hpos' : 0 < (zs.take l2).length := hpos
      rw [List.length_take] at hpos'
      obtain ⟨b, off, spot⟩ := y'
      have hcc := hcell2 0 (by omega)
      have hspot : spot = none := by simpa [Addr.add] using World.cell?_spot hcc
      subst hspot
      refine ⟨b, off, rfl, ?_, fun i hi => ?_⟩
      · have hc1 : W.cell? ⟨b, off, none⟩ = some (.int k (zs.getD 0 0)) := by simpa [Addr.add] using hcc
        rcases Nat.lt_or_ge b W.heap.size with h | h
        · exact h
        · simp [World.cell?, Array.getElem?_eq_none h] at hc1
      · have hi' : i < (zs.take l2).length := hi
        rw [List.length_take] at hi'
        have := hcell2 i (by omega)
        have ea : (⟨b, off, none⟩ : Addr).add i = ⟨b, off + i, none⟩ := by unfold Addr.add; split <;> simp_all
        rw [ea] at this
        rw [this]
        show _ = some (Value.int k ((zs.take l2)[i]?.getD 0))
        rw [List.getElem?_take, if_pos (by omega)]
        simp [List.getD]
    · show (zs.take l2).length ≤ c2
      rw [List.length_take]; omega
    · show c2 ≤ _
      omega
/-- What is known of one node of an argument. -/
def NdOk (W : World) (x : Gn) : Prop := (Lit.int .u64 x.1).wf = true ∧ KvOk .i8 W x.2.1 ∧ KvOk .i64 W x.2.2
theorem opened_nodes_in {H : Type} {enc : TypeId × Value → H} {P : Program} {W : World} {t e s8 i8 si : TypeId} {ti : TypeId} {f0 f1 f2 : Field} {a : Option Addr} {len cap fuel : Nat} {d : DataW H} {p : List MemPlace}
    (ht : P.underlying t = some (.slice e)) (he : P.underlying e = some (.struct #[f0, f1, f2])) (hone : oneCellFields P #[f0, f1, f2] = true) (hC : P.cellsOf e = 3) (hb : P.bytesOf e = 56)
    (h0 : P.underlying f0.type = some (.int .u64)) (e1 : f1.type = s8) (e2 : f2.type = si) (h1 : P.underlying s8 = some (.slice i8)) (h2 : P.underlying si = some (.slice ti)) (hi8 : P.underlying i8 = some (.int .i8)) (hti : P.underlying ti = some (.int .i64)) (hc8 : P.cellsOf i8 = 1) (hci : P.cellsOf ti = 1) (hb8 : P.bytesOf i8 = 1) (hbi : P.bytesOf ti = 8)
    (hsz : ∀ n ∈ d.weights P t, n ≤ reachBytes)
    (hfu : DataW.trod enc P W 0 (fun _ => true) true fuel t [.slice a len cap] = some (d, p)) :
    ∃ L : List Gn, len = L.length ∧ L.length ≤ cap ∧ cap * 56 ≤ 140737488351232 ∧ RdG W W.heap.size a L ∧ (∀ x ∈ L, NdOk W x) ∧ (a = none → cap = 0) := by
  rcases open_slice ht hfu with ⟨hcs, hx⟩ | ⟨ad, l, c, m, n, D, Pl, hcs, _, hl, hm, hmm, hx, hi⟩
  · simp at hcs
    obtain ⟨rfl, rfl, rfl⟩ := hcs
    exact ⟨[], rfl, Nat.le_refl _, by simp, fun h => by simp at h, fun v hv => by simp at hv, fun _ => rfl⟩
  · simp at hcs
    obtain ⟨rfl, rfl, rfl⟩ := hcs
    simp only [if_true] at hmm
    subst hmm
    simp only [Prod.mk.injEq] at hx
    obtain ⟨rfl, -⟩ := hx
    have hw := hsz _ (by simp only [DataW.weights, ht, List.mem_cons]; exact .inl rfl)
    rw [hb] at hw
    simp only [List.length_map, List.length_range, reachBytes] at hw
    have key : ∀ i, i < len → ∃ x : Gn, W.cell? (ad.add (i * 3)) = some (.int .u64 x.1) ∧ W.cell? (ad.add (i * 3 + 1)) = some (.slice x.2.1.1 x.2.1.2.2.length x.2.1.2.1) ∧ W.cell? (ad.add (i * 3 + 2)) = some (.slice x.2.2.1 x.2.2.2.2.length x.2.2.2.1) ∧ NdOk W x := fun i hil => by
      obtain ⟨cs', hcell, htr⟩ := hi i (by omega)
      rw [hC] at hcell
      obtain ⟨_, hlen, hat⟩ := World.cells?_some hcell
      obtain ⟨u, v, z, rfl⟩ : ∃ u v z, cs' = [u, v, z] := by
        match cs', hlen with
        | [u, v, z], _ => exact ⟨u, v, z, rfl⟩
      have hc0 : W.cell? (ad.add (i * 3)) = some u := by
        have := hat 0 (by omega)
        rw [Go.Deep.add_add] at this
        simpa using this
      have hc1 : W.cell? (ad.add (i * 3 + 1)) = some v := by
        have := hat 1 (by omega)
        rw [Go.Deep.add_add] at this
        simpa using this
      have hc2 : W.cell? (ad.add (i * 3 + 2)) = some z := by
        have := hat 2 (by omega)
        rw [Go.Deep.add_add] at this
        simpa using this
      have hmem : D i ∈ (List.range len).map D := List.mem_map.2 ⟨i, List.mem_range.2 hil, rfl⟩
      have hsi : ∀ q ∈ (D i).weights P e, q ≤ reachBytes := fun q hq => hsz q (by
        simp only [DataW.weights, ht, List.mem_cons, List.mem_append]
        exact .inr (.inl (weights_mem_all hq hmem)))
      obtain ⟨y0, y1, y2, n', hxx, _, g0, g1, g2⟩ := trod_struct3 he htr
      obtain ⟨o0, k0⟩ := hone_of hone 0 f0 rfl
      obtain ⟨o1, k1⟩ := hone_of hone 1 f1 rfl
      obtain ⟨o2, k2⟩ := hone_of hone 2 f2 rfl
      simp only [Prod.mk.injEq] at hxx
      have hD := hxx.1
      have g0' : DataW.trod enc P W 0 (fun _ => true) true n' f0.type [u] = some y0 := by simpa [o0, k0] using g0
      have g1' : DataW.trod enc P W 0 (fun _ => true) true n' s8 [v] = some y1 := by rw [← e1]; simpa [o1, k1] using g1
      have g2' : DataW.trod enc P W 0 (fun _ => true) true n' si [z] = some y2 := by rw [← e2]; simpa [o2, k2] using g2
      obtain ⟨a0, q0, _, w0⟩ := DataW.trod_int h0 g0'
      simp only [List.cons.injEq, and_true] at q0
      subst q0
      obtain ⟨v1, rfl, x1⟩ := opened_ints_in (by omega) h1 hi8 hc8 hb8 (fun q hq => hsi q (by
        rw [hD]
        simp only [DataW.weights, he]
        simpa [DataW.weightsEach, e1, e2] using Or.inr (Or.inl hq))) g1'
      obtain ⟨v2, rfl, x2⟩ := opened_ints_in (by omega) h2 hti hci hbi (fun q hq => hsi q (by
        rw [hD]
        simp only [DataW.weights, he]
        simpa [DataW.weightsEach, e1, e2] using Or.inr (Or.inr hq))) g2'
      exact ⟨(a0, v1, v2), hc0, hc1, hc2, w0, x1, x2⟩
    obtain ⟨F, hF⟩ : ∃ F : Nat → Gn, ∀ i, i < len → W.cell? (ad.add (i * 3)) = some (.int .u64 (F i).1) ∧ W.cell? (ad.add (i * 3 + 1)) = some (.slice (F i).2.1.1 (F i).2.1.2.2.length (F i).2.1.2.1) ∧ W.cell? (ad.add (i * 3 + 2)) = some (.slice (F i).2.2.1 (F i).2.2.2.2.length (F i).2.2.2.1) ∧ NdOk W (F i) := by
      refine ⟨fun i => if h : i < len then Classical.choose (key i h) else gNil, fun i h => ?_⟩
      simp only [dif_pos h]
      exact Classical.choose_spec (key i h)
    refine ⟨(List.range len).map F, by simp, by simpa using hl, by omega, fun hpos => ?_, fun v hv => ?_, fun h => by cases h⟩
    · simp only [List.length_map, List.length_range] at hpos
      obtain ⟨b, off, spot⟩ := ad
      have hcc := (hF 0 hpos).1
      have hspot : spot = none := by simpa [Addr.add] using World.cell?_spot hcc
      subst hspot
      refine ⟨b, off, rfl, ?_, fun i hi => ?_⟩
      · rcases Nat.lt_or_ge b W.heap.size with h | h
        · exact h
        · simp [World.cell?, Addr.add, Array.getElem?_eq_none h] at hcc
      · simp only [List.length_map, List.length_range] at hi
        have ea : ∀ i, (⟨b, off, none⟩ : Addr).add i = ⟨b, off + i, none⟩ := fun i => by unfold Addr.add; split <;> simp_all
        have h1 := hF i hi
        rw [ea, ea, ea] at h1
        simp only [List.getElem?_map, List.getElem?_range hi, Option.map_some, Option.getD_some]
        refine ⟨h1.1, ?_, ?_, h1.2.2.2.2.1.1, h1.2.2.2.2.2.1⟩
        · rw [Nat.add_assoc]; exact h1.2.1
        · rw [Nat.add_assoc]; exact h1.2.2.1
    · simp only [List.mem_map, List.mem_range] at hv
      obtain ⟨i, hi, rfl⟩ := hv
      exact (hF i hi).2.2.2
/-- A graph's nodes as an argument, opened. -/
def GrOk (W : World) (a : Option Addr) (c : Nat) (L : List Gn) : Prop := RdG W W.heap.size a L ∧ (∀ x ∈ L, NdOk W x) ∧ L.length ≤ c ∧ c * 56 ≤ 140737488351232 ∧ (a = none → c = 0)
theorem opened_graph {H : Type} {enc : TypeId × Value → H} {P : Program} {W : World} {r : Reach} {b0 : Nat} {t0 t e s8 i8 si ti tS : TypeId} {g0 g1 f0 f1 f2 : Field} {v : Value} {d : DataW H} {p : List MemPlace} {ts : List TypeId} {ds : List (DataW H)} {j : Nat}
    (hs : P.underlying t0 = some (.struct #[g0, g1])) (hone0 : oneCellFields P #[g0, g1] = true) (hC0 : P.cellsOf t0 = 2) (eg0 : g0.type = t) (eg1 : g1.type = tS) (hS : P.underlying tS = some (.int .i64))
    (ht : P.underlying t = some (.slice e)) (he : P.underlying e = some (.struct #[f0, f1, f2])) (hone : oneCellFields P #[f0, f1, f2] = true) (hC : P.cellsOf e = 3) (hb : P.bytesOf e = 56)
    (h0 : P.underlying f0.type = some (.int .u64)) (e1 : f1.type = s8) (e2 : f2.type = si) (h1 : P.underlying s8 = some (.slice i8)) (h2 : P.underlying si = some (.slice ti)) (hi8 : P.underlying i8 = some (.int .i8)) (hti : P.underlying ti = some (.int .i64)) (hc8 : P.cellsOf i8 = 1) (hci : P.cellsOf ti = 1) (hb8 : P.bytesOf i8 = 1) (hbi : P.bytesOf ti = 8)
    (hsz : (DataW.weightsEach P ts ds).all (· ≤ reachBytes) = true) (htj : ts[j]? = some t0) (hdj : ds[j]? = some d)
    (hv : Value.okWide P W r b0 t0 v) (h : DataW.Trod enc P W 0 (fun _ => true) true t0 v d p) :
    ∃ (V : Option Addr) (c : Nat) (L : List Gn) (S : Int), v = .agg #[.slice V L.length c, .int .i64 S] ∧ (Lit.int .i64 S).wf = true ∧ GrOk W V c L := by
  obtain ⟨c0, c1, y0, y1, m, rfl, hd, rfl, hy0, hy1⟩ := open_agg2 hs hone0 hC0 hv h
  rw [eg0] at hy0
  rw [eg1] at hy1
  obtain ⟨id, q0, _, wa⟩ := DataW.trod_int hS hy1
  simp only [List.cons.injEq, and_true] at q0
  subst q0
  obtain ⟨V, n, c, q1⟩ := slice_form ht hy0
  simp only [List.cons.injEq, and_true] at q1
  subst q1
  obtain ⟨d1, p1⟩ := y0
  obtain ⟨L, rfl, x1, x2, x3, x4, x5⟩ := opened_nodes_in ht he hone hC hb h0 e1 e2 h1 h2 hi8 hti hc8 hci hb8 hbi (fun u hu => by
    have := List.all_eq_true.1 hsz _ (DataW.weights_mem_each htj hdj u (by
      subst hd
      simp only [DataW.weights, hs]
      simpa [DataW.weightsEach, eg0] using Or.inl hu))
    simpa using this) hy0
  exact ⟨V, c, L, id, rfl, wa, x3, x4, x1, x2, x5⟩
theorem GrOk.given {W : World} {a : Option Addr} {c : Nat} {L : List Gn} (h : GrOk W a c L) : GGiven W a L := by
  obtain ⟨h1, h2, h3, h4, h5⟩ := h
  refine ⟨h1, by omega, fun x hx => ?_, fun x hx => ?_, fun x hx => ?_⟩
  · obtain ⟨y, hy, rfl⟩ := List.mem_map.1 hx
    obtain ⟨q1, q2, q3⟩ := h2 y hy
    exact ⟨by have := q2.2.2; show y.2.1.2.2.length ≤ _; omega, by have := q3.2.2; show y.2.2.2.2.length ≤ _; omega⟩
  · obtain ⟨y, hy, rfl⟩ := List.mem_map.1 hx
    obtain ⟨q1, q2, q3⟩ := h2 y hy
    exact ⟨⟨(u64_of_wf q1).1, by have := (u64_of_wf q1).2; show y.1 < _; omega⟩, fun n hn => i8_of_wf' (q2.2.1 n hn), fun n hn => i64_of_wf (q3.2.1 n hn)⟩
  · obtain ⟨q1, q2, q3⟩ := h2 x hx
    exact ⟨⟨q2.2.2.1, by have := q2.2.2.2.1; omega⟩, q3.2.2.1, by have := q3.2.2.2.1; omega⟩
theorem GrOk.nil8 {W : World} {a : Option Addr} {c : Nat} {L : List Gn} (h : GrOk W a c L) : ∀ x ∈ L, x.2.1.1 = none → x.2.1.2.1 = 0 := fun x hx => (h.2.1 x hx).2.1.2.2.2.2
theorem GrOk.nil64 {W : World} {a : Option Addr} {c : Nat} {L : List Gn} (h : GrOk W a c L) : ∀ x ∈ L, x.2.2.1 = none → x.2.2.2.1 = 0 := fun x hx => (h.2.1 x hx).2.2.2.2.2.2
theorem opened_ints5 {H : Type} {enc : TypeId × Value → H} {P : Program} {W : World} {r : Reach} {b0 : Nat} {t t0 : TypeId} {f0 f1 f2 f3 f4 : Field} {v : Value} {d : DataW H} {p : List MemPlace}
    (hs : P.underlying t = some (.struct #[f0, f1, f2, f3, f4])) (hone : oneCellFields P #[f0, f1, f2, f3, f4] = true) (hC : P.cellsOf t = 5) (e0 : f0.type = t0) (e1 : f1.type = t0) (e2 : f2.type = t0) (e3 : f3.type = t0) (e4 : f4.type = t0) (h0 : P.underlying t0 = some (.int .i64))
    (hv : Value.okWide P W r b0 t v) (h : DataW.Trod enc P W 0 (fun _ => true) true t v d p) :
    ∃ a b c e g : Int, v = .agg #[.int .i64 a, .int .i64 b, .int .i64 c, .int .i64 e, .int .i64 g] ∧ (Lit.int .i64 a).wf = true ∧ (Lit.int .i64 b).wf = true ∧ (Lit.int .i64 c).wf = true ∧ (Lit.int .i64 e).wf = true ∧ (Lit.int .i64 g).wf = true := by
  obtain ⟨cs, rfl, hsz⟩ := okWide_struct hs hv
  obtain ⟨c0, c1, c2, c3, c4, rfl⟩ : ∃ c0 c1 c2 c3 c4, cs = #[c0, c1, c2, c3, c4] := by
    obtain ⟨l⟩ := cs
    have hl : l.length = 5 := by simpa using hsz.trans hC
    match l, hl with
    | [a, b, c, d, e], _ => exact ⟨a, b, c, d, e, rfl⟩
  obtain ⟨fuel, hf⟩ := h
  obtain ⟨xs, n, _, hx, hl, hlen, hf⟩ := DataW.trod_struct hs hf
  obtain ⟨o0, k0⟩ := hone_of hone 0 f0 rfl
  obtain ⟨o1, k1⟩ := hone_of hone 1 f1 rfl
  obtain ⟨o2, k2⟩ := hone_of hone 2 f2 rfl
  obtain ⟨o3, k3⟩ := hone_of hone 3 f3 rfl
  obtain ⟨o4, k4⟩ := hone_of hone 4 f4 rfl
  match xs, hlen with
  | [y0, y1, y2, y3, y4], _ =>
    have g0 : DataW.trod enc P W 0 (fun _ => true) true n t0 [c0] = some y0 := by rw [← e0]; simpa [Value.cells, o0, k0] using hf 0 f0 rfl
    have g1 : DataW.trod enc P W 0 (fun _ => true) true n t0 [c1] = some y1 := by rw [← e1]; simpa [Value.cells, o1, k1] using hf 1 f1 rfl
    have g2 : DataW.trod enc P W 0 (fun _ => true) true n t0 [c2] = some y2 := by rw [← e2]; simpa [Value.cells, o2, k2] using hf 2 f2 rfl
    have g3 : DataW.trod enc P W 0 (fun _ => true) true n t0 [c3] = some y3 := by rw [← e3]; simpa [Value.cells, o3, k3] using hf 3 f3 rfl
    have g4 : DataW.trod enc P W 0 (fun _ => true) true n t0 [c4] = some y4 := by rw [← e4]; simpa [Value.cells, o4, k4] using hf 4 f4 rfl
    obtain ⟨a, q0, _, w0⟩ := DataW.trod_int h0 g0
    obtain ⟨b, q1, _, w1⟩ := DataW.trod_int h0 g1
    obtain ⟨c, q2, _, w2⟩ := DataW.trod_int h0 g2
    obtain ⟨e, q3, _, w3⟩ := DataW.trod_int h0 g3
    obtain ⟨g, q4, _, w4⟩ := DataW.trod_int h0 g4
    simp only [List.cons.injEq, and_true] at q0 q1 q2 q3 q4
    subst q0 q1 q2 q3 q4
    exact ⟨a, b, c, e, g, rfl, w0, w1, w2, w3, w4⟩
end Go.Proofs.YtkmngbkghgelfaaGreat
