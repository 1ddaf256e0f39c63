/- An argument that is a graph, a setup and a place, by value. -/
import Derived.Test.YtfokejlancmahaaGreatAg
namespace Go.Proofs.YtfokejlancmahaaGreat
open Go.ChangeShapes Go.WideShapes Go.ChangeAt Go.RowKit Go.Joins Go.Deep
set_option linter.unusedVariables false
theorem opened_of {H : Type} {enc : TypeId × Value → H} {P : Program} {W : World} {r : Reach} {b0 : Nat} {tO t0 tT t e s8 i8 si ti tS : TypeId} {a0 a1 a2 g0 g1 f0 f1 f2 k0 k1 k2 k3 k4 : Field} {v : Value} {d : DataW H} {p : List MemPlace} {ts : List TypeId} {ds : List (DataW H)} {j : Nat}
    (hO : P.underlying tO = some (.struct #[a0, a1, a2])) (hCO : P.cellsOf tO = 8) (o0 : a0.offset = 0) (o1 : a1.offset = 2) (o2 : a2.offset = 7) (et0 : a0.type = t0) (et1 : a1.type = tT) (et2 : a2.type = tS)
    (hT : P.underlying tT = some (.struct #[k0, k1, k2, k3, k4])) (honeT : oneCellFields P #[k0, k1, k2, k3, k4] = true) (hCT : P.cellsOf tT = 5) (ek0 : k0.type = tS) (ek1 : k1.type = tS) (ek2 : k2.type = tS) (ek3 : k3.type = tS) (ek4 : k4.type = tS) (hCS : P.cellsOf tS = 1)
    (hs : P.underlying t0 = some (.struct #[g0, g1])) (hone0 : oneCellFields P #[g0, g1] = true) (hC0 : P.cellsOf t0 = 2) (eg0 : g0.type = t) (eg1 : g1.type = tS) (hS : P.underlying tS = some (.int .i64))
    (ht : P.underlying t = some (.slice e)) (he : P.underlying e = some (.struct #[f0, f1, f2])) (hone : oneCellFields P #[f0, f1, f2] = true) (hC : P.cellsOf e = 3) (hb : P.bytesOf e = 56)
    (h0 : P.underlying f0.type = some (.int .u64)) (e1 : f1.type = s8) (e2 : f2.type = si) (h1 : P.underlying s8 = some (.slice i8)) (h2 : P.underlying si = some (.slice ti)) (hi8 : P.underlying i8 = some (.int .i8)) (hti : P.underlying ti = some (.int .i64)) (hc8 : P.cellsOf i8 = 1) (hci : P.cellsOf ti = 1) (hb8 : P.bytesOf i8 = 1) (hbi : P.bytesOf ti = 8)
    (hsz : (DataW.weightsEach P ts ds).all (· ≤ reachBytes) = true) (htj : ts[j]? = some tO) (hdj : ds[j]? = some d)
    (hv : Value.okWide P W r b0 tO v) (h : DataW.Trod enc P W 0 (fun _ => true) true tO v d p) :
    ∃ (V : Option Addr) (c : Nat) (L : List Gn) (S x0 x1 x2 x3 x4 at_ : Int), v = .agg #[.slice V L.length c, .int .i64 S, .int .i64 x0, .int .i64 x1, .int .i64 x2, .int .i64 x3, .int .i64 x4, .int .i64 at_] ∧ (Lit.int .i64 S).wf = true ∧ ((Lit.int .i64 x0).wf = true ∧ (Lit.int .i64 x1).wf = true ∧ (Lit.int .i64 x2).wf = true ∧ (Lit.int .i64 x3).wf = true ∧ (Lit.int .i64 x4).wf = true) ∧ (Lit.int .i64 at_).wf = true ∧ GrOk W V c L := by
  obtain ⟨cs, rfl, hsz0⟩ := okWide_struct hO hv
  obtain ⟨c0, c1, c2, c3, c4, c5, c6, c7, rfl⟩ : ∃ c0 c1 c2 c3 c4 c5 c6 c7, cs = #[c0, c1, c2, c3, c4, c5, c6, c7] := by
    obtain ⟨l⟩ := cs
    have hl : l.length = 8 := by simpa using hsz0.trans hCO
    match l, hl with
    | [a, b, c, d, e, f, g, h], _ => exact ⟨a, b, c, d, e, f, g, h, rfl⟩
  obtain ⟨fuel, hf⟩ := h
  obtain ⟨xs, n, _, hx, hl, hlen, hf⟩ := DataW.trod_struct hO hf
  match xs, hlen with
  | [y0, y1, y2], _ =>
    have u0 : DataW.trod enc P W 0 (fun _ => true) true n t0 [c0, c1] = some y0 := by rw [← et0]; simpa [Value.cells, o0, et0, hC0] using hf 0 a0 rfl
    have u1 : DataW.trod enc P W 0 (fun _ => true) true n tT [c2, c3, c4, c5, c6] = some y1 := by rw [← et1]; simpa [Value.cells, o1, et1, hCT] using hf 1 a1 rfl
    have u2 : DataW.trod enc P W 0 (fun _ => true) true n tS [c7] = some y2 := by rw [← et2]; simpa [Value.cells, o2, et2, hCS] using hf 2 a2 rfl
    simp only [Prod.mk.injEq] at hx
    obtain ⟨hd, -⟩ := hx
    -- the place
    obtain ⟨at_, q2, _, w2⟩ := DataW.trod_int hS u2
    -- the setup
    obtain ⟨xt, n2, _, hxt, hlt, hlent, hft⟩ := DataW.trod_struct hT u1
    obtain ⟨p0, l0⟩ := hone_of honeT 0 k0 rfl
    obtain ⟨p1, l1⟩ := hone_of honeT 1 k1 rfl
    obtain ⟨p2, l2⟩ := hone_of honeT 2 k2 rfl
    obtain ⟨p3, l3⟩ := hone_of honeT 3 k3 rfl
    obtain ⟨p4, l4⟩ := hone_of honeT 4 k4 rfl
    match xt, hlent with
    | [z0, z1, z2, z3, z4], _ =>
      have v0 : DataW.trod enc P W 0 (fun _ => true) true n2 tS [c2] = some z0 := by rw [← ek0]; simpa [p0, l0] using hft 0 k0 rfl
      have v1 : DataW.trod enc P W 0 (fun _ => true) true n2 tS [c3] = some z1 := by rw [← ek1]; simpa [p1, l1] using hft 1 k1 rfl
      have v2 : DataW.trod enc P W 0 (fun _ => true) true n2 tS [c4] = some z2 := by rw [← ek2]; simpa [p2, l2] using hft 2 k2 rfl
      have v3 : DataW.trod enc P W 0 (fun _ => true) true n2 tS [c5] = some z3 := by rw [← ek3]; simpa [p3, l3] using hft 3 k3 rfl
      have v4 : DataW.trod enc P W 0 (fun _ => true) true n2 tS [c6] = some z4 := by rw [← ek4]; simpa [p4, l4] using hft 4 k4 rfl
      obtain ⟨x0, r0, _, w30⟩ := DataW.trod_int hS v0
      obtain ⟨x1, r1, _, w31⟩ := DataW.trod_int hS v1
      obtain ⟨x2, r2, _, w32⟩ := DataW.trod_int hS v2
      obtain ⟨x3, r3, _, w33⟩ := DataW.trod_int hS v3
      obtain ⟨x4, r4, _, w34⟩ := DataW.trod_int hS v4
      -- the graph
      obtain ⟨xg, n3, _, hxg, hlg, hleng, hfg⟩ := DataW.trod_struct hs u0
      obtain ⟨s0, m0⟩ := hone_of hone0 0 g0 rfl
      obtain ⟨s1, m1⟩ := hone_of hone0 1 g1 rfl
      match xg, hleng with
      | [ya, yb], _ =>
        have a0' : DataW.trod enc P W 0 (fun _ => true) true n3 t [c0] = some ya := by rw [← eg0]; simpa [s0, m0] using hfg 0 g0 rfl
        have a1' : DataW.trod enc P W 0 (fun _ => true) true n3 tS [c1] = some yb := by rw [← eg1]; simpa [s1, m1] using hfg 1 g1 rfl
        obtain ⟨S, q1, _, wS⟩ := DataW.trod_int hS a1'
        obtain ⟨V, nn, c, q0⟩ := slice_form ht a0'
        simp only [List.cons.injEq, and_true] at q0 q1 q2 r0 r1 r2 r3 r4
        subst q0 q1 q2 r0 r1 r2 r3 r4
        obtain ⟨dd, pp⟩ := ya
        obtain ⟨L, rfl, b1, b2, b3, b4, b5⟩ := opened_nodes_in ht he hone hC hb h0 e1 e2 h1 h2 hi8 hti hc8 hci hb8 hbi (fun u hu => by
          have hd0 : y0.1 = .agg [dd, yb.1] := by rw [hxg]; rfl
          have := List.all_eq_true.1 hsz _ (DataW.weights_mem_each htj hdj u (by
            subst hd
            have hy : u ∈ y0.1.weights P t0 := by
              rw [hd0]
              simp only [DataW.weights, hs]
              simpa [DataW.weightsEach, eg0] using Or.inl hu
            simp only [DataW.weights, hO]
            simpa [DataW.weightsEach, et0] using Or.inl hy))
          simpa using this) a0'
        exact ⟨V, c, L, S, x0, x1, x2, x3, x4, at_, rfl, wS, ⟨w30, w31, w32, w33, w34⟩, w2, b3, b4, b1, b2, b5⟩
end Go.Proofs.YtfokejlancmahaaGreat
