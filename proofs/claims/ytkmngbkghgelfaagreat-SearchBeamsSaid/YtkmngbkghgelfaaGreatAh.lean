/- How an argument that is a slice of hits is opened. -/
import Derived.Test.YtkmngbkghgelfaaGreatVw
import Derived.Deep.Slices
import Derived.Deep.Fields
import Derived.ChangeSame
namespace Go.Proofs.YtkmngbkghgelfaaGreat
open Go.ChangeShapes Go.WideShapes Go.ChangeAt Go.RowKit Go.Deep
set_option linter.unusedVariables false
/-- A hit as a machine may hold it. -/
def HitOk (x : Int × Int) : Prop := (Lit.int .u64 x.1).wf = true ∧ (Lit.int .i64 x.2).wf = true
theorem opened_hits {H : Type} {enc : TypeId × Value → H} {P : Program} {W : World} {t e : TypeId} {f0 f1 : Field} {a : Option Addr} {len cap j : Nat} {d : DataW H} {p : List MemPlace} {ts : List TypeId} {ds : List (DataW H)}
    (ht : P.underlying t = some (.slice e)) (he : P.underlying e = some (.struct #[f0, f1])) (hone : oneCellFields P #[f0, f1] = true) (hC : P.cellsOf e = 2) (hb1 : P.bytesOf e = 16)
    (h0 : P.underlying f0.type = some (.int .u64)) (h1 : P.underlying f1.type = some (.int .i64))
    (hsz : (DataW.weightsEach P ts ds).all (· ≤ reachBytes) = true) (htj : ts[j]? = some t) (hdj : ds[j]? = some d)
    (h : DataW.Trod enc P W 0 (fun _ => true) true t (.slice a len cap) d p) :
    ∃ xs : List (Int × Int), len = xs.length ∧ xs.length ≤ cap ∧ cap * 16 ≤ 140737488351232 ∧ RdH W W.heap.size a xs ∧ (∀ x ∈ xs, HitOk x) ∧ (a = none → cap = 0) := by
  obtain ⟨fuel, hfu⟩ := h
  rcases open_slice ht hfu with ⟨hcs, hx⟩ | ⟨ad, l, c, m, n, D, Pl, hcs, _, hl, hm, hmm, hx, hi⟩
  · simp [Value.cells] at hcs
    obtain ⟨rfl, rfl, rfl⟩ := hcs
    exact ⟨[], rfl, Nat.le_refl _, by simp, fun h => by simp at h, fun v hv => by simp at hv, fun _ => rfl⟩
  · simp [Value.cells] at hcs
    obtain ⟨rfl, rfl, rfl⟩ := hcs
    simp only [if_true] at hmm
    subst hmm
    simp only [Prod.mk.injEq] at hx
    obtain ⟨rfl, -⟩ := hx
    have hw := sized_slice hsz htj hdj ht
    rw [hb1] at hw
    simp only [List.length_map, List.length_range, reachBytes] at hw
    have key : ∀ i, i < len → ∃ x : Int × Int, W.cell? (ad.add (i * 2)) = some (.int .u64 x.1) ∧ W.cell? (ad.add (i * 2 + 1)) = some (.int .i64 x.2) ∧ HitOk x := fun i hil => by
      obtain ⟨cs', hcell, htr⟩ := hi i (by omega)
      rw [hC] at hcell
      obtain ⟨_, hlen, hat⟩ := World.cells?_some hcell
      obtain ⟨u, v, rfl⟩ : ∃ u v, cs' = [u, v] := by
        match cs', hlen with
        | [u, v], _ => exact ⟨u, v, rfl⟩
      have hc0 : W.cell? (ad.add (i * 2)) = some u := by
        have := hat 0 (by omega)
        rw [Go.Deep.add_add] at this
        simpa using this
      have hc1 : W.cell? (ad.add (i * 2 + 1)) = some v := by
        have := hat 1 (by omega)
        rw [Go.Deep.add_add] at this
        simpa using this
      obtain ⟨ys, n', hn', hy, hlen', hyl, hf⟩ := DataW.trod_struct he htr
      obtain ⟨o0, k0⟩ := hone_of hone 0 f0 rfl
      obtain ⟨o1, k1⟩ := hone_of hone 1 f1 rfl
      have g0 := hf 0 f0 rfl
      have g1 := hf 1 f1 rfl
      rw [o0, k0] at g0
      rw [o1, k1] at g1
      match ys, hyl with
      | [y0, y1], _ =>
        have g0' : DataW.trod enc P W 0 (fun _ => true) true n' f0.type [u] = some y0 := by simpa using g0
        have g1' : DataW.trod enc P W 0 (fun _ => true) true n' f1.type [v] = some y1 := by simpa using g1
        obtain ⟨a0, q0, _, w0⟩ := DataW.trod_int h0 g0'
        obtain ⟨a1, q1, _, w1⟩ := DataW.trod_int h1 g1'
        simp only [List.cons.injEq, and_true] at q0 q1
        subst q0 q1
        exact ⟨(a0, a1), hc0, hc1, w0, w1⟩
    obtain ⟨F, hF⟩ : ∃ F : Nat → Int × Int, ∀ i, i < len → W.cell? (ad.add (i * 2)) = some (.int .u64 (F i).1) ∧ W.cell? (ad.add (i * 2 + 1)) = some (.int .i64 (F i).2) ∧ HitOk (F i) := by
      refine ⟨fun i => if h : i < len then Classical.choose (key i h) else (0, 0), fun i h => ?_⟩
      simp only [dif_pos h]
      exact Classical.choose_spec (key i h)
    refine ⟨(List.range len).map F, by simp, by simpa using hl, by omega, fun hpos => ?_, fun v hv => ?_, fun h => by cases h⟩
    · simp only [List.length_map, List.length_range] at hpos
      obtain ⟨b, off, spot⟩ := ad
      have hcc := (hF 0 hpos).1
      have hspot : spot = none := by simpa [Addr.add] using World.cell?_spot hcc
      subst hspot
      refine ⟨b, off, rfl, ?_, fun t ht' => ?_⟩
      · rcases Nat.lt_or_ge b W.heap.size with h | h
        · exact h
        · simp [World.cell?, Addr.add, Array.getElem?_eq_none h] at hcc
      · simp only [List.length_map, List.length_range] at ht'
        have ea : ∀ i, (⟨b, off, none⟩ : Addr).add i = ⟨b, off + i, none⟩ := fun i => by unfold Addr.add; split <;> simp_all
        have h1 := hF (t / 2) (by omega)
        rw [ea, ea] at h1
        rw [flatH_get _ t (by simpa using ht')]
        simp only [List.getElem?_map, List.getElem?_range (show t / 2 < len by omega), Option.map_some, Option.getD_some]
        rcases (show t % 2 = 0 ∨ t % 2 = 1 by omega) with h2 | h2
        · rw [h2, show t = t / 2 * 2 by omega, show t / 2 * 2 / 2 = t / 2 by omega]; exact h1.1
        · rw [h2]
          have e : off + t = off + (t / 2 * 2 + 1) := by omega
          rw [e]; exact h1.2.1
    · simp only [List.mem_map, List.mem_range] at hv
      obtain ⟨i, hi, rfl⟩ := hv
      exact (hF i hi).2.2
end Go.Proofs.YtkmngbkghgelfaaGreat
