/- How an argument that is an item (a number, and a slice of small numbers) by value is opened. Over any program. -/
import Derived.Test.YtlkkmeeijjaeiaaF
import Derived.Lib.SmallJoins
namespace Go.Proofs.Ytlkkmeeijjaeiaa
open Go.ChangeShapes Go.WideShapes Go.ChangeAt Go.RowKit Go.Joins Go.Deep
set_option linter.unusedVariables false
theorem opened_in {H : Type} {enc : TypeId × Value → H} {P : Program} {W : World} {t e : TypeId} {k : IntKind} {a : Option Addr} {len cap by' fuel : Nat} {d : DataW H} {p : List MemPlace}
    (ht : P.underlying t = some (.slice e)) (he : P.underlying e = some (.int k)) (hc : P.cellsOf e = 1)
    (hw : ∀ elems spare, d = .slice elems spare → (elems.length + spare.length) * by' ≤ 140737488351232)
    (hf : DataW.trod enc P W 0 (fun _ => true) true fuel t [.slice a len cap] = some (d, p)) :
    ∃ xs : List Int, len = xs.length ∧ xs.length ≤ cap ∧ cap * by' ≤ 140737488351232 ∧ Rd k W W.heap.size a xs ∧ (∀ n ∈ xs, (Lit.int k n).wf = true) ∧ (a = none → cap = 0) := by
  rcases open_ints ht he hc hf with ⟨hcs, hx⟩ | ⟨x, l, c, zs, hcs, _, hl, hm, hz, hx, hcell, hwz⟩
  · simp at hcs
    obtain ⟨rfl, rfl, rfl⟩ := hcs
    exact ⟨[], rfl, Nat.le_refl _, by simp, fun h => by simp at h, fun n hn => by simp at hn, fun _ => rfl⟩
  · simp at hcs
    obtain ⟨rfl, rfl, rfl⟩ := hcs
    simp only [if_true] at hz
    simp only [Prod.mk.injEq] at hx
    obtain ⟨hx, -⟩ := hx
    have hw := hw _ _ hx
    simp only [lits, List.length_map, List.length_take, List.length_drop] at hw
    have hcap : min len zs.length + (zs.length - len) = cap := by omega
    rw [hcap] at hw
    refine ⟨zs.take len, by rw [List.length_take]; omega, by rw [List.length_take]; omega, hw, fun hpos => ?_, fun n hn => hwz n (List.mem_of_mem_take hn), fun h => by cases h⟩
    rw [List.length_take] at hpos
    obtain ⟨b, off, spot⟩ := x
    have hc0 := hcell 0 (by omega)
    have hspot : spot = none := by simpa [Addr.add] using World.cell?_spot hc0
    subst hspot
    refine ⟨b, off, rfl, ?_, fun i hi => ?_⟩
    · have hc1 : W.cell? ⟨b, off, none⟩ = some (.int k (zs.getD 0 0)) := by simpa [Addr.add] using hc0
      rcases Nat.lt_or_ge b W.heap.size with h | h
      · exact h
      · simp [World.cell?, Array.getElem?_eq_none h] at hc1
    · rw [List.length_take] at hi
      have := hcell i (by omega)
      have ea : (⟨b, off, none⟩ : Addr).add i = ⟨b, off + i, none⟩ := by unfold Addr.add; split <;> simp_all
      rw [ea] at this
      rw [this, List.getElem?_take, if_pos (by omega)]
      simp [List.getD]
theorem opened_item {H : Type} {enc : TypeId × Value → H} {P : Program} {W : World} {r : Reach} {b0 : Nat} {t t0 t1 e : TypeId} {f0 f1 : Field} {v : Value} {d : DataW H} {p : List MemPlace} {ts : List TypeId} {ds : List (DataW H)} {j : Nat}
    (hs : P.underlying t = some (.struct #[f0, f1])) (hone : oneCellFields P #[f0, f1] = true) (hC : P.cellsOf t = 2) (e0 : f0.type = t0) (e1 : f1.type = t1)
    (h0 : P.underlying t0 = some (.int .u64)) (ht : P.underlying t1 = some (.slice e)) (he : P.underlying e = some (.int .i8)) (hc : P.cellsOf e = 1) (hby : P.bytesOf e = 1)
    (hsz : (DataW.weightsEach P ts ds).all (· ≤ reachBytes) = true) (htj : ts[j]? = some t) (hdj : ds[j]? = some d)
    (hv : Value.okWide P W r b0 t v) (h : DataW.Trod enc P W 0 (fun _ => true) true t v d p) :
    ∃ (id : Int) (V : Option Addr) (c : Nat) (vs : List Int), v = .agg #[.int .u64 id, .slice V vs.length c] ∧ (Lit.int .u64 id).wf = true ∧ vs.length ≤ c ∧ c ≤ 140737488351232 ∧ Rd .i8 W W.heap.size V vs ∧ (∀ n ∈ vs, (Lit.int .i8 n).wf = true) ∧ (V = none → c = 0) := by
  obtain ⟨c0, c1, y0, y1, m, rfl, hd, rfl, hy0, hy1⟩ := open_agg2 hs hone hC hv h
  rw [e0] at hy0
  rw [e1] at hy1
  obtain ⟨id, q0, rfl, wa⟩ := DataW.trod_int h0 hy0
  simp only [List.cons.injEq, and_true] at q0
  subst q0
  obtain ⟨V, n, c, q1⟩ := slice_form ht hy1
  simp only [List.cons.injEq, and_true] at q1
  subst q1
  obtain ⟨d1, p1⟩ := y1
  obtain ⟨vs, rfl, h1, h2, h3, h4, h5⟩ := opened_in (by' := 1) ht he hc (fun elems spare hd1 => by
    have hd1 : d1 = .slice elems spare := hd1
    subst hd1
    have := List.all_eq_true.1 hsz _ (DataW.weights_mem_each htj hdj ((elems.length + spare.length) * P.bytesOf e) (by
      subst hd
      simp [DataW.weights, DataW.weightsEach, hs, e1, ht]))
    simp only [decide_eq_true_eq, hby, reachBytes] at this
    omega) hy1
  exact ⟨id, V, c, vs, rfl, wa, h1, by omega, h3, h4, h5⟩
theorem i8_of_wf {xs : List Int} (h : ∀ n ∈ xs, (Lit.int .i8 n).wf = true) : ∀ n ∈ xs, -128 ≤ n ∧ n ≤ 127 := fun n hn => by
  have := h n hn
  have h1 : IntKind.i8.min = -128 := rfl
  have h2 : IntKind.i8.max = 127 := rfl
  simp only [Lit.wf, Bool.and_eq_true, decide_eq_true_eq] at this
  omega
end Go.Proofs.Ytlkkmeeijjaeiaa
