/- How an argument that is a slice of ops is opened. -/
import Derived.Test.YtgcclijdkcomiaaDoorA
import Derived.Deep.Slices
import Derived.Deep.Fields
import Derived.ChangeSame
namespace Go.Proofs.YtgcclijdkcomiaaDoor
open Go.ChangeShapes Go.WideShapes Go.ChangeAt Go.RowKit Go.Deep
set_option linter.unusedVariables false
/-- An op as a machine may hold it. -/
def OpOk (x : Int × Int) : Prop := (Lit.int .u8 x.1).wf = true ∧ (Lit.int .i64 x.2).wf = true
/-- A slice value at A reads, in w, as the ops xs; it lies below block B. -/
def RdO (w : World) (B : Nat) (A : Option Addr) (xs : List (Int × Int)) : Prop :=
  0 < xs.length → ∃ b off, A = some ⟨b, off, none⟩ ∧ b < B ∧ ∀ i, i < xs.length → w.cell? ⟨b, off + i * 2, none⟩ = some (.int .u8 (xs[i]?.getD (0, 0)).1) ∧ w.cell? ⟨b, off + i * 2 + 1, none⟩ = some (.int .i64 (xs[i]?.getD (0, 0)).2)
theorem RdO.below {w w' : World} {B : Nat} {A : Option Addr} {xs : List (Int × Int)} (h : RdO w B A xs) (hb : Below B w w') : RdO w' B A xs := fun hl => by
  obtain ⟨b, off, h1, h2, h3⟩ := h hl
  exact ⟨b, off, h1, h2, fun i hi => ⟨(hb.cell (p := ⟨b, _, none⟩) h2).trans (h3 i hi).1, (hb.cell (p := ⟨b, _, none⟩) h2).trans (h3 i hi).2⟩⟩
theorem RdO.at_ {w : World} {B : Nat} {A : Option Addr} {xs : List (Int × Int)} (h : RdO w B A xs) {i : Nat} (hi : i < xs.length) :
    ∃ b off x y, A = some ⟨b, off, none⟩ ∧ b < B ∧ w.cell? ⟨b, off + i * 2, none⟩ = some (.int .u8 x) ∧ w.cell? ⟨b, off + i * 2 + 1, none⟩ = some (.int .i64 y) ∧ xs[i]? = some (x, y) := by
  obtain ⟨b, off, h1, h2, h3⟩ := h (by omega)
  refine ⟨b, off, _, _, h1, h2, (h3 i hi).1, (h3 i hi).2, ?_⟩
  rw [List.getElem?_eq_getElem hi]; rfl
theorem opened_ops {H : Type} {enc : TypeId × Value → H} {P : Program} {W : World} {t e : TypeId} {f0 f1 : Field} {a : Option Addr} {len cap j : Nat} {d : DataW H} {p : List MemPlace} {ts : List TypeId} {ds : List (DataW H)}
    (ht : P.underlying t = some (.slice e)) (he : P.underlying e = some (.struct #[f0, f1])) (hone : oneCellFields P #[f0, f1] = true) (hC : P.cellsOf e = 2) (hb1 : P.bytesOf e = 16)
    (h0 : P.underlying f0.type = some (.int .u8)) (h1 : P.underlying f1.type = some (.int .i64))
    (hsz : (DataW.weightsEach P ts ds).all (· ≤ reachBytes) = true) (htj : ts[j]? = some t) (hdj : ds[j]? = some d)
    (h : DataW.Trod enc P W 0 (fun _ => true) true t (.slice a len cap) d p) :
    ∃ xs : List (Int × Int), len = xs.length ∧ xs.length ≤ cap ∧ cap * 16 ≤ 140737488351232 ∧ RdO W W.heap.size a xs ∧ (∀ x ∈ xs, OpOk x) ∧ (a = none → cap = 0) := by
  obtain ⟨fuel, hfu⟩ := h
  rcases open_slice ht hfu with ⟨hcs, hx⟩ | ⟨ad, l, c, m, n, D, Pl, hcs, _, hl, hm, hmm, hx, hi⟩
  · simp [Value.cells] at hcs
    obtain ⟨rfl, rfl, rfl⟩ := hcs
    exact ⟨[], rfl, Nat.le_refl _, by simp, fun h => by simp at h, fun v hv => by simp at hv, fun _ => rfl⟩
  · simp [Value.cells] at hcs
    obtain ⟨rfl, rfl, rfl⟩ := hcs
    simp only [if_true] at hmm
    subst hmm
    simp only [Prod.mk.injEq] at hx
    obtain ⟨rfl, -⟩ := hx
    have hw := sized_slice hsz htj hdj ht
    rw [hb1] at hw
    simp only [List.length_map, List.length_range, reachBytes] at hw
    have key : ∀ i, i < len → ∃ x : Int × Int, W.cell? (ad.add (i * 2)) = some (.int .u8 x.1) ∧ W.cell? (ad.add (i * 2 + 1)) = some (.int .i64 x.2) ∧ OpOk x := fun i hil => by
      obtain ⟨cs', hcell, htr⟩ := hi i (by omega)
      rw [hC] at hcell
      obtain ⟨_, hlen, hat⟩ := World.cells?_some hcell
      obtain ⟨u, v, rfl⟩ : ∃ u v, cs' = [u, v] := by
        match cs', hlen with
        | [u, v], _ => exact ⟨u, v, rfl⟩
      have hc0 : W.cell? (ad.add (i * 2)) = some u := by
        have := hat 0 (by omega)
        rw [Go.Deep.add_add] at this
        simpa using this
      have hc1 : W.cell? (ad.add (i * 2 + 1)) = some v := by
        have := hat 1 (by omega)
        rw [Go.Deep.add_add] at this
        simpa using this
      obtain ⟨ys, n', hn', hy, hlen', hyl, hf⟩ := DataW.trod_struct he htr
      obtain ⟨o0, k0⟩ := hone_of hone 0 f0 rfl
      obtain ⟨o1, k1⟩ := hone_of hone 1 f1 rfl
      have g0 := hf 0 f0 rfl
      have g1 := hf 1 f1 rfl
      rw [o0, k0] at g0
      rw [o1, k1] at g1
      match ys, hyl with
      | [y0, y1], _ =>
        have g0' : DataW.trod enc P W 0 (fun _ => true) true n' f0.type [u] = some y0 := by simpa using g0
        have g1' : DataW.trod enc P W 0 (fun _ => true) true n' f1.type [v] = some y1 := by simpa using g1
        obtain ⟨a0, q0, _, w0⟩ := DataW.trod_int h0 g0'
        obtain ⟨a1, q1, _, w1⟩ := DataW.trod_int h1 g1'
        simp only [List.cons.injEq, and_true] at q0 q1
        subst q0 q1
        exact ⟨(a0, a1), hc0, hc1, w0, w1⟩
    obtain ⟨F, hF⟩ : ∃ F : Nat → Int × Int, ∀ i, i < len → W.cell? (ad.add (i * 2)) = some (.int .u8 (F i).1) ∧ W.cell? (ad.add (i * 2 + 1)) = some (.int .i64 (F i).2) ∧ OpOk (F i) := by
      refine ⟨fun i => if h : i < len then Classical.choose (key i h) else (0, 0), fun i h => ?_⟩
      simp only [dif_pos h]
      exact Classical.choose_spec (key i h)
    refine ⟨(List.range len).map F, by simp, by simpa using hl, by omega, fun hpos => ?_, fun v hv => ?_, fun h => by cases h⟩
    · simp only [List.length_map, List.length_range] at hpos
      obtain ⟨b, off, spot⟩ := ad
      have hcc := (hF 0 hpos).1
      have hspot : spot = none := by simpa [Addr.add] using World.cell?_spot hcc
      subst hspot
      refine ⟨b, off, rfl, ?_, fun t ht' => ?_⟩
      · rcases Nat.lt_or_ge b W.heap.size with h | h
        · exact h
        · simp [World.cell?, Addr.add, Array.getElem?_eq_none h] at hcc
      · simp only [List.length_map, List.length_range] at ht'
        have ea : ∀ i, (⟨b, off, none⟩ : Addr).add i = ⟨b, off + i, none⟩ := fun i => by unfold Addr.add; split <;> simp_all
        have h1 := hF t ht'
        rw [ea, ea] at h1
        simp only [List.getElem?_map, List.getElem?_range ht', Option.map_some, Option.getD_some]
        exact ⟨h1.1, by rw [Nat.add_assoc]; exact h1.2.1⟩
    · simp only [List.mem_map, List.mem_range] at hv
      obtain ⟨i, hi, rfl⟩ := hv
      exact (hF i hi).2.2
end Go.Proofs.YtgcclijdkcomiaaDoor
