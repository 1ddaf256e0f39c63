/- How an argument that is a slice of ops (a hit, and a bool) is opened. -/
import Derived.Test.YtaempklgmoabcaaGreatAh
namespace Go.Proofs.YtaempklgmoabcaaGreat
open Go.ChangeShapes Go.WideShapes Go.ChangeAt Go.RowKit Go.Deep
set_option linter.unusedVariables false
/-- A slice value at A reads, in w, as these ops; where it has one it lies below block B. -/
def RdO (w : World) (B : Nat) (A : Option Addr) (xs : List ((Int × Int) × Bool)) : Prop :=
  ∀ i, i < xs.length → ∃ b off x y p, A = some ⟨b, off, none⟩ ∧ b < B ∧ w.cell? ⟨b, off + i * 3, none⟩ = some (.int .u64 x) ∧ w.cell? ⟨b, off + i * 3 + 1, none⟩ = some (.int .i64 y) ∧ w.cell? ⟨b, off + i * 3 + 2, none⟩ = some (.bool p) ∧ xs[i]? = some ((x, y), p)
theorem RdO.below {w w' : World} {B : Nat} {A : Option Addr} {xs : List ((Int × Int) × Bool)} (h : RdO w B A xs) (hb : Below B w w') : RdO w' B A xs := fun i hi => by
  obtain ⟨b, off, x, y, p, h1, h2, h3, h4, h5, h6⟩ := h i hi
  exact ⟨b, off, x, y, p, h1, h2, (hb.cell (p := ⟨b, _, none⟩) h2).trans h3, (hb.cell (p := ⟨b, _, none⟩) h2).trans h4, (hb.cell (p := ⟨b, _, none⟩) h2).trans h5, h6⟩
theorem opened_ops {H : Type} {enc : TypeId × Value → H} {P : Program} {W : World} {t e : TypeId} {f0 f1 g0 g1 : Field} {a : Option Addr} {len cap j : Nat} {d : DataW H} {p : List MemPlace} {ts : List TypeId} {ds : List (DataW H)}
    (ht : P.underlying t = some (.slice e)) (he : P.underlying e = some (.struct #[f0, f1])) (h0 : P.underlying f0.type = some (.struct #[g0, g1])) (h1 : P.underlying f1.type = some .bool) (k0 : P.underlying g0.type = some (.int .u64)) (k1 : P.underlying g1.type = some (.int .i64))
    (hC : P.cellsOf e = 3) (hb1 : P.bytesOf e = 24) (hC0 : P.cellsOf f0.type = 2) (hC1 : P.cellsOf f1.type = 1) (hD0 : P.cellsOf g0.type = 1) (hD1 : P.cellsOf g1.type = 1) (o0 : f0.offset = 0) (o1 : f1.offset = 2) (q0 : g0.offset = 0) (q1 : g1.offset = 1)
    (hsz : (DataW.weightsEach P ts ds).all (· ≤ reachBytes) = true) (htj : ts[j]? = some t) (hdj : ds[j]? = some d)
    (h : DataW.Trod enc P W 0 (fun _ => true) true t (.slice a len cap) d p) :
    ∃ xs : List ((Int × Int) × Bool), len = xs.length ∧ xs.length ≤ cap ∧ cap * 24 ≤ 140737488351232 ∧ RdO W W.heap.size a xs ∧ (∀ x ∈ xs, HitOk x.1) ∧ (a = none → cap = 0) := by
  obtain ⟨fuel, hfu⟩ := h
  rcases open_slice ht hfu with ⟨hcs, hx⟩ | ⟨ad, l, c, m, n, D, Pl, hcs, _, hl, hm, hmm, hx, hi⟩
  · simp [Value.cells] at hcs
    obtain ⟨rfl, rfl, rfl⟩ := hcs
    exact ⟨[], rfl, Nat.le_refl _, by simp, fun i h => by simp at h, fun v hv => by simp at hv, fun _ => rfl⟩
  · simp [Value.cells] at hcs
    obtain ⟨rfl, rfl, rfl⟩ := hcs
    simp only [if_true] at hmm
    subst hmm
    simp only [Prod.mk.injEq] at hx
    obtain ⟨rfl, -⟩ := hx
    have hw := sized_slice hsz htj hdj ht
    rw [hb1] at hw
    simp only [List.length_map, List.length_range, reachBytes] at hw
    have key : ∀ i, i < len → ∃ x : (Int × Int) × Bool, W.cell? (ad.add (i * 3)) = some (.int .u64 x.1.1) ∧ W.cell? (ad.add (i * 3 + 1)) = some (.int .i64 x.1.2) ∧ W.cell? (ad.add (i * 3 + 2)) = some (.bool x.2) ∧ HitOk x.1 := fun i hil => by
      obtain ⟨cs', hcell, htr⟩ := hi i (by omega)
      rw [hC] at hcell
      obtain ⟨_, hlen, hat⟩ := World.cells?_some hcell
      obtain ⟨u, v, z, rfl⟩ : ∃ u v z, cs' = [u, v, z] := by
        match cs', hlen with
        | [u, v, z], _ => exact ⟨u, v, z, rfl⟩
      have hc0 : W.cell? (ad.add (i * 3)) = some u := by
        have := hat 0 (by omega)
        rw [Go.Deep.add_add] at this
        simpa using this
      have hc1 : W.cell? (ad.add (i * 3 + 1)) = some v := by
        have := hat 1 (by omega)
        rw [Go.Deep.add_add] at this
        simpa using this
      have hc2 : W.cell? (ad.add (i * 3 + 2)) = some z := by
        have := hat 2 (by omega)
        rw [Go.Deep.add_add] at this
        simpa using this
      obtain ⟨y0, y1, n', _, _, t0, t1⟩ := trod_struct2 he htr
      rw [o0, hC0] at t0
      rw [o1, hC1] at t1
      have t0' : DataW.trod enc P W 0 (fun _ => true) true n' f0.type [u, v] = some y0 := by simpa using t0
      have t1' : DataW.trod enc P W 0 (fun _ => true) true n' f1.type [z] = some y1 := by simpa using t1
      obtain ⟨r0, r1, n2, _, _, s0, s1⟩ := trod_struct2 h0 t0'
      rw [q0, hD0] at s0
      rw [q1, hD1] at s1
      have s0' : DataW.trod enc P W 0 (fun _ => true) true n2 g0.type [u] = some r0 := by simpa using s0
      have s1' : DataW.trod enc P W 0 (fun _ => true) true n2 g1.type [v] = some r1 := by simpa using s1
      obtain ⟨a0, e0, _, w0⟩ := DataW.trod_int k0 s0'
      obtain ⟨a1, e1, _, w1⟩ := DataW.trod_int k1 s1'
      obtain ⟨bb, e2, _⟩ := DataW.trod_bool h1 t1'
      simp only [List.cons.injEq, and_true] at e0 e1 e2
      subst e0 e1 e2
      exact ⟨((a0, a1), bb), hc0, hc1, hc2, w0, w1⟩
    obtain ⟨F, hF⟩ : ∃ F : Nat → (Int × Int) × Bool, ∀ i, i < len → W.cell? (ad.add (i * 3)) = some (.int .u64 (F i).1.1) ∧ W.cell? (ad.add (i * 3 + 1)) = some (.int .i64 (F i).1.2) ∧ W.cell? (ad.add (i * 3 + 2)) = some (.bool (F i).2) ∧ HitOk (F i).1 := by
      refine ⟨fun i => if h : i < len then Classical.choose (key i h) else ((0, 0), false), fun i h => ?_⟩
      simp only [dif_pos h]
      exact Classical.choose_spec (key i h)
    refine ⟨(List.range len).map F, by simp, by simpa using hl, by omega, fun i hil => ?_, fun v hv => ?_, fun h => by cases h⟩
    · simp only [List.length_map, List.length_range] at hil
      obtain ⟨b, off, spot⟩ := ad
      have hcc := (hF 0 (by omega)).1
      have hspot : spot = none := by simpa [Addr.add] using World.cell?_spot hcc
      subst hspot
      have ea : ∀ i, (⟨b, off, none⟩ : Addr).add i = ⟨b, off + i, none⟩ := fun i => by unfold Addr.add; split <;> simp_all
      have h2 := hF i hil
      rw [ea, ea, ea] at h2
      refine ⟨b, off, (F i).1.1, (F i).1.2, (F i).2, rfl, ?_, h2.1, h2.2.1, h2.2.2.1, ?_⟩
      · rcases Nat.lt_or_ge b W.heap.size with h | h
        · exact h
        · simp [World.cell?, Addr.add, Array.getElem?_eq_none h] at hcc
      · simp [List.getElem?_range hil]
    · simp only [List.mem_map, List.mem_range] at hv
      obtain ⟨i, hi, rfl⟩ := hv
      exact (hF i hi).2.2.2
end Go.Proofs.YtaempklgmoabcaaGreat
