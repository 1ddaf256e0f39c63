/- How an argument that is a slice of vectors is opened. -/
import Derived.Test.YtkmngbkghgelfaaGreatVf
import Derived.Deep.Slices
namespace Go.Proofs.YtkmngbkghgelfaaGreat
open Go.ChangeShapes Go.WideShapes Go.ChangeAt Go.RowKit Go.Deep
set_option linter.unusedVariables false
theorem weights_mem_all {H : Type} {P : Program} {e : TypeId} {d : DataW H} {n : Nat} (hn : n ∈ d.weights P e) : ∀ {ds : List (DataW H)}, d ∈ ds → n ∈ DataW.weightsAll P e ds
  | [], h => by simp at h
  | x :: r, h => by
    simp only [DataW.weightsAll, List.mem_append]
    rcases List.mem_cons.1 h with h | h
    · subst h; exact .inl hn
    · exact .inr (weights_mem_all hn h)
/-- What is known of one vector of an argument. -/
def VcOk (W : World) (v : Vc) : Prop := Rd .i8 W W.heap.size v.1 v.2.2 ∧ (∀ n ∈ v.2.2, (Lit.int .i8 n).wf = true) ∧ v.2.2.length ≤ v.2.1 ∧ v.2.1 ≤ 140737488351232 ∧ (v.1 = none → v.2.1 = 0)
theorem opened_vecs {H : Type} {enc : TypeId × Value → H} {P : Program} {W : World} {t e f : TypeId} {a : Option Addr} {len cap j : Nat} {d : DataW H} {p : List MemPlace} {ts : List TypeId} {ds : List (DataW H)}
    (ht : P.underlying t = some (.slice e)) (he : P.underlying e = some (.slice f)) (hf : P.underlying f = some (.int .i8)) (hc1 : P.cellsOf e = 1) (hc2 : P.cellsOf f = 1) (hb1 : P.bytesOf e = 24) (hb2 : P.bytesOf f = 1)
    (hsz : (DataW.weightsEach P ts ds).all (· ≤ reachBytes) = true) (htj : ts[j]? = some t) (hdj : ds[j]? = some d)
    (h : DataW.Trod enc P W 0 (fun _ => true) true t (.slice a len cap) d p) :
    ∃ L : List Vc, len = L.length ∧ L.length ≤ cap ∧ cap * 24 ≤ 140737488351232 ∧ RdV W W.heap.size a L ∧ (∀ v ∈ L, VcOk W v) ∧ (a = none → cap = 0) := by
  obtain ⟨fuel, hfu⟩ := h
  rcases open_slice ht hfu with ⟨hcs, hx⟩ | ⟨ad, l, c, m, n, D, Pl, hcs, _, hl, hm, hmm, hx, hi⟩
  · simp [Value.cells] at hcs
    obtain ⟨rfl, rfl, rfl⟩ := hcs
    exact ⟨[], rfl, Nat.le_refl _, by simp, fun h => by simp at h, fun v hv => by simp at hv, fun _ => rfl⟩
  · simp [Value.cells] at hcs
    obtain ⟨rfl, rfl, rfl⟩ := hcs
    simp only [if_true] at hmm
    subst hmm
    simp only [Prod.mk.injEq] at hx
    obtain ⟨rfl, -⟩ := hx
    have hw := sized_slice hsz htj hdj ht
    rw [hb1] at hw
    simp only [List.length_map, List.length_range, reachBytes] at hw
    have key : ∀ i, i < len → ∃ v : Vc, W.cell? (ad.add i) = some (.slice v.1 v.2.2.length v.2.1) ∧ VcOk W v := fun i hil => by
      obtain ⟨cs', hcell, htr⟩ := hi i (by omega)
      rw [hc1, Nat.mul_one] at hcell
      obtain ⟨_, hlen, hat⟩ := World.cells?_some hcell
      obtain ⟨x, rfl⟩ : ∃ x, cs' = [x] := by
        match cs', hlen with
        | [x], _ => exact ⟨x, rfl⟩
      have hc0 : W.cell? (ad.add i) = some x := by
        have := hat 0 (by omega)
        rw [show (ad.add i).add 0 = ad.add i by unfold Addr.add; split <;> simp_all] at this
        simpa using this
      rcases open_ints he hf hc2 htr with ⟨hcs2, hx2⟩ | ⟨y, l2, c2, zs, hcs2, _, hl2, hm2, hz2, hx2, hcell2, hwz⟩
      · simp only [List.cons.injEq, and_true] at hcs2
        subst hcs2
        exact ⟨vNil, hc0, fun h => by simp [vNil] at h, fun n hn => by simp [vNil] at hn, Nat.le_refl _, by simp [vNil], fun _ => rfl⟩
      · simp only [List.cons.injEq, and_true] at hcs2
        subst hcs2
        simp only [if_true] at hz2
        simp only [Prod.mk.injEq] at hx2
        have hDi := hx2.1
        have hmem : D i ∈ (List.range len).map D := List.mem_map.2 ⟨i, List.mem_range.2 hil, rfl⟩
        have hwi : (l2 + (c2 - l2)) * 1 ≤ reachBytes := by
          have h1 : (l2 + (c2 - l2)) * 1 ∈ (D i).weights P e := by
            rw [hDi]
            simp only [DataW.weights, he, hb2, lits, List.length_map, List.length_take, List.length_drop, List.mem_cons]
            left; omega
          have h2 := weights_mem_all h1 hmem
          have h3 := DataW.weights_mem_each (P := P) htj hdj ((l2 + (c2 - l2)) * 1) (by
            simp only [DataW.weights, ht, List.mem_cons, List.mem_append]
            exact .inr (.inl h2))
          have := List.all_eq_true.1 hsz _ h3
          simpa using this
        simp only [reachBytes] at hwi
        refine ⟨(some y, c2, zs.take l2), ?_, fun hpos => ?_, fun n hn => hwz n (List.mem_of_mem_take hn), ?_, ?_, fun h => by cases h⟩
        · rw [hc0]; simp only [List.length_take]; rw [show min l2 zs.length = l2 by omega]
        · have hpos' : 0 < (zs.take l2).length := hpos
          rw [List.length_take] at hpos'
          obtain ⟨b, off, spot⟩ := y
          have hcc := hcell2 0 (by omega)
          have hspot : spot = none := by simpa [Addr.add] using World.cell?_spot hcc
          subst hspot
          refine ⟨b, off, rfl, ?_, fun i hi => ?_⟩
          · have hc1 : W.cell? ⟨b, off, none⟩ = some (.int .i8 (zs.getD 0 0)) := by simpa [Addr.add] using hcc
            rcases Nat.lt_or_ge b W.heap.size with h | h
            · exact h
            · simp [World.cell?, Array.getElem?_eq_none h] at hc1
          · have hi' : i < (zs.take l2).length := hi
            rw [List.length_take] at hi'
            have := hcell2 i (by omega)
            have ea : (⟨b, off, none⟩ : Addr).add i = ⟨b, off + i, none⟩ := by unfold Addr.add; split <;> simp_all
            rw [ea] at this
            rw [this]
            show _ = some (Value.int .i8 ((zs.take l2)[i]?.getD 0))
            rw [List.getElem?_take, if_pos (by omega)]
            simp [List.getD]
        · show (zs.take l2).length ≤ c2
          rw [List.length_take]; omega
        · show c2 ≤ _
          omega
    obtain ⟨F, hF⟩ : ∃ F : Nat → Vc, ∀ i, i < len → W.cell? (ad.add i) = some (.slice (F i).1 (F i).2.2.length (F i).2.1) ∧ VcOk W (F i) := by
      refine ⟨fun i => if h : i < len then Classical.choose (key i h) else vNil, fun i h => ?_⟩
      simp only [dif_pos h]
      exact Classical.choose_spec (key i h)
    refine ⟨(List.range len).map F, by simp, by simpa using hl, by omega, fun hpos => ?_, fun v hv => ?_, fun h => by cases h⟩
    · simp only [List.length_map, List.length_range] at hpos
      obtain ⟨b, off, spot⟩ := ad
      have hcc := (hF 0 hpos).1
      have hspot : spot = none := by simpa [Addr.add] using World.cell?_spot hcc
      subst hspot
      refine ⟨b, off, rfl, ?_, fun i hi => ?_⟩
      · rcases Nat.lt_or_ge b W.heap.size with h | h
        · exact h
        · simp [World.cell?, Addr.add, Array.getElem?_eq_none h] at hcc
      · simp only [List.length_map, List.length_range] at hi
        have ea : (⟨b, off, none⟩ : Addr).add i = ⟨b, off + i, none⟩ := by unfold Addr.add; split <;> simp_all
        have h1 := hF i hi
        rw [ea] at h1
        simp only [List.getElem?_map, List.getElem?_range hi, Option.map_some, Option.getD_some]
        exact ⟨h1.1, h1.2.1⟩
    · simp only [List.mem_map, List.mem_range] at hv
      obtain ⟨i, hi, rfl⟩ := hv
      exact (hF i hi).2
end Go.Proofs.YtkmngbkghgelfaaGreat
