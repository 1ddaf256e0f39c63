/- Several texts in one. -/
import Derived.Test.YthbimjkcpmffcaaGreatOw
import Derived.Lib.SmallJoins
import Derived.ChangeSame
import Derived.Test.YthbimjkcpmffcaaGreatVf
import Derived.Deep.Slices
import Derived.Test.YthbimjkcpmffcaaGreatNl
import Derived.Test.YthbimjkcpmffcaaGreatPd
import Derived.Test.YthbimjkcpmffcaaGreatRu
/- How an argument that is an array of two integers, by value, is opened. Over any program. -/
namespace Go.Proofs.YthbimjkcpmffcaaGreat
open Go.ChangeShapes Go.WideShapes Go.ChangeAt Go.RowKit Go.Joins
set_option linter.unusedVariables false
theorem trod_array2 {H : Type} {enc : TypeId × Value → H} {P : Program} {w : World} {base : Nat} {spare : Nat → Bool} {held : Bool} {t e : TypeId} {fuel : Nat} {c0 c1 : Value} {x : DataW H × List MemPlace} (ht : P.underlying t = some (.array 2 e)) (hce : P.cellsOf e = 1)
    (h : DataW.trod enc P w base spare held fuel t [c0, c1] = some x) :
    ∃ y0 y1 n, DataW.trod enc P w base spare held n e [c0] = some y0 ∧ DataW.trod enc P w base spare held n e [c1] = some y1 := by
  cases fuel with
  | zero => simp [DataW.trod] at h
  | succ n =>
    unfold DataW.trod at h
    rw [ht] at h
    have r2 : List.range 2 = [0, 1] := rfl
    simp [r2, hce] at h
    obtain ⟨_, h⟩ := h
    cases h0 : DataW.trod enc P w base spare held n e [c0] with
    | none => simp [h0] at h
    | some y0 =>
      cases h1 : DataW.trod enc P w base spare held n e [c1] with
      | none => simp [h0, h1] at h
      | some y1 => exact ⟨y0, y1, n, h0, h1⟩
theorem opened_arr2 {H : Type} {enc : TypeId × Value → H} {P : Program} {W : World} {r : Reach} {b0 : Nat} {t e : TypeId} {k : IntKind} {v : Value} {d : DataW H} {p : List MemPlace}
    (ht : P.underlying t = some (.array 2 e)) (he : P.underlying e = some (.int k)) (hce : P.cellsOf e = 1) (hC : P.cellsOf t = 2)
    (hv : Value.okWide P W r b0 t v) (h : DataW.Trod enc P W 0 (fun _ => true) true t v d p) :
    ∃ a0 a1 : Int, v = .agg #[.int k a0, .int k a1] ∧ (Lit.int k a0).wf = true ∧ (Lit.int k a1).wf = true := by
  unfold Value.okWide at hv
  rw [ht] at hv
  obtain ⟨cs, rfl, hsz, _⟩ := hv
  obtain ⟨c0, c1, rfl⟩ := array2 (hsz.trans hC)
  obtain ⟨fuel, hf⟩ := h
  obtain ⟨y0, y1, n, h0, h1⟩ := trod_array2 ht hce hf
  obtain ⟨a0, q0, _, w0⟩ := DataW.trod_int he h0
  obtain ⟨a1, q1, _, w1⟩ := DataW.trod_int he h1
  simp only [List.cons.injEq, and_true] at q0 q1
  subst q0 q1
  exact ⟨a0, a1, rfl, w0, w1⟩
end Go.Proofs.YthbimjkcpmffcaaGreat
/- How an argument that is a slice of vectors is opened. -/
namespace Go.Proofs.YthbimjkcpmffcaaGreat
open Go.ChangeShapes Go.WideShapes Go.ChangeAt Go.RowKit Go.Deep
set_option linter.unusedVariables false
theorem weights_mem_all {H : Type} {P : Program} {e : TypeId} {d : DataW H} {n : Nat} (hn : n ∈ d.weights P e) : ∀ {ds : List (DataW H)}, d ∈ ds → n ∈ DataW.weightsAll P e ds
  | [], h => by simp at h
  | x :: r, h => by
    simp only [DataW.weightsAll, List.mem_append]
    rcases List.mem_cons.1 h with h | h
    · subst h; exact .inl hn
    · exact .inr (weights_mem_all hn h)
/-- What is known of one vector of an argument. -/
def VcOk (W : World) (v : Vc) : Prop := Rd .i8 W W.heap.size v.1 v.2.2 ∧ (∀ n ∈ v.2.2, (Lit.int .i8 n).wf = true) ∧ v.2.2.length ≤ v.2.1 ∧ v.2.1 ≤ 140737488351232 ∧ (v.1 = none → v.2.1 = 0)
theorem opened_vecs {H : Type} {enc : TypeId × Value → H} {P : Program} {W : World} {t e f : TypeId} {a : Option Addr} {len cap j : Nat} {d : DataW H} {p : List MemPlace} {ts : List TypeId} {ds : List (DataW H)}
    (ht : P.underlying t = some (.slice e)) (he : P.underlying e = some (.slice f)) (hf : P.underlying f = some (.int .i8)) (hc1 : P.cellsOf e = 1) (hc2 : P.cellsOf f = 1) (hb1 : P.bytesOf e = 24) (hb2 : P.bytesOf f = 1)
    (hsz : (DataW.weightsEach P ts ds).all (· ≤ reachBytes) = true) (htj : ts[j]? = some t) (hdj : ds[j]? = some d)
    (h : DataW.Trod enc P W 0 (fun _ => true) true t (.slice a len cap) d p) :
    ∃ L : List Vc, len = L.length ∧ L.length ≤ cap ∧ cap * 24 ≤ 140737488351232 ∧ RdV W W.heap.size a L ∧ (∀ v ∈ L, VcOk W v) ∧ (a = none → cap = 0) := by
  obtain ⟨fuel, hfu⟩ := h
  rcases open_slice ht hfu with ⟨hcs, hx⟩ | ⟨ad, l, c, m, n, D, Pl, hcs, _, hl, hm, hmm, hx, hi⟩
  · simp [Value.cells] at hcs
    obtain ⟨rfl, rfl, rfl⟩ := hcs
    exact ⟨[], rfl, Nat.le_refl _, by simp, fun h => by simp at h, fun v hv => by simp at hv, fun _ => rfl⟩
  · simp [Value.cells] at hcs
    obtain ⟨rfl, rfl, rfl⟩ := hcs
    simp only [if_true] at hmm
    subst hmm
    simp only [Prod.mk.injEq] at hx
    obtain ⟨rfl, -⟩ := hx
    have hw := sized_slice hsz htj hdj ht
    rw [hb1] at hw
    simp only [List.length_map, List.length_range, reachBytes] at hw
    have key : ∀ i, i < len → ∃ v : Vc, W.cell? (ad.add i) = some (.slice v.1 v.2.2.length v.2.1) ∧ VcOk W v := fun i hil => by
      obtain ⟨cs', hcell, htr⟩ := hi i (by omega)
      rw [hc1, Nat.mul_one] at hcell
      obtain ⟨_, hlen, hat⟩ := World.cells?_some hcell
      obtain ⟨x, rfl⟩ : ∃ x, cs' = [x] := by
        match cs', hlen with
        | [x], _ => exact ⟨x, rfl⟩
      have hc0 : W.cell? (ad.add i) = some x := by
        have := hat 0 (by omega)
        rw [show (ad.add i).add 0 = ad.add i by unfold Addr.add; split <;> simp_all] at this
        simpa using this
      rcases open_ints he hf hc2 htr with ⟨hcs2, hx2⟩ | ⟨y, l2, c2, zs, hcs2, _, hl2, hm2, hz2, hx2, hcell2, hwz⟩
      · simp only [List.cons.injEq, and_true] at hcs2
        subst hcs2
        exact ⟨vNil, hc0, fun h => by simp [vNil] at h, fun n hn => by simp [vNil] at hn, Nat.le_refl _, by simp [vNil], fun _ => rfl⟩
      · simp only [List.cons.injEq, and_true] at hcs2
        subst hcs2
        simp only [if_true] at hz2
        simp only [Prod.mk.injEq] at hx2
        have hDi := hx2.1
        have hmem : D i ∈ (List.range len).map D := List.mem_map.2 ⟨i, List.mem_range.2 hil, rfl⟩
        have hwi : (l2 + (c2 - l2)) * 1 ≤ reachBytes := by
          have h1 : (l2 + (c2 - l2)) * 1 ∈ (D i).weights P e := by
            rw [hDi]
            simp only [DataW.weights, he, hb2, lits, List.length_map, List.length_take, List.length_drop, List.mem_cons]
            left; omega
          have h2 := weights_mem_all h1 hmem
          have h3 := DataW.weights_mem_each (P := P) htj hdj ((l2 + (c2 - l2)) * 1) (by
            simp only [DataW.weights, ht, List.mem_cons, List.mem_append]
            exact .inr (.inl h2))
          have := List.all_eq_true.1 hsz _ h3
          simpa using this
        simp only [reachBytes] at hwi
        refine ⟨(some y, c2, zs.take l2), ?_, fun hpos => ?_, fun n hn => hwz n (List.mem_of_mem_take hn), ?_, ?_, fun h => by cases h⟩
        · rw [hc0]; simp only [List.length_take]; rw [show min l2 zs.length = l2 by omega]
        · have hpos' : 0 < (zs.take l2).length := hpos
          rw [List.length_take] at hpos'
          obtain ⟨b, off, spot⟩ := y
          have hcc := hcell2 0 (by omega)
          have hspot : spot = none := by simpa [Addr.add] using World.cell?_spot hcc
          subst hspot
          refine ⟨b, off, rfl, ?_, fun i hi => ?_⟩
          · have hc1 : W.cell? ⟨b, off, none⟩ = some (.int .i8 (zs.getD 0 0)) := by simpa [Addr.add] using hcc
            rcases Nat.lt_or_ge b W.heap.size with h | h
            · exact h
            · simp [World.cell?, Array.getElem?_eq_none h] at hc1
          · have hi' : i < (zs.take l2).length := hi
            rw [List.length_take] at hi'
            have := hcell2 i (by omega)
            have ea : (⟨b, off, none⟩ : Addr).add i = ⟨b, off + i, none⟩ := by unfold Addr.add; split <;> simp_all
            rw [ea] at this
            rw [this]
            show _ = some (Value.int .i8 ((zs.take l2)[i]?.getD 0))
            rw [List.getElem?_take, if_pos (by omega)]
            simp [List.getD]
        · show (zs.take l2).length ≤ c2
          rw [List.length_take]; omega
        · show c2 ≤ _
          omega
    obtain ⟨F, hF⟩ : ∃ F : Nat → Vc, ∀ i, i < len → W.cell? (ad.add i) = some (.slice (F i).1 (F i).2.2.length (F i).2.1) ∧ VcOk W (F i) := by
      refine ⟨fun i => if h : i < len then Classical.choose (key i h) else vNil, fun i h => ?_⟩
      simp only [dif_pos h]
      exact Classical.choose_spec (key i h)
    refine ⟨(List.range len).map F, by simp, by simpa using hl, by omega, fun hpos => ?_, fun v hv => ?_, fun h => by cases h⟩
    · simp only [List.length_map, List.length_range] at hpos
      obtain ⟨b, off, spot⟩ := ad
      have hcc := (hF 0 hpos).1
      have hspot : spot = none := by simpa [Addr.add] using World.cell?_spot hcc
      subst hspot
      refine ⟨b, off, rfl, ?_, fun i hi => ?_⟩
      · rcases Nat.lt_or_ge b W.heap.size with h | h
        · exact h
        · simp [World.cell?, Addr.add, Array.getElem?_eq_none h] at hcc
      · simp only [List.length_map, List.length_range] at hi
        have ea : (⟨b, off, none⟩ : Addr).add i = ⟨b, off + i, none⟩ := by unfold Addr.add; split <;> simp_all
        have h1 := hF i hi
        rw [ea] at h1
        simp only [List.getElem?_map, List.getElem?_range hi, Option.map_some, Option.getD_some]
        exact ⟨h1.1, h1.2.1⟩
    · simp only [List.mem_map, List.mem_range] at hv
      obtain ⟨i, hi, rfl⟩ := hv
      exact (hF i hi).2
end Go.Proofs.YthbimjkcpmffcaaGreat
/- How an argument that is an array of two lists of vectors, by value, or a struct of two ints and a uint64, is opened. Over any program. -/
namespace Go.Proofs.YthbimjkcpmffcaaGreat
open Go.ChangeShapes Go.WideShapes Go.ChangeAt Go.RowKit Go.Joins Go.Deep
set_option linter.unusedVariables false
theorem opened_vecs_in {H : Type} {enc : TypeId × Value → H} {P : Program} {W : World} {t e f : TypeId} {a : Option Addr} {len cap fuel : Nat} {d : DataW H} {p : List MemPlace}
    (ht : P.underlying t = some (.slice e)) (he : P.underlying e = some (.slice f)) (hf : P.underlying f = some (.int .i8)) (hc1 : P.cellsOf e = 1) (hc2 : P.cellsOf f = 1) (hb1 : P.bytesOf e = 24) (hb2 : P.bytesOf f = 1)
    (hsz : ∀ n ∈ d.weights P t, n ≤ reachBytes)
    (hfu : DataW.trod enc P W 0 (fun _ => true) true fuel t [.slice a len cap] = some (d, p)) :
    ∃ L : List Vc, len = L.length ∧ L.length ≤ cap ∧ cap * 24 ≤ 140737488351232 ∧ RdV W W.heap.size a L ∧ (∀ v ∈ L, VcOk W v) ∧ (a = none → cap = 0) := by
  rcases open_slice ht hfu with ⟨hcs, hx⟩ | ⟨ad, l, c, m, n, D, Pl, hcs, _, hl, hm, hmm, hx, hi⟩
  · simp at hcs
    obtain ⟨rfl, rfl, rfl⟩ := hcs
    exact ⟨[], rfl, Nat.le_refl _, by simp, fun h => by simp at h, fun v hv => by simp at hv, fun _ => rfl⟩
  · simp at hcs
    obtain ⟨rfl, rfl, rfl⟩ := hcs
    simp only [if_true] at hmm
    subst hmm
    simp only [Prod.mk.injEq] at hx
    obtain ⟨rfl, -⟩ := hx
    have hw := hsz _ (by simp only [DataW.weights, ht, List.mem_cons]; exact .inl rfl)
    rw [hb1] at hw
    simp only [List.length_map, List.length_range, reachBytes] at hw
    have key : ∀ i, i < len → ∃ v : Vc, W.cell? (ad.add i) = some (.slice v.1 v.2.2.length v.2.1) ∧ VcOk W v := fun i hil => by
      obtain ⟨cs', hcell, htr⟩ := hi i (by omega)
      rw [hc1, Nat.mul_one] at hcell
      obtain ⟨_, hlen, hat⟩ := World.cells?_some hcell
      obtain ⟨x, rfl⟩ : ∃ x, cs' = [x] := by
        match cs', hlen with
        | [x], _ => exact ⟨x, rfl⟩
      have hc0 : W.cell? (ad.add i) = some x := by
        have := hat 0 (by omega)
        rw [show (ad.add i).add 0 = ad.add i by unfold Addr.add; split <;> simp_all] at this
        simpa using this
      rcases open_ints he hf hc2 htr with ⟨hcs2, hx2⟩ | ⟨y, l2, c2, zs, hcs2, _, hl2, hm2, hz2, hx2, hcell2, hwz⟩
      · simp only [List.cons.injEq, and_true] at hcs2
        subst hcs2
        exact ⟨vNil, hc0, fun h => by simp [vNil] at h, fun n hn => by simp [vNil] at hn, Nat.le_refl _, by simp [vNil], fun _ => rfl⟩
      · simp only [List.cons.injEq, and_true] at hcs2
        subst hcs2
        simp only [if_true] at hz2
        simp only [Prod.mk.injEq] at hx2
        have hDi := hx2.1
        have hmem : D i ∈ (List.range len).map D := List.mem_map.2 ⟨i, List.mem_range.2 hil, rfl⟩
        have hwi : (l2 + (c2 - l2)) * 1 ≤ reachBytes := by
          have h1 : (l2 + (c2 - l2)) * 1 ∈ (D i).weights P e := by
            rw [hDi]
            simp only [DataW.weights, he, hb2, lits, List.length_map, List.length_take, List.length_drop, List.mem_cons]
            left; omega
          have h2 := weights_mem_all h1 hmem
          exact hsz ((l2 + (c2 - l2)) * 1) (by
            simp only [DataW.weights, ht, List.mem_cons, List.mem_append]
            exact .inr (.inl h2))
        simp only [reachBytes] at hwi
        refine ⟨(some y, c2, zs.take l2), ?_, fun hpos => ?_, fun n hn => hwz n (List.mem_of_mem_take hn), ?_, ?_, fun h => by cases h⟩
        · rw [hc0]; simp only [List.length_take]; rw [show min l2 zs.length = l2 by omega]
        · have hpos' : 0 < (zs.take l2).length := hpos
          rw [List.length_take] at hpos'
          obtain ⟨b, off, spot⟩ := y
          have hcc := hcell2 0 (by omega)
          have hspot : spot = none := by simpa [Addr.add] using World.cell?_spot hcc
          subst hspot
          refine ⟨b, off, rfl, ?_, fun i hi => ?_⟩
          · have hc1 : W.cell? ⟨b, off, none⟩ = some (.int .i8 (zs.getD 0 0)) := by simpa [Addr.add] using hcc
            rcases Nat.lt_or_ge b W.heap.size with h | h
            · exact h
            · simp [World.cell?, Array.getElem?_eq_none h] at hc1
          · have hi' : i < (zs.take l2).length := hi
            rw [List.length_take] at hi'
            have := hcell2 i (by omega)
            have ea : (⟨b, off, none⟩ : Addr).add i = ⟨b, off + i, none⟩ := by unfold Addr.add; split <;> simp_all
            rw [ea] at this
            rw [this]
            show _ = some (Value.int .i8 ((zs.take l2)[i]?.getD 0))
            rw [List.getElem?_take, if_pos (by omega)]
            simp [List.getD]
        · show (zs.take l2).length ≤ c2
          rw [List.length_take]; omega
        · show c2 ≤ _
          omega
    obtain ⟨F, hF⟩ : ∃ F : Nat → Vc, ∀ i, i < len → W.cell? (ad.add i) = some (.slice (F i).1 (F i).2.2.length (F i).2.1) ∧ VcOk W (F i) := by
      refine ⟨fun i => if h : i < len then Classical.choose (key i h) else vNil, fun i h => ?_⟩
      simp only [dif_pos h]
      exact Classical.choose_spec (key i h)
    refine ⟨(List.range len).map F, by simp, by simpa using hl, by omega, fun hpos => ?_, fun v hv => ?_, fun h => by cases h⟩
    · simp only [List.length_map, List.length_range] at hpos
      obtain ⟨b, off, spot⟩ := ad
      have hcc := (hF 0 hpos).1
      have hspot : spot = none := by simpa [Addr.add] using World.cell?_spot hcc
      subst hspot
      refine ⟨b, off, rfl, ?_, fun i hi => ?_⟩
      · rcases Nat.lt_or_ge b W.heap.size with h | h
        · exact h
        · simp [World.cell?, Addr.add, Array.getElem?_eq_none h] at hcc
      · simp only [List.length_map, List.length_range] at hi
        have ea : (⟨b, off, none⟩ : Addr).add i = ⟨b, off + i, none⟩ := by unfold Addr.add; split <;> simp_all
        have h1 := hF i hi
        rw [ea] at h1
        simp only [List.getElem?_map, List.getElem?_range hi, Option.map_some, Option.getD_some]
        exact ⟨h1.1, h1.2.1⟩
    · simp only [List.mem_map, List.mem_range] at hv
      obtain ⟨i, hi, rfl⟩ := hv
      exact (hF i hi).2
theorem trod_array2d {H : Type} {enc : TypeId × Value → H} {P : Program} {w : World} {base : Nat} {spare : Nat → Bool} {held : Bool} {t e : TypeId} {fuel : Nat} {c0 c1 : Value} {x : DataW H × List MemPlace} (ht : P.underlying t = some (.array 2 e)) (hce : P.cellsOf e = 1)
    (h : DataW.trod enc P w base spare held fuel t [c0, c1] = some x) :
    ∃ y0 y1 n, x.1 = .agg [y0.1, y1.1] ∧ DataW.trod enc P w base spare held n e [c0] = some y0 ∧ DataW.trod enc P w base spare held n e [c1] = some y1 := by
  cases fuel with
  | zero => simp [DataW.trod] at h
  | succ n =>
    unfold DataW.trod at h
    rw [ht] at h
    have r2 : List.range 2 = [0, 1] := rfl
    simp [r2, hce] at h
    obtain ⟨_, h⟩ := h
    cases h0 : DataW.trod enc P w base spare held n e [c0] with
    | none => simp [h0] at h
    | some y0 =>
      cases h1 : DataW.trod enc P w base spare held n e [c1] with
      | none => simp [h0, h1] at h
      | some y1 =>
        simp [h0, h1] at h
        exact ⟨y0, y1, n, by rw [← h], h0, h1⟩
/-- A list of vectors as an argument, opened. -/
def VsOk (W : World) (a : Option Addr) (c : Nat) (L : List Vc) : Prop := RdV W W.heap.size a L ∧ (∀ v ∈ L, VcOk W v) ∧ L.length ≤ c ∧ c * 24 ≤ 140737488351232 ∧ (a = none → c = 0)
theorem opened_arr2v {H : Type} {enc : TypeId × Value → H} {P : Program} {W : World} {r : Reach} {b0 j : Nat} {t e f g : TypeId} {v : Value} {d : DataW H} {p : List MemPlace} {ts : List TypeId} {ds : List (DataW H)}
    (ht : P.underlying t = some (.array 2 e)) (he : P.underlying e = some (.slice f)) (hf : P.underlying f = some (.slice g)) (hg : P.underlying g = some (.int .i8)) (hce : P.cellsOf e = 1) (hC : P.cellsOf t = 2) (hc1 : P.cellsOf f = 1) (hc2 : P.cellsOf g = 1) (hb1 : P.bytesOf f = 24) (hb2 : P.bytesOf g = 1)
    (hsz : (DataW.weightsEach P ts ds).all (· ≤ reachBytes) = true) (htj : ts[j]? = some t) (hdj : ds[j]? = some d)
    (hv : Value.okWide P W r b0 t v) (h : DataW.Trod enc P W 0 (fun _ => true) true t v d p) :
    ∃ a c L b k M, v = .agg #[.slice a (L : List Vc).length c, .slice b (M : List Vc).length k] ∧ VsOk W a c L ∧ VsOk W b k M := by
  unfold Value.okWide at hv
  rw [ht] at hv
  obtain ⟨cs, rfl, hsz2, _⟩ := hv
  obtain ⟨c0, c1, rfl⟩ := array2 (hsz2.trans hC)
  obtain ⟨fuel, hfu⟩ := h
  obtain ⟨y0, y1, n, hx, h0, h1⟩ := trod_array2d ht hce hfu
  have hx : d = .agg [y0.1, y1.1] := hx
  have hw : ∀ q, q ∈ y0.1.weights P e ∨ q ∈ y1.1.weights P e → q ≤ reachBytes := fun q hq => by
    have h3 := DataW.weights_mem_each (P := P) htj hdj q (by
      subst hx
      simp only [DataW.weights, ht, DataW.weightsAll, List.mem_append, List.not_mem_nil, or_false]
      exact hq)
    have := List.all_eq_true.1 hsz _ h3
    simpa using this
  obtain ⟨a, l, c, q1⟩ := slice_form he h0
  obtain ⟨b, m, k, q2⟩ := slice_form he h1
  simp only [List.cons.injEq, and_true] at q1 q2
  subst q1 q2
  obtain ⟨d0, p0⟩ := y0
  obtain ⟨d1, p1⟩ := y1
  obtain ⟨L, rfl, x1, x2, x3, x4, x5⟩ := opened_vecs_in he hf hg hc1 hc2 hb1 hb2 (fun q hq => hw q (.inl hq)) h0
  obtain ⟨M, rfl, z1, z2, z3, z4, z5⟩ := opened_vecs_in he hf hg hc1 hc2 hb1 hb2 (fun q hq => hw q (.inr hq)) h1
  exact ⟨a, c, L, b, k, M, rfl, ⟨x3, x4, x1, x2, x5⟩, ⟨z3, z4, z1, z2, z5⟩⟩
theorem opened_ints3 {H : Type} {enc : TypeId × Value → H} {P : Program} {W : World} {r : Reach} {b0 : Nat} {t t0 t1 t2 : TypeId} {k0 k1 k2 : IntKind} {f0 f1 f2 : Field} {v : Value} {d : DataW H} {p : List MemPlace}
    (hs : P.underlying t = some (.struct #[f0, f1, f2])) (hone : oneCellFields P #[f0, f1, f2] = true) (hC : P.cellsOf t = 3) (e0 : f0.type = t0) (e1 : f1.type = t1) (e2 : f2.type = t2)
    (h0 : P.underlying t0 = some (.int k0)) (h1 : P.underlying t1 = some (.int k1)) (h2 : P.underlying t2 = some (.int k2))
    (hv : Value.okWide P W r b0 t v) (h : DataW.Trod enc P W 0 (fun _ => true) true t v d p) :
    ∃ a b c : Int, v = .agg #[.int k0 a, .int k1 b, .int k2 c] ∧ (Lit.int k0 a).wf = true ∧ (Lit.int k1 b).wf = true ∧ (Lit.int k2 c).wf = true := by
  obtain ⟨c0, c1, c2, y0, y1, y2, m, rfl, hd, rfl, hy0, hy1, hy2⟩ := open_agg3 hs hone hC hv h
  rw [e0] at hy0
  rw [e1] at hy1
  rw [e2] at hy2
  obtain ⟨a, q0, _, wa⟩ := DataW.trod_int h0 hy0
  obtain ⟨b, q1, _, wb⟩ := DataW.trod_int h1 hy1
  obtain ⟨c, q2, _, wc⟩ := DataW.trod_int h2 hy2
  simp only [List.cons.injEq, and_true] at q0 q1 q2
  subst q0 q1 q2
  exact ⟨a, b, c, rfl, wa, wb, wc⟩
theorem i8_wf2 {xs : List Int} (h : ∀ n ∈ xs, (Lit.int .i8 n).wf = true) : ∀ n ∈ xs, -128 ≤ n ∧ n ≤ 127 := fun n hn => i8_of_wf' (h n hn)
/-- Lists of vectors that were handed in, of what the form tells. -/
theorem VsOk.given {W : World} {a : Option Addr} {c : Nat} {L : List Vc} (h : VsOk W a c L) : Given W a L ∧ RoomOk L := by
  obtain ⟨h1, h2, h3, h4, h5⟩ := h
  have hv : ∀ v ∈ vecs L, ∃ x ∈ L, x.2.2 = v := fun v hv => by
    unfold vecs at hv
    obtain ⟨x, hx, rfl⟩ := List.mem_map.1 hv
    exact ⟨x, hx, rfl⟩
  refine ⟨⟨h1, by omega, fun v hvv => ?_, fun v hvv => ?_⟩, fun x hx => ?_⟩
  · obtain ⟨x, hx, rfl⟩ := hv v hvv
    have := h2 x hx
    unfold VcOk at this
    omega
  · obtain ⟨x, hx, rfl⟩ := hv v hvv
    exact i8_wf2 (h2 x hx).2.1
  · have := h2 x hx
    unfold VcOk at this
    omega
end Go.Proofs.YthbimjkcpmffcaaGreat
/- How an argument that is a book of codes, a table, or a struct of four ints, is opened. Over any program. -/
namespace Go.Proofs.YthbimjkcpmffcaaGreat
open Go.ChangeShapes Go.WideShapes Go.ChangeAt Go.RowKit Go.Joins Go.Deep
set_option linter.unusedVariables false
/-- What is known of one list of a table. -/
def VtOk (W : World) (v : Vc) : Prop := Rd .i64 W W.heap.size v.1 v.2.2 ∧ (∀ n ∈ v.2.2, (Lit.int .i64 n).wf = true) ∧ v.2.2.length ≤ v.2.1 ∧ v.2.1 ≤ 140737488351232 ∧ (v.1 = none → v.2.1 = 0)
theorem opened_vecs64 {H : Type} {enc : TypeId × Value → H} {P : Program} {W : World} {t e f : TypeId} {a : Option Addr} {len cap fuel : Nat} {d : DataW H} {p : List MemPlace}
    (ht : P.underlying t = some (.slice e)) (he : P.underlying e = some (.slice f)) (hf : P.underlying f = some (.int .i64)) (hc1 : P.cellsOf e = 1) (hc2 : P.cellsOf f = 1) (hb1 : P.bytesOf e = 24) (hb2 : P.bytesOf f = 8)
    (hsz : ∀ n ∈ d.weights P t, n ≤ reachBytes)
    (hfu : DataW.trod enc P W 0 (fun _ => true) true fuel t [.slice a len cap] = some (d, p)) :
    ∃ L : List Vc, len = L.length ∧ L.length ≤ cap ∧ cap * 24 ≤ 140737488351232 ∧ RdT W W.heap.size a L ∧ (∀ v ∈ L, VtOk W v) ∧ (a = none → cap = 0) := by
  rcases open_slice ht hfu with ⟨hcs, hx⟩ | ⟨ad, l, c, m, n, D, Pl, hcs, _, hl, hm, hmm, hx, hi⟩
  · simp at hcs
    obtain ⟨rfl, rfl, rfl⟩ := hcs
    exact ⟨[], rfl, Nat.le_refl _, by simp, fun h => by simp at h, fun v hv => by simp at hv, fun _ => rfl⟩
  · simp at hcs
    obtain ⟨rfl, rfl, rfl⟩ := hcs
    simp only [if_true] at hmm
    subst hmm
    simp only [Prod.mk.injEq] at hx
    obtain ⟨rfl, -⟩ := hx
    have hw := hsz _ (by simp only [DataW.weights, ht, List.mem_cons]; exact .inl rfl)
    rw [hb1] at hw
    simp only [List.length_map, List.length_range, reachBytes] at hw
    have key : ∀ i, i < len → ∃ v : Vc, W.cell? (ad.add i) = some (.slice v.1 v.2.2.length v.2.1) ∧ VtOk W v := fun i hil => by
      obtain ⟨cs', hcell, htr⟩ := hi i (by omega)
      rw [hc1, Nat.mul_one] at hcell
      obtain ⟨_, hlen, hat⟩ := World.cells?_some hcell
      obtain ⟨x, rfl⟩ : ∃ x, cs' = [x] := by
        match cs', hlen with
        | [x], _ => exact ⟨x, rfl⟩
      have hc0 : W.cell? (ad.add i) = some x := by
        have := hat 0 (by omega)
        rw [show (ad.add i).add 0 = ad.add i by unfold Addr.add; split <;> simp_all] at this
        simpa using this
      rcases open_ints he hf hc2 htr with ⟨hcs2, hx2⟩ | ⟨y, l2, c2, zs, hcs2, _, hl2, hm2, hz2, hx2, hcell2, hwz⟩
      · simp only [List.cons.injEq, and_true] at hcs2
        subst hcs2
        exact ⟨vNil, hc0, fun h => by simp [vNil] at h, fun n hn => by simp [vNil] at hn, Nat.le_refl _, by simp [vNil], fun _ => rfl⟩
      · simp only [List.cons.injEq, and_true] at hcs2
        subst hcs2
        simp only [if_true] at hz2
        simp only [Prod.mk.injEq] at hx2
        have hDi := hx2.1
        have hmem : D i ∈ (List.range len).map D := List.mem_map.2 ⟨i, List.mem_range.2 hil, rfl⟩
        have hwi : (l2 + (c2 - l2)) * 8 ≤ reachBytes := by
          have h1 : (l2 + (c2 - l2)) * 8 ∈ (D i).weights P e := by
            rw [hDi]
            simp only [DataW.weights, he, hb2, lits, List.length_map, List.length_take, List.length_drop, List.mem_cons]
            left; omega
          have h2 := weights_mem_all h1 hmem
          exact hsz ((l2 + (c2 - l2)) * 8) (by
            simp only [DataW.weights, ht, List.mem_cons, List.mem_append]
            exact .inr (.inl h2))
        simp only [reachBytes] at hwi
        refine ⟨(some y, c2, zs.take l2), ?_, fun hpos => ?_, fun n hn => hwz n (List.mem_of_mem_take hn), ?_, ?_, fun h => by cases h⟩
        · rw [hc0]; simp only [List.length_take]; rw [show min l2 zs.length = l2 by omega]
        · have hpos' : 0 < (zs.take l2).length := hpos
          rw [List.length_take] at hpos'
          obtain ⟨b, off, spot⟩ := y
          have hcc := hcell2 0 (by omega)
          have hspot : spot = none := by simpa [Addr.add] using World.cell?_spot hcc
          subst hspot
          refine ⟨b, off, rfl, ?_, fun i hi => ?_⟩
          · have hc1 : W.cell? ⟨b, off, none⟩ = some (.int .i64 (zs.getD 0 0)) := by simpa [Addr.add] using hcc
            rcases Nat.lt_or_ge b W.heap.size with h | h
            · exact h
            · simp [World.cell?, Array.getElem?_eq_none h] at hc1
          · have hi' : i < (zs.take l2).length := hi
            rw [List.length_take] at hi'
            have := hcell2 i (by omega)
            have ea : (⟨b, off, none⟩ : Addr).add i = ⟨b, off + i, none⟩ := by unfold Addr.add; split <;> simp_all
            rw [ea] at this
            rw [this]
            show _ = some (Value.int .i64 ((zs.take l2)[i]?.getD 0))
            rw [List.getElem?_take, if_pos (by omega)]
            simp [List.getD]
        · show (zs.take l2).length ≤ c2
          rw [List.length_take]; omega
        · show c2 ≤ _
          omega
    obtain ⟨F, hF⟩ : ∃ F : Nat → Vc, ∀ i, i < len → W.cell? (ad.add i) = some (.slice (F i).1 (F i).2.2.length (F i).2.1) ∧ VtOk W (F i) := by
      refine ⟨fun i => if h : i < len then Classical.choose (key i h) else vNil, fun i h => ?_⟩
      simp only [dif_pos h]
      exact Classical.choose_spec (key i h)
    refine ⟨(List.range len).map F, by simp, by simpa using hl, by omega, fun hpos => ?_, fun v hv => ?_, fun h => by cases h⟩
    · simp only [List.length_map, List.length_range] at hpos
      obtain ⟨b, off, spot⟩ := ad
      have hcc := (hF 0 hpos).1
      have hspot : spot = none := by simpa [Addr.add] using World.cell?_spot hcc
      subst hspot
      refine ⟨b, off, rfl, ?_, fun i hi => ?_⟩
      · rcases Nat.lt_or_ge b W.heap.size with h | h
        · exact h
        · simp [World.cell?, Addr.add, Array.getElem?_eq_none h] at hcc
      · simp only [List.length_map, List.length_range] at hi
        have ea : (⟨b, off, none⟩ : Addr).add i = ⟨b, off + i, none⟩ := by unfold Addr.add; split <;> simp_all
        have h1 := hF i hi
        rw [ea] at h1
        simp only [List.getElem?_map, List.getElem?_range hi, Option.map_some, Option.getD_some]
        exact ⟨h1.1, h1.2.1⟩
    · simp only [List.mem_map, List.mem_range] at hv
      obtain ⟨i, hi, rfl⟩ := hv
      exact (hF i hi).2
theorem opened_parts_in {H : Type} {enc : TypeId × Value → H} {P : Program} {W : World} {t e f g : TypeId} {a : Option Addr} {len cap fuel : Nat} {d : DataW H} {p : List MemPlace}
    (ht : P.underlying t = some (.slice e)) (he : P.underlying e = some (.slice f)) (hf : P.underlying f = some (.slice g)) (hg : P.underlying g = some (.int .i8)) (hc0 : P.cellsOf e = 1) (hc1 : P.cellsOf f = 1) (hc2 : P.cellsOf g = 1) (hb0 : P.bytesOf e = 24) (hb1 : P.bytesOf f = 24) (hb2 : P.bytesOf g = 1)
    (hsz : ∀ n ∈ d.weights P t, n ≤ reachBytes)
    (hfu : DataW.trod enc P W 0 (fun _ => true) true fuel t [.slice a len cap] = some (d, p)) :
    ∃ L : List Pc, len = L.length ∧ L.length ≤ cap ∧ cap * 24 ≤ 140737488351232 ∧ RdP W W.heap.size a L ∧ (∀ x ∈ L, VsOk W x.1 x.2.1 x.2.2) ∧ (a = none → cap = 0) := by
  rcases open_slice ht hfu with ⟨hcs, hx⟩ | ⟨ad, l, c, m, n, D, Pl, hcs, _, hl, hm, hmm, hx, hi⟩
  · simp at hcs
    obtain ⟨rfl, rfl, rfl⟩ := hcs
    exact ⟨[], rfl, Nat.le_refl _, by simp, fun h => by simp at h, fun v hv => by simp at hv, fun _ => rfl⟩
  · simp at hcs
    obtain ⟨rfl, rfl, rfl⟩ := hcs
    simp only [if_true] at hmm
    subst hmm
    simp only [Prod.mk.injEq] at hx
    obtain ⟨rfl, -⟩ := hx
    have hw := hsz _ (by simp only [DataW.weights, ht, List.mem_cons]; exact .inl rfl)
    rw [hb0] at hw
    simp only [List.length_map, List.length_range, reachBytes] at hw
    have key : ∀ i, i < len → ∃ v : Pc, W.cell? (ad.add i) = some (.slice v.1 v.2.2.length v.2.1) ∧ VsOk W v.1 v.2.1 v.2.2 := fun i hil => by
      obtain ⟨cs', hcell, htr⟩ := hi i (by omega)
      rw [hc0, Nat.mul_one] at hcell
      obtain ⟨_, hlen, hat⟩ := World.cells?_some hcell
      obtain ⟨x, rfl⟩ : ∃ x, cs' = [x] := by
        match cs', hlen with
        | [x], _ => exact ⟨x, rfl⟩
      have hc0 : W.cell? (ad.add i) = some x := by
        have := hat 0 (by omega)
        rw [show (ad.add i).add 0 = ad.add i by unfold Addr.add; split <;> simp_all] at this
        simpa using this
      obtain ⟨b, k, q, q1⟩ := slice_form he htr
      simp only [List.cons.injEq, and_true] at q1
      subst q1
      have hmem : D i ∈ (List.range len).map D := List.mem_map.2 ⟨i, List.mem_range.2 hil, rfl⟩
      obtain ⟨M, rfl, x1, x2, x3, x4, x5⟩ := opened_vecs_in he hf hg hc1 hc2 hb1 hb2 (fun u hu => hsz u (by
        simp only [DataW.weights, ht, List.mem_cons, List.mem_append]
        exact .inr (.inl (weights_mem_all hu hmem)))) htr
      exact ⟨(b, q, M), hc0, x3, x4, x1, x2, x5⟩
    obtain ⟨F, hF⟩ : ∃ F : Nat → Pc, ∀ i, i < len → W.cell? (ad.add i) = some (.slice (F i).1 (F i).2.2.length (F i).2.1) ∧ VsOk W (F i).1 (F i).2.1 (F i).2.2 := by
      refine ⟨fun i => if h : i < len then Classical.choose (key i h) else pNil, fun i h => ?_⟩
      simp only [dif_pos h]
      exact Classical.choose_spec (key i h)
    refine ⟨(List.range len).map F, by simp, by simpa using hl, by omega, fun hpos => ?_, fun v hv => ?_, fun h => by cases h⟩
    · simp only [List.length_map, List.length_range] at hpos
      obtain ⟨b, off, spot⟩ := ad
      have hcc := (hF 0 hpos).1
      have hspot : spot = none := by simpa [Addr.add] using World.cell?_spot hcc
      subst hspot
      refine ⟨b, off, rfl, ?_, fun i hi => ?_⟩
      · rcases Nat.lt_or_ge b W.heap.size with h | h
        · exact h
        · simp [World.cell?, Addr.add, Array.getElem?_eq_none h] at hcc
      · simp only [List.length_map, List.length_range] at hi
        have ea : (⟨b, off, none⟩ : Addr).add i = ⟨b, off + i, none⟩ := by unfold Addr.add; split <;> simp_all
        have h1 := hF i hi
        rw [ea] at h1
        simp only [List.getElem?_map, List.getElem?_range hi, Option.map_some, Option.getD_some]
        exact ⟨h1.1, h1.2.1⟩
    · simp only [List.mem_map, List.mem_range] at hv
      obtain ⟨i, hi, rfl⟩ := hv
      exact (hF i hi).2
/-- A book's means as an argument, opened. -/
def PsOk (W : World) (a : Option Addr) (c : Nat) (L : List Pc) : Prop := RdP W W.heap.size a L ∧ (∀ x ∈ L, VsOk W x.1 x.2.1 x.2.2) ∧ L.length ≤ c ∧ c * 24 ≤ 140737488351232 ∧ (a = none → c = 0)
theorem opened_book {H : Type} {enc : TypeId × Value → H} {P : Program} {W : World} {r : Reach} {b0 : Nat} {t t0 t1 e f g : TypeId} {f0 f1 : Field} {v : Value} {d : DataW H} {p : List MemPlace} {ts : List TypeId} {ds : List (DataW H)} {j : Nat}
    (hs : P.underlying t = some (.struct #[f0, f1])) (hone : oneCellFields P #[f0, f1] = true) (hC : P.cellsOf t = 2) (e0 : f0.type = t0) (e1 : f1.type = t1)
    (h0 : P.underlying t0 = some (.int .i64)) (ht : P.underlying t1 = some (.slice e)) (he : P.underlying e = some (.slice f)) (hf : P.underlying f = some (.slice g)) (hg : P.underlying g = some (.int .i8)) (hc0 : P.cellsOf e = 1) (hc1 : P.cellsOf f = 1) (hc2 : P.cellsOf g = 1) (hb0 : P.bytesOf e = 24) (hb1 : P.bytesOf f = 24) (hb2 : P.bytesOf g = 1)
    (hsz : (DataW.weightsEach P ts ds).all (· ≤ reachBytes) = true) (htj : ts[j]? = some t) (hdj : ds[j]? = some d)
    (hv : Value.okWide P W r b0 t v) (h : DataW.Trod enc P W 0 (fun _ => true) true t v d p) :
    ∃ (K : Int) (V : Option Addr) (c : Nat) (L : List Pc), v = .agg #[.int .i64 K, .slice V L.length c] ∧ (Lit.int .i64 K).wf = true ∧ PsOk W V c L := by
  obtain ⟨c0, c1, y0, y1, m, rfl, hd, rfl, hy0, hy1⟩ := open_agg2 hs hone hC hv h
  rw [e0] at hy0
  rw [e1] at hy1
  obtain ⟨id, q0, rfl, wa⟩ := DataW.trod_int h0 hy0
  simp only [List.cons.injEq, and_true] at q0
  subst q0
  obtain ⟨V, n, c, q1⟩ := slice_form ht hy1
  simp only [List.cons.injEq, and_true] at q1
  subst q1
  obtain ⟨d1, p1⟩ := y1
  obtain ⟨L, rfl, x1, x2, x3, x4, x5⟩ := opened_parts_in ht he hf hg hc0 hc1 hc2 hb0 hb1 hb2 (fun u hu => by
    have := List.all_eq_true.1 hsz _ (DataW.weights_mem_each htj hdj u (by
      subst hd
      simp only [DataW.weights, hs]
      simpa [DataW.weightsEach, e1] using Or.inr hu))
    simpa using this) hy1
  exact ⟨id, V, c, L, rfl, wa, x3, x4, x1, x2, x5⟩
theorem PsOk.given {W : World} {a : Option Addr} {c : Nat} {L : List Pc} (h : PsOk W a c L) : PGiven W a L := by
  obtain ⟨h1, h2, h3, h4, h5⟩ := h
  refine ⟨h1, by omega, fun x hx => ?_, fun l hl => ?_, fun x hx => (h2 x hx).given.2⟩
  · have := (h2 x hx).given.1
    exact ⟨this.len, this.vec⟩
  · unfold words at hl
    obtain ⟨x, hx, rfl⟩ := List.mem_map.1 hl
    exact (h2 x hx).given.1.b8
/-- A table as an argument, opened. -/
def TsOk (W : World) (a : Option Addr) (c : Nat) (L : List Vc) : Prop := RdT W W.heap.size a L ∧ (∀ v ∈ L, VtOk W v) ∧ L.length ≤ c ∧ c * 24 ≤ 140737488351232 ∧ (a = none → c = 0)
theorem opened_tabs {H : Type} {enc : TypeId × Value → H} {P : Program} {W : World} {t e f : TypeId} {a : Option Addr} {len cap j : Nat} {d : DataW H} {p : List MemPlace} {ts : List TypeId} {ds : List (DataW H)}
    (ht : P.underlying t = some (.slice e)) (he : P.underlying e = some (.slice f)) (hf : P.underlying f = some (.int .i64)) (hc1 : P.cellsOf e = 1) (hc2 : P.cellsOf f = 1) (hb1 : P.bytesOf e = 24) (hb2 : P.bytesOf f = 8)
    (hsz : (DataW.weightsEach P ts ds).all (· ≤ reachBytes) = true) (htj : ts[j]? = some t) (hdj : ds[j]? = some d)
    (h : DataW.Trod enc P W 0 (fun _ => true) true t (.slice a len cap) d p) :
    ∃ L : List Vc, len = L.length ∧ TsOk W a cap L := by
  obtain ⟨fuel, hfu⟩ := h
  obtain ⟨L, rfl, x1, x2, x3, x4, x5⟩ := opened_vecs64 ht he hf hc1 hc2 hb1 hb2 (fun u hu => by
    have := List.all_eq_true.1 hsz _ (DataW.weights_mem_each htj hdj u hu)
    simpa using this) hfu
  exact ⟨L, rfl, x3, x4, x1, x2, x5⟩
theorem opened_ints4 {H : Type} {enc : TypeId × Value → H} {P : Program} {W : World} {r : Reach} {b0 : Nat} {t t0 t1 t2 t3 : TypeId} {k0 k1 k2 k3 : IntKind} {f0 f1 f2 f3 : Field} {v : Value} {d : DataW H} {p : List MemPlace}
    (hs : P.underlying t = some (.struct #[f0, f1, f2, f3])) (hone : oneCellFields P #[f0, f1, f2, f3] = true) (hC : P.cellsOf t = 4) (e0 : f0.type = t0) (e1 : f1.type = t1) (e2 : f2.type = t2) (e3 : f3.type = t3)
    (h0 : P.underlying t0 = some (.int k0)) (h1 : P.underlying t1 = some (.int k1)) (h2 : P.underlying t2 = some (.int k2)) (h3 : P.underlying t3 = some (.int k3))
    (hv : Value.okWide P W r b0 t v) (h : DataW.Trod enc P W 0 (fun _ => true) true t v d p) :
    ∃ a b c e : Int, v = .agg #[.int k0 a, .int k1 b, .int k2 c, .int k3 e] ∧ (Lit.int k0 a).wf = true ∧ (Lit.int k1 b).wf = true ∧ (Lit.int k2 c).wf = true ∧ (Lit.int k3 e).wf = true := by
  obtain ⟨c0, c1, c2, c3, y0, y1, y2, y3, m, rfl, hd, rfl, hy0, hy1, hy2, hy3⟩ := open_agg4 hs hone hC hv h
  rw [e0] at hy0
  rw [e1] at hy1
  rw [e2] at hy2
  rw [e3] at hy3
  obtain ⟨a, q0, _, wa⟩ := DataW.trod_int h0 hy0
  obtain ⟨b, q1, _, wb⟩ := DataW.trod_int h1 hy1
  obtain ⟨c, q2, _, wc⟩ := DataW.trod_int h2 hy2
  obtain ⟨e, q3, _, we⟩ := DataW.trod_int h3 hy3
  simp only [List.cons.injEq, and_true] at q0 q1 q2 q3
  subst q0 q1 q2 q3
  exact ⟨a, b, c, e, rfl, wa, wb, wc, we⟩
end Go.Proofs.YthbimjkcpmffcaaGreat
