/- The walk of the program's idsMayBe: IDs are held against one another in a map. -/
import Derived.Test.YtfokejlancmahaaGreatLb
import Derived.Test.YtfokejlancmahaaGreatBi
import Derived.Test.YtfokejlancmahaaGreatKd
import Derived.Test.YtfokejlancmahaaGreatOw
import Derived.Test.YtfokejlancmahaaGreatTn
import Derived.Maps.OwnSet
namespace Go.Proofs.YtfokejlancmahaaGreat
open Go.RowKit
open Go.Maps (Keyed Tidy)
set_option linter.unusedVariables false
theorem kLaw9 : Keyed Tryz.prog 71 := Maps.int_keyed Tryz.underlying71
theorem kOf9 {x : Int} (hx : 0 ≤ x ∧ x < 18446744073709551616) : keyOf Tryz.prog 71 (.int .u64 x) = some (.int .u64 x) := Maps.keyOf_int_mk Tryz.underlying71 (by
  have h1 : IntKind.u64.min = 0 := rfl
  have h2 : IntKind.u64.max = 18446744073709551615 := rfl
  simp only [Lit.wf, Bool.and_eq_true, decide_eq_true_eq]
  omega)
/-- Block fm is a map whose keys are the numbers of a list. -/
def IdsAt (w : World) (fm : Nat) (l : List Int) : Prop :=
  ∃ (D : DataW Unit) (q : Nat), w.ownsMap Tryz.prog 71 unitElem fm q D ∧ q ≤ l.length ∧ (∀ x, Maps.has D (.int .u64 x) = decide (x ∈ l)) ∧ Maps.size D ≤ l.length ∧ (Maps.size D = l.length ↔ l.Nodup)
theorem IdsAt.made (w : World) : IdsAt (w.alloc (.map #[] 0)) w.heap.size [] := ⟨.map [], 0, World.ownsMap_made w _ _ _, Nat.le_refl _, fun x => by simp [Maps.has], Nat.le_refl _, by simp [Maps.size]⟩
theorem IdsAt.lt {w : World} {fm : Nat} {l : List Int} (h : IdsAt w fm l) : fm < w.heap.size := by
  obtain ⟨D, q, h1, _⟩ := h; exact h1.lt
theorem IdsAt.below {w w' : World} {fm : Nat} {l : List Int} (h : IdsAt w fm l) (hb : Below w.heap.size w w') : IdsAt w' fm l := by
  obtain ⟨D, q, ⟨es, clock, h1, r⟩, h2⟩ := h
  exact ⟨D, q, ⟨es, clock, (hb.block fm (Array.getElem?_eq_some_iff.1 h1).1).trans h1, r⟩, h2⟩
theorem IdsAt.put {w : World} {fm : Nat} {l : List Int} (h : IdsAt w fm l) {x : Int} (hx : 0 ≤ x ∧ x < 18446744073709551616) (hl : l.length ≤ 1000000) :
    ∃ w', (Instr.mapUpdate 196 (.map (some fm)) (.int .u64 x) (.agg #[])).run Tryz.prog w = .ok () w' ∧ IdsAt w' fm (l ++ [x]) ∧ w.mapTurned w' fm := by
  obtain ⟨D, q, h1, h2, h3, h4, h5⟩ := h
  obtain ⟨w', hr, ho, ht⟩ := h1.store kLaw9 Tryz.underlying196 (by unfold maxLen; omega) (kOf9 hx) (unitElem_mk (H := Unit))
  have hsz := Maps.size_put (h1.tidy kLaw9) (k := .int .u64 x) (d := (.agg [] : DataW Unit))
  refine ⟨w', hr, ⟨_, _, ho, by rw [List.length_append, List.length_singleton]; omega, fun y => ?_, ?_, ?_⟩, ht⟩
  · by_cases e : y = x
    · subst e
      rw [Maps.has_put_same h1.isMap (kLaw9.key (kOf9 hx))]
      simp
    · rw [Maps.has_put_other (by simpa using e), h3 y]
      simp [e]
  · rw [hsz, h3 x, List.length_append, List.length_singleton]
    split <;> omega
  · rw [hsz, h3 x, List.length_append, List.length_singleton, List.nodup_append]
    by_cases hm : x ∈ l
    · have : decide (x ∈ l) = true := decide_eq_true hm
      rw [this]
      constructor
      · intro q; simp at q; omega
      · rintro ⟨-, -, q⟩
        exact absurd rfl (q x hm x (by simp))
    · have : decide (x ∈ l) = false := decide_eq_false hm
      rw [this]
      constructor
      · intro q
        refine ⟨h5.1 (by simpa using q), by simp, fun a ha b hb e => ?_⟩
        rw [List.mem_singleton] at hb
        subst hb e
        exact hm ha
      · rintro ⟨q, -, -⟩
        have := h5.2 q
        simp; omega
theorem IdsAt.len {w : World} {fm : Nat} {l : List Int} (h : IdsAt w fm l) : ∃ q : Nat, (∀ ty, (Builtin.len_ #[196] ty #[.map (some fm)]).run Tryz.prog w = .ok (.int .i64 (q : Int)) w) ∧ q ≤ l.length ∧ (q = l.length ↔ l.Nodup) := by
  obtain ⟨D, q, h1, h2, h3, h4, h5⟩ := h
  exact ⟨_, fun ty => h1.len Tryz.underlying196 ty, h4, h5⟩
theorem mkMap9 (w : World) (n : Int) : (Instr.makeMap 196 (some (.int .i64 n))).run Tryz.prog w = .ok (.map (some w.heap.size)) (w.alloc (.map #[] 0)) := by
  simp [Instr.makeMap, run_underlying Tryz.underlying196, asInt, asIntOf, Result.andThen]
/-- The numbers of a graph's nodes. -/
def idsL (G : List Pn) : List Int := G.map (·.1)
/-- All IDs are unlike, and none is too great. -/
def idsB (G : List Pn) : Bool := decide ((∀ x ∈ G, x.1 ≤ 4611686018427387903) ∧ (idsL G).Nodup)
set_option maxRecDepth 100000 in
set_option maxHeartbeats 4000000 in
theorem idsMayBe_any (A : Option Addr) (c : Nat) (L : List Gn) (n : Nat) (hn : n = L.length) (w : World) (hx : RdG w w.heap.size A L) (hl : L.length ≤ 2048) (hok : ∀ x ∈ pns L, PnOk x) :
    Calls Tryz.prog 140 #[.slice A n c] w fun e w' => e = .returned (.bool (idsB (pns L))) ∧ Below w.heap.size w w' := by
  subst hn
  have HX := Lib.hid hx
  have HL := Lib.hid (pns_len L)
  have HOK := Lib.hid hok
  have HM := Lib.hid (IdsAt.made w)
  have HB0 := Lib.hid (below_one (Below.refl w.heap.size w) (.map #[] 0))
  clear hx hok
  have hmk := fun W => mkMap9 W (L.length : Int)
  go_enter Tryz.func140, Tryz.ntmps140
  go_wp2
  obtain ⟨w1, ew1⟩ : ∃ w1, w.alloc (.map #[] 0) = w1 := ⟨_, rfl⟩
  obtain ⟨fm, efm⟩ : ∃ fm, w.heap.size = fm := ⟨_, rfl⟩
  have HFM := Lib.hid efm
  rw [ew1, efm] at HM
  rw [ew1] at HB0
  rw [ew1, efm]
  clear ew1 efm hmk
  go_loopw [5, 11] (fun _ i wr => ∃ k : Nat, k ≤ L.length ∧ i = .int .i64 k ∧ Hid (Below w.heap.size w wr) ∧ Hid (IdsAt wr fm (idsL ((pns L).take k))) ∧ Hid (∀ x ∈ (pns L).take k, x.1 ≤ 4611686018427387903)) (fun _ i _ => L.length - (intOf i).toNat)
  case atStart => exact ⟨0, by omega, rfl, HB0, HM, Lib.hid (fun x hx => by simp at hx)⟩
  case round =>
    clear HB0 HM
    obtain ⟨k, hk, rfl, HB, HM, HI⟩ := hrel
    by_cases hlt : k < L.length
    · have e1 : decide ((k : Int) < (L.length : Int)) = true := decide_eq_true (by omega)
      obtain ⟨b, off, id', a1, c1, v, a2, c2, o, rfl, hBb, h1, h2, h3, hr1, hr2, hv⟩ := HX.out.at_ hlt
      have h1' : wr.cell? ⟨b, off + k * 3, none⟩ = some (.int .u64 id') := (HB.out.cell (p := ⟨b, off + k * 3, none⟩) hBb).trans h1
      have h2' : wr.cell? ⟨b, off + k * 3 + 1, none⟩ = some (.slice a1 v.length c1) := (HB.out.cell (p := ⟨b, off + k * 3 + 1, none⟩) hBb).trans h2
      have h3' : wr.cell? ⟨b, off + k * 3 + 2, none⟩ = some (.slice a2 o.length c2) := (HB.out.cell (p := ⟨b, off + k * 3 + 2, none⟩) hBb).trans h3
      have x1 : (0 : Int) ≤ (k : Int) := by omega
      have x2 : (k : Int) < (L.length : Int) := by omega
      have hp := pns_at hv.out
      have HT := Lib.hid (pns_tk hp)
      have hok := (HOK.out _ (List.mem_of_getElem? hp)).1
      have hok' : 0 ≤ id' ∧ id' < 18446744073709551616 := hok
      have HBX := Lib.hid (below_one (Below.refl wr.heap.size wr) (.cells #[.int .u64 id', .slice a1 v.length c1, .slice a2 o.length c2] 73))
      by_cases hbig : id' ≤ 4611686018427387903
      · have e2 : decide ((4611686018427387903 : Int) < id') = false := decide_eq_false (by omega)
        obtain ⟨w3, hput, hM3, ht3⟩ := (HM.out.below HBX.out).put hok' (by unfold idsL; rw [List.length_map, List.length_take]; omega)
        have HM3 : Hid (IdsAt w3 fm (idsL ((pns L).take (k + 1)))) := Lib.hid (by rw [HT.out]; unfold idsL at hM3 ⊢; rw [List.map_append]; exact hM3)
        have HB3 := Lib.hid ((HB.out.trans (HBX.out.mono HB.out.size)).grown ht3.grown (by rw [World.size_alloc]; have := HB.out.size; omega) (fun r hr => by injection hr with hr; rw [← hr, HFM.out]; exact Nat.le_refl _))
        have HI3 : Hid (∀ x ∈ (pns L).take (k + 1), x.1 ≤ 4611686018427387903) := fun x hx => by
          rw [HT.out] at hx
          rcases List.mem_append.1 hx with h | h
          · exact HI.out x h
          · rw [List.mem_singleton] at h; subst h; exact hbig
        clear h1 h2 h3 hr1 hr2 hv hp hok hok' hbig hM3 ht3 HM
        go_wp2
        go_roundw
        case rel => exact ⟨k + 1, by omega, by go_num, HB3, HM3, HI3⟩
        case measure => simp [intOf]; omega
      · have e2 : decide ((4611686018427387903 : Int) < id') = true := decide_eq_true (by omega)
        have HF : Hid (idsB (pns L) = false) := Lib.hid (decide_eq_false (fun q => hbig (q.1 _ (List.mem_of_getElem? hp))))
        have HB3 := Lib.hid (HB.out.trans (HBX.out.mono HB.out.size))
        clear h1 h2 h3 hr1 hr2 hv hp hok hok' hbig HM
        go_wp2
        go_ret
        exact ⟨retb HF.out.symm, HB3.out⟩
    · obtain rfl : k = L.length := by omega
      have e1 : decide ((L.length : Int) < (L.length : Int)) = false := decide_eq_false (by omega)
      obtain ⟨q, hlen, hq1, hq2⟩ := HM.out.len
      have HQ1 := Lib.hid hq1
      have HQ2 := Lib.hid hq2
      have HF : Hid (((q : Int) == (L.length : Int)) = idsB (pns L)) := Lib.hid (by
        have e3 : (pns L).take L.length = pns L := List.take_of_length_le (by rw [HL.out]; exact Nat.le_refl _)
        have h2 := HQ2.out
        have h3 := HI.out
        rw [e3] at h2 h3
        have h4 : (idsL (pns L)).length = L.length := by unfold idsL; rw [List.length_map, HL.out]
        rw [h4] at h2
        unfold idsB
        rw [Bool.eq_iff_iff, decide_eq_true_eq, beq_iff_eq]
        constructor
        · intro h; exact ⟨h3, h2.1 (by omega)⟩
        · intro h; have := h2.2 h.2; omega)
      clear hq1 hq2
      go_wp2
      go_ret
      exact ⟨retb HF.out, HB.out⟩
end Go.Proofs.YtfokejlancmahaaGreat
