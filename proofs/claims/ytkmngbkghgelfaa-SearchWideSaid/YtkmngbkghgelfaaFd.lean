/- Places by IDs in a map; the walks of placesByID and allGoWith. -/
import Derived.Test.YtkmngbkghgelfaaHm
import Derived.Test.YtkmngbkghgelfaaLb
import Derived.Test.YtkmngbkghgelfaaFb
import Derived.Maps.Own
import Derived.Maps.OwnOps
import Derived.Maps.Views
namespace Go.Proofs.Ytkmngbkghgelfaa
open Go.Shelf Go.RowKit Go.Lib
open Go.Sort hiding Below
set_option linter.unusedVariables false
set_option linter.unusedSimpArgs false
/-- Any value reads as itself. -/
def asV (v : Value) : Option (DataW Value × List MemPlace) := some (.held v, [])
/-- Block fm is a map with the keys l; where they are unlike it tells each one's place. -/
def PlAt (w : World) (fm : Nat) (l : List Int) : Prop :=
  ∃ (D : DataW Value) (q : Nat), w.ownsMap Try.prog 44 asV fm q D ∧ q ≤ l.length ∧ (∀ x, Maps.has D (.int .u64 x) = decide (x ∈ l)) ∧ Maps.size D ≤ l.length ∧ (Maps.size D = l.length ↔ l.Nodup) ∧
    (l.Nodup → ∀ (k : Nat) (x : Int), l[k]? = some x → ∀ z, D.atKey (.int .u64 x) z = .held (.int .i64 (k : Int)))
theorem PlAt.made (w : World) : PlAt (w.alloc (.map #[] 0)) w.heap.size [] := ⟨.map [], 0, World.ownsMap_made w _ _ _, Nat.le_refl _, fun x => by simp [Maps.has], Nat.le_refl _, by simp [Maps.size], fun _ k x h => by simp at h⟩
theorem PlAt.lt {w : World} {fm : Nat} {l : List Int} (h : PlAt w fm l) : fm < w.heap.size := by
  obtain ⟨D, q, h1, _⟩ := h; exact h1.lt
theorem PlAt.turn {w w' : World} {A : List Nat} {fm : Nat} {l : List Int} (h : PlAt w fm l) (k : Turn A w w') (hn : fm ∉ A) : PlAt w' fm l := by
  obtain ⟨D, q, ⟨es, clock, h1, r⟩, h2⟩ := h
  exact ⟨D, q, ⟨es, clock, (k.block fm (Array.getElem?_eq_some_iff.1 h1).1 hn).trans h1, r⟩, h2⟩
theorem PlAt.obj {w : World} {fm : Nat} {l : List Int} (h : PlAt w fm l) : ∃ es clock, w.heap[fm]? = some (.map es clock) := by
  obtain ⟨D, q, ⟨es, clock, h1, r⟩, h2⟩ := h
  exact ⟨es, clock, h1⟩
theorem PlAt.put {w : World} {fm : Nat} {l : List Int} (h : PlAt w fm l) {x : Int} (hx : (Lit.int .u64 x).wf = true) (hl : l.length ≤ 1000000) (p : Int) (hp : p = (l.length : Int)) :
    ∃ w', (Instr.mapUpdate 55 (.map (some fm)) (.int .u64 x) (.int .i64 p)).run Try.prog w = .ok () w' ∧ PlAt w' fm (l ++ [x]) ∧ Turn [fm] w w' := by
  subst hp
  obtain ⟨D, q, h1, h2, h3, h4, h5, h6⟩ := h
  obtain ⟨w', hr, ho, ht⟩ := h1.update kLaw Try.underlying55 (by unfold maxLen; omega) (val := .int .i64 (l.length : Int)) (d := .held (.int .i64 (l.length : Int))) (ps := []) (kOf hx) rfl
  have hD : Maps.IsMap D := h1.isMap
  have hsz := Maps.size_put (h1.tidy kLaw) (k := .int .u64 x) (d := (.held (.int .i64 (l.length : Int)) : DataW Value))
  have hk := kLaw.key (kOf hx)
  refine ⟨w', hr, ⟨_, _, ho, by rw [List.length_append, List.length_singleton]; omega, fun y => ?_, ?_, ?_, fun hn k y hy z => ?_⟩, Turn.of_grown ht⟩
  · by_cases e : y = x
    · subst e
      rw [Maps.has_put_same hD hk]
      simp
    · rw [Maps.has_put_other (by simpa using e), h3 y]
      simp [e]
  · rw [hsz, h3 x, List.length_append, List.length_singleton]
    split <;> omega
  · rw [hsz, h3 x, List.length_append, List.length_singleton, List.nodup_append]
    by_cases hm : x ∈ l
    · have : decide (x ∈ l) = true := decide_eq_true hm
      rw [this]
      constructor
      · intro q; simp at q; omega
      · rintro ⟨-, -, q⟩
        exact absurd rfl (q x hm x (by simp))
    · have : decide (x ∈ l) = false := decide_eq_false hm
      rw [this]
      constructor
      · intro q
        refine ⟨h5.1 (by simpa using q), by simp, fun a ha b hb e => ?_⟩
        rw [List.mem_singleton] at hb
        subst hb e
        exact hm ha
      · rintro ⟨q, -, -⟩
        have := h5.2 q
        simp; omega
  · rw [List.nodup_append] at hn
    rcases Nat.lt_or_ge k l.length with hlt | hge
    · rw [List.getElem?_append_left hlt] at hy
      have hne : y ≠ x := fun e => hn.2.2 y (List.mem_of_getElem? hy) x (by simp) e
      rw [Maps.atKey_put_other (by simpa using hne)]
      exact h6 hn.1 k y hy z
    · rw [List.getElem?_append_right hge] at hy
      have hk0 : k - l.length = 0 := by
        rcases Nat.eq_zero_or_pos (k - l.length) with h | h
        · exact h
        · rw [List.getElem?_eq_none (by simp; omega)] at hy; cases hy
      rw [hk0] at hy
      simp at hy
      obtain rfl : k = l.length := by omega
      subst hy
      exact Maps.atKey_put_same hD hk _ _
theorem PlAt.len {w : World} {fm : Nat} {l : List Int} (h : PlAt w fm l) : ∃ q : Nat, (∀ ty, (Builtin.len_ #[55] ty #[.map (some fm)]).run Try.prog w = .ok (.int .i64 (q : Int)) w) ∧ q ≤ l.length ∧ (q = l.length ↔ l.Nodup) := by
  obtain ⟨D, q, h1, h2, h3, h4, h5, h6⟩ := h
  exact ⟨_, fun ty => h1.len Try.underlying55 ty, h4, h5⟩
theorem zeroI9 (w : World) : (zeroValue 3).run Try.prog w = .ok (.int .i64 0) w := by kernel_rfl
theorem PlAt.look {w : World} {fm : Nat} {l : List Int} (h : PlAt w fm l) (hn : l.Nodup) {k : Nat} {x : Int} (hk : l[k]? = some x) (hx : (Lit.int .u64 x).wf = true) :
    (Instr.lookup 55 (.map (some fm)) (.int .u64 x) false).run Try.prog w = .ok (.int .i64 (k : Int)) w := by
  obtain ⟨D, q, h1, h2, h3, h4, h5, h6⟩ := h
  obtain ⟨v, ps, hrun, hR⟩ := h1.lookup kLaw Try.underlying55 (zeroI9 w) (zd := .held (.int .i64 0)) (zp := []) rfl (kOf hx)
  have h7 : (DataW.held v : DataW Value) = .held (.int .i64 (k : Int)) := (congrArg Prod.fst (Option.some.inj hR)).trans (h6 hn k x hk _)
  have h8 : v = .int .i64 (k : Int) := DataW.held.inj h7
  rw [hrun, h8]
theorem mkMapP (w : World) (n : Int) : (Instr.makeMap 55 (some (.int .i64 n))).run Try.prog w = .ok (.map (some w.heap.size)) (w.alloc (.map #[] 0)) := by
  simp [Instr.makeMap, run_underlying Try.underlying55, asInt, asIntOf, Result.andThen]
theorem u64_wf {x : Int} (h : 0 ≤ x ∧ x < 18446744073709551616) : (Lit.int .u64 x).wf = true := by
  have h1 : IntKind.u64.min = 0 := rfl
  have h2 : IntKind.u64.max = 18446744073709551615 := rfl
  obtain ⟨a, b⟩ := h
  have b' : x ≤ 18446744073709551615 := Int.le_of_lt_add_one b
  rw [← h2] at b'
  rw [← h1] at a
  simp only [Lit.wf, Bool.and_eq_true, decide_eq_true_eq]
  exact ⟨a, b'⟩
def idsG (G : List Pn) : List Int := G.map (·.1)
set_option maxRecDepth 100000 in
set_option maxHeartbeats 4000000 in
theorem placesByID_any (A : Option Addr) (c : Nat) (L : List Gn) (n : Nat) (hn : n = L.length) (w : World) (hx : RdG w w.heap.size A L) (hl : L.length ≤ 2048) (hok : ∀ x ∈ pns L, PnOk x) :
    Calls Try.prog 27 #[.slice A n c] w fun e w' => e = .returned (.map (some w.heap.size)) ∧ PlAt w' w.heap.size (idsG (pns L)) ∧ Below w.heap.size w w' := by
  subst hn
  have HX := Lib.hid hx
  have HL := Lib.hid (pns_len L)
  have HOK := Lib.hid hok
  have HM := Lib.hid (PlAt.made w)
  have HB0 := Lib.hid (below_one (Below.refl w.heap.size w) (.map #[] 0))
  clear hx hok
  have hmk := fun W => mkMapP W (L.length : Int)
  go_enter Try.func27, Try.ntmps27
  go_wp2
  obtain ⟨w1, ew1⟩ : ∃ w1, w.alloc (.map #[] 0) = w1 := ⟨_, rfl⟩
  obtain ⟨fm, efm⟩ : ∃ fm, w.heap.size = fm := ⟨_, rfl⟩
  have HFM := Lib.hid efm
  rw [ew1, efm] at HM
  rw [ew1] at HB0
  rw [ew1, efm]
  clear ew1 efm hmk
  go_loopw [4, 5, 11] (fun _ _ i wr => ∃ k : Nat, k ≤ L.length ∧ i = .int .i64 k ∧ Hid (Below fm w wr) ∧ Hid (PlAt wr fm (idsG ((pns L).take k)))) (fun _ _ i _ => L.length - (intOf i).toNat)
  case atStart => exact ⟨0, by omega, rfl, Lib.hid (by rw [← HFM.out]; exact HB0.out), HM⟩
  case round =>
    clear HB0 HM
    obtain ⟨k, hk, rfl, HB, HM⟩ := hrel
    by_cases hlt : k < L.length
    · have e1 : decide ((k : Int) < (L.length : Int)) = true := decide_eq_true (by omega)
      obtain ⟨b, off, id', a1, c1, v, a2, c2, o, rfl, hBb, h1, h2, h3, hr1, hr2, hv⟩ := HX.out.at_ hlt
      rw [HFM.out] at hBb
      have h1' : wr.cell? ⟨b, off + k * 3, none⟩ = some (.int .u64 id') := (HB.out.cell (p := ⟨b, off + k * 3, none⟩) hBb).trans h1
      have h2' : wr.cell? ⟨b, off + k * 3 + 1, none⟩ = some (.slice a1 v.length c1) := (HB.out.cell (p := ⟨b, off + k * 3 + 1, none⟩) hBb).trans h2
      have h3' : wr.cell? ⟨b, off + k * 3 + 2, none⟩ = some (.slice a2 o.length c2) := (HB.out.cell (p := ⟨b, off + k * 3 + 2, none⟩) hBb).trans h3
      have x1 : (0 : Int) ≤ (k : Int) := by omega
      have x2 : (k : Int) < (L.length : Int) := by omega
      have hp := pns_at hv.out
      have HT := Lib.hid (pns_take hv.out)
      have hok' := (HOK.out _ (List.mem_of_getElem? hp)).1
      have HBX := Lib.hid (below_one (Below.refl wr.heap.size wr) (.cells #[.int .u64 id', .slice a1 v.length c1, .slice a2 o.length c2] 62))
      obtain ⟨w3, hput, hM3, ht3⟩ := (HM.out.turn (Turn.of_below HBX.out) (by simp)).put (u64_wf hok') (by unfold idsG; rw [List.length_map, List.length_take]; omega) (k : Int) (by unfold idsG; rw [List.length_map, List.length_take, HL.out]; omega)
      have HM3 : Hid (PlAt w3 fm (idsG ((pns L).take (k + 1)))) := Lib.hid (by rw [HT.out]; unfold idsG at hM3 ⊢; rw [List.map_append]; exact hM3)
      have HB3 : Hid (Below fm w w3) := Lib.hid ((HB.out.trans (HBX.out.mono (by have := HB.out.size; rw [HFM.out] at this; exact this))).trans (ht3.below (by simp) (by have := HB.out.size; have := HBX.out.size; rw [HFM.out] at *; omega)))
      clear h1 h2 h3 hr1 hr2 hv hp hok' hM3 ht3 HM
      go_wp2
      go_roundw
      case rel => exact ⟨k + 1, by omega, by go_num, HB3, HM3⟩
      case measure => simp [intOf]; omega
    · obtain rfl : k = L.length := by omega
      have e1 : decide ((L.length : Int) < (L.length : Int)) = false := decide_eq_false (by omega)
      have HM3 : Hid (PlAt wr fm (idsG (pns L))) := Lib.hid (by have := HM.out; rwa [List.take_of_length_le (by rw [HL.out]; exact Nat.le_refl _)] at this)
      go_wp2
      go_ret
      rw [HFM.out]
      exact ⟨rfl, HM3.out, HB.out⟩
def goB (G : List Pn) (m : Nat) : Bool := decide (∀ x ∈ G, x.2.1.length = m) && decide (1 ≤ m ∧ m ≤ 64)
set_option maxRecDepth 100000 in
set_option maxHeartbeats 4000000 in
theorem allGoWith_any (A B : Option Addr) (c q : Nat) (L : List Gn) (n : Nat) (hn : n = L.length) (m : Nat) (w : World) (hx : RdG w w.heap.size A L) (hl : L.length ≤ 20000) :
    Calls Try.prog 28 #[.slice A n c, .slice B m q] w fun e w' => e = .returned (.bool (goB (pns L) m)) ∧ Below w.heap.size w w' := by
  subst hn
  have HX := Lib.hid hx
  have HL := Lib.hid (pns_len L)
  clear hx
  go_enter Try.func28, Try.ntmps28
  go_wp2
  go_loopw [6, 9] (fun _ i wr => ∃ k : Nat, k ≤ L.length ∧ i = .int .i64 k ∧ Hid (Below w.heap.size w wr) ∧ Hid (∀ x ∈ (pns L).take k, x.2.1.length = m)) (fun _ i _ => L.length - (intOf i).toNat)
  case atStart => exact ⟨0, by omega, rfl, Lib.hid (Below.refl _ _), Lib.hid (by simp)⟩
  case round =>
    obtain ⟨k, hk, rfl, HB, HI⟩ := hrel
    by_cases hlt : k < L.length
    · have e1 : decide ((k : Int) < (L.length : Int)) = true := decide_eq_true (by omega)
      obtain ⟨b, off, id', a1, c1, v, a2, c2, o, rfl, hBb, h1, h2, h3, hr1, hr2, hv⟩ := HX.out.at_ hlt
      have h1' : wr.cell? ⟨b, off + k * 3, none⟩ = some (.int .u64 id') := (HB.out.cell (p := ⟨b, off + k * 3, none⟩) hBb).trans h1
      have h2' : wr.cell? ⟨b, off + k * 3 + 1, none⟩ = some (.slice a1 v.length c1) := (HB.out.cell (p := ⟨b, off + k * 3 + 1, none⟩) hBb).trans h2
      have h3' : wr.cell? ⟨b, off + k * 3 + 2, none⟩ = some (.slice a2 o.length c2) := (HB.out.cell (p := ⟨b, off + k * 3 + 2, none⟩) hBb).trans h3
      have x1 : (0 : Int) ≤ (k : Int) := by omega
      have x2 : (k : Int) < (L.length : Int) := by omega
      have hp := pns_at hv.out
      have HT := Lib.hid (pns_take hv.out)
      have HP := Lib.hid (List.mem_of_getElem? hp)
      have HBX := Lib.hid (HB.out.trans ((below_one (Below.refl wr.heap.size wr) (.cells #[.int .u64 id', .slice a1 v.length c1, .slice a2 o.length c2] 62)).mono HB.out.size))
      by_cases he : v.length = m
      · have HI3 : Hid (∀ x ∈ (pns L).take (k + 1), x.2.1.length = m) := Lib.hid (fun x hx => by
          rw [HT.out] at hx
          rcases List.mem_append.1 hx with h | h
          · exact HI.out x h
          · rw [List.mem_singleton] at h; subst h; exact he)
        obtain ⟨vl, evl⟩ : ∃ vl, v.length = vl := ⟨_, rfl⟩
        rw [evl] at he h2' HBX
        subst he
        have e2 : ((vl : Int) != (vl : Int)) = false := by simp
        clear h1 h2 h3 hr1 hr2 hv hp
        go_wp2
        go_roundw
        case rel => exact ⟨k + 1, by omega, by go_num, HBX, HI3⟩
        case measure => simp [intOf]; omega
      · have HF : Hid (goB (pns L) m = false) := Lib.hid (by
          unfold goB
          rw [decide_eq_false (fun q => he (q _ HP.out))]; rfl)
        have e2 : ((v.length : Int) != (m : Int)) = true := by simp; omega
        clear h1 h2 h3 hr1 hr2 hv hp
        go_wp2
        go_ret
        exact ⟨retb HF.out.symm, HBX.out⟩
    · obtain rfl : k = L.length := by omega
      have e1 : decide ((L.length : Int) < (L.length : Int)) = false := decide_eq_false (by omega)
      have HF : Hid (goB (pns L) m = decide (1 ≤ m ∧ m ≤ 64)) := Lib.hid (by
        have h2 := HI.out
        rw [List.take_of_length_le (by rw [HL.out]; exact Nat.le_refl _)] at h2
        unfold goB
        rw [decide_eq_true h2]; rfl)
      by_cases m1 : 1 ≤ m
      · by_cases m2 : m ≤ 64
        · have e2 : decide ((1 : Int) ≤ (m : Int)) = true := decide_eq_true (by omega)
          have e3 : decide ((m : Int) ≤ 64) = true := decide_eq_true (by omega)
          have HF2 := Lib.hid (HF.out.trans (decide_eq_true ⟨m1, m2⟩))
          go_wp2
          go_ret
          exact ⟨retb HF2.out.symm, HB.out⟩
        · have e2 : decide ((1 : Int) ≤ (m : Int)) = true := decide_eq_true (by omega)
          have e3 : decide ((m : Int) ≤ 64) = false := decide_eq_false (by omega)
          have HF2 := Lib.hid (HF.out.trans (decide_eq_false (fun q => m2 q.2)))
          go_wp2
          go_ret
          exact ⟨retb HF2.out.symm, HB.out⟩
      · have e2 : decide ((1 : Int) ≤ (m : Int)) = false := decide_eq_false (by omega)
        have HF2 := Lib.hid (HF.out.trans (decide_eq_false (fun q => m1 q.1)))
        go_wp2
        go_ret
        exact ⟨retb HF2.out.symm, HB.out⟩
end Go.Proofs.Ytkmngbkghgelfaa
