/- The walks of the statements' own helpers on books of codes: TwinWords. -/
import Derived.Test.YthbimjkcpmffcaaGreatPe
import Derived.ArgAppend
import Derived.Deep.RegionLaw
import Derived.Deep.AppendLies
namespace Go.Proofs.YthbimjkcpmffcaaGreat
open Go.RowKit
set_option linter.unusedVariables false
/-- 'append' of one element into a block that is known whole, where there is room: as a step of a drawn region. -/
theorem step_append_slot {P : Program} {ops : Array Oper} {o : Oper} {a : Act} {w : World} {K : Act → World → Prop} {Q : Exit → Act → World → Prop} {E : Prop} (hgd : o.guard = none) (s x : Operand) (t : TypeId)
    (ho : o.op = .call { callee := .builtin .append, args := #[s, x], argTypes := #[t, t] })
    (e : TypeId) (i : TypeInfo) (ht : P.underlying t = some (.slice e)) (hi : P.info? e = some i) (hsize : i.size = 1)
    (g n cap : Nat) (cs : Array Value) (hW : Whole w g e cs) (hs : a.eval s = .slice (some ⟨g, 0, none⟩) n cap) (hn : n < cs.size) (hcap : n + 1 ≤ cap)
    (ad : Addr) (hx : a.eval x = .slice (some ad) 1 1) (u : Value) (hu : ∀ j v, [u][j]? = some v → w.cell? (ad.add j) = some v) (h1 : u.oneCell' = true)
    (h : K (a.put o.dst (.slice (some ⟨g, 0, none⟩) (n + 1) cap)) (w.setCell ⟨g, n, none⟩ u)) :
    if Region.wanted o (yielded ops a.tmps) = true then Oper.wp P o a w K Q else E := by
  have hw : Region.wanted o (yielded ops a.tmps) = true := by simp [Region.wanted, hgd]
  rw [if_pos hw]
  have hrun := run_append_room_cells (P := P) (w := w) t o.type e i ht hi g 0 n cap ad 1 1 [u] (by simp [hsize]) hu (fun v hv => by rw [List.mem_singleton] at hv; subst hv; exact h1) hcap (fun j hj => by
    obtain rfl : j = 0 := by simpa using hj
    rw [hW.cell, hsize, Nat.zero_add, Nat.add_zero, Nat.mul_one, Array.getElem?_eq_getElem hn]; rfl) (fun j hj => hW.frozen _)
  have e1 : w.setCells g (0 + n * i.size) [u] = w.setCell ⟨g, n, none⟩ u := by rw [hsize, Nat.zero_add, Nat.mul_one]; rfl
  rw [e1] at hrun
  unfold Oper.wp
  simp [execOp, ho, resolve, invoke, builtin, hs, hx, hrun, Result.andThen]
  exact h
/-- The cells of a row of lists of vectors with r places left. -/
def cellsR (T : List Pc) (r : Nat) : Array Value := (cellsP T ++ List.replicate r (Value.slice none 0 0)).toArray
theorem cellsR_at {T : List Pc} {r i : Nat} {a : Option Addr} {c : Nat} {v : List Vc} (h : T[i]? = some (a, c, v)) : (cellsR T r)[i]? = some (.slice a v.length c) := by
  have hl : i < (cellsP T).length := by rw [cellsP_len]; exact (List.getElem?_eq_some_iff.1 h).1
  unfold cellsR
  rw [List.getElem?_toArray, List.getElem?_append_left hl]
  exact cellsP_at h
theorem cellsR_free {T : List Pc} {r i : Nat} (h : i < r) : (cellsR T r)[T.length + i]? = some (.slice none 0 0) := by
  unfold cellsR
  rw [List.getElem?_toArray, List.getElem?_append_right (by rw [cellsP_len]; omega), cellsP_len, show T.length + i - T.length = i by omega, List.getElem?_replicate, if_pos h]
theorem cellsR_set (T : List Pc) (r : Nat) (x : Pc) : (cellsR T (r + 1)).setIfInBounds T.length (.slice x.1 x.2.2.length x.2.1) = cellsR (T ++ [x]) r := by
  unfold cellsR
  apply Array.ext'
  simp only [Array.toList_setIfInBounds]
  rw [List.set_append_right _ _ (by rw [cellsP_len]; exact Nat.le_refl _), cellsP_len, Nat.sub_self, List.replicate_succ, List.set_cons_zero, ← cellsP_snoc]
  simp
theorem cellsR_made (n : Nat) : madeCells #[Value.slice none 0 0] n = cellsR [] n := by
  apply Array.ext'
  apply List.ext_getElem
  · simp [madeCells, cellsR, cellsP]
  · intro i h1 h2
    simp [madeCells, cellsR, cellsP, Nat.mod_one]
theorem cellsR_size (T : List Pc) (r : Nat) : (cellsR T r).size = T.length + r := by simp [cellsR, cellsP]
theorem Tryz.info62v : (Tryz.prog.info? 62).map (fun i => (i.zero, i.size, i.bytes)) = some (some (.slice none 0 0), 1, 24) := by kernel_rfl
def vb (x : Vc) : Option Nat := (Value.slice x.1 x.2.2.length x.2.1).ownBlock
/-- One more list, whose memory lies from lim on, where that of the others lies below. -/
theorem ApartP.snoc {L : List Pc} {x : Pc} (h : ApartP L) (lim : Nat) (h1 : ∀ y ∈ L, (∀ g, pblk y = some g → g < lim) ∧ ∀ v ∈ y.2.2, ∀ g, vb v = some g → g < lim)
    (h2 : (∀ g, pblk x = some g → lim ≤ g) ∧ ∀ v ∈ x.2.2, ∀ g, vb v = some g → lim ≤ g) (h3 : x.2.2.Pairwise fun x y => vb x = none ∨ vb x ≠ vb y) : ApartP (L ++ [x]) := by
  have ne : ∀ (o p : Option Nat), (∀ g, o = some g → g < lim) → (∀ g, p = some g → lim ≤ g) → o = none ∨ o ≠ p := fun o p ho hp => by
    cases o with
    | none => exact .inl rfl
    | some g => exact .inr (fun e => by have := ho g rfl; have := hp g e.symm; omega)
  refine ⟨List.pairwise_append.2 ⟨h.rows, by simp, fun y hy z hz => ?_⟩, ?_⟩
  · rw [List.mem_singleton] at hz
    subst hz
    exact ne _ _ (h1 y hy).1 h2.1
  · rw [List.flatMap_append]
    refine List.pairwise_append.2 ⟨h.vecs, by simpa [vb] using h3, fun u hu v hv => ?_⟩
    obtain ⟨y, hy, hu⟩ := List.mem_flatMap.1 hu
    have hv' : v ∈ x.2.2 := by simpa using hv
    exact ne _ _ ((h1 y hy).2 u hu) (h2.2 v hv')
/-- A twin of a list of lists of vectors. -/
structure TwinP (w : World) (base g r : Nat) (T : List Pc) : Prop where
  row : Whole w g 62 (cellsR T r)
  twin : ∀ x ∈ T, x.2.1 = x.2.2.length + 2 ∧ ∃ b, x.1 = some ⟨b, 0, none⟩ ∧ base ≤ b ∧ TwinV w base b 2 x.2.2
  apart : ApartP T
theorem TwinP.below {w w' : World} {base g r : Nat} {T : List Pc} (h : TwinP w base g r T) (hb : Below w.heap.size w w') : TwinP w' base g r T := ⟨h.row.below hb h.row.lt, fun x hx => by
  obtain ⟨h1, b, h2, h3, h4⟩ := h.twin x hx
  exact ⟨h1, b, h2, h3, h4.below hb⟩, h.apart⟩
theorem TwinV.base {w : World} {b b' g r : Nat} {T : List Vc} (h : TwinV w b g r T) (hb : b' ≤ b) : TwinV w b' g r T := ⟨h.row, fun x hx => (h.twin x hx).base hb, h.apart⟩
theorem TwinV.far {w : World} {base g r b : Nat} {T : List Vc} {t : TypeId} {cs : Array Value} (h : TwinV w base g r T) (hw : Whole w b t cs) (h1 : t ≠ 25) (h2 : t ≠ 74) (i : Nat) (u : Value) : TwinV (w.setCell ⟨b, i, none⟩ u) base g r T :=
  ⟨h.row.far (fun e => by
    have e : g = b := e
    subst e
    have h3 := h.row
    unfold Whole at h3 hw
    rw [h3] at hw
    injection hw with hw
    injection hw with _ hT
    exact h1 hT.symm) u, fun x hx => ⟨(h.twin x hx).1, (h.twin x hx).2.1, own_far (h.twin x hx).2.2 hw h2 i u⟩, h.apart⟩
theorem TwinV.alloc {w : World} {base g r : Nat} {T : List Vc} (h : TwinV w base g r T) (o : Obj) : TwinV (w.alloc o) base g r T := h.below ((Below.refl _ _).alloc (Nat.le_refl _) o)
theorem TwinV.vb_lt {w : World} {base g r : Nat} {T : List Vc} (h : TwinV w base g r T) : ∀ v ∈ T, ∀ b, vb v = some b → base ≤ b ∧ b < w.heap.size := fun v hv b hb => (h.twin v hv).own.lt b hb
theorem TwinV.vbs {w : World} {base g r : Nat} {T : List Vc} (h : TwinV w base g r T) : T.Pairwise fun x y => vb x = none ∨ vb x ≠ vb y := by
  refine h.apart.imp_of_mem (fun {x y} hx hy hne => .inr fun e => hne ?_)
  obtain ⟨_, ⟨b, h1⟩, _⟩ := h.twin x hx
  obtain ⟨_, ⟨b', h3⟩, _⟩ := h.twin y hy
  unfold vb at e
  rw [h1, h3] at e ⊢
  have e : b = b' := by simpa [Value.ownBlock] using e
  rw [e]
theorem TwinP.far {w : World} {base g r b : Nat} {T : List Pc} {t : TypeId} {cs : Array Value} (h : TwinP w base g r T) (hw : Whole w b t cs) (h0 : t ≠ 62) (h1 : t ≠ 25) (h2 : t ≠ 74) (i : Nat) (u : Value) : TwinP (w.setCell ⟨b, i, none⟩ u) base g r T :=
  ⟨h.row.far (fun e => by
    have e : g = b := e
    subst e
    have h3 := h.row
    unfold Whole at h3 hw
    rw [h3] at hw
    injection hw with hw
    injection hw with _ hT
    exact h0 hT.symm) u, fun x hx => by
      obtain ⟨q1, b', q2, q3, q4⟩ := h.twin x hx
      exact ⟨q1, b', q2, q3, q4.far hw h1 h2 i u⟩, h.apart⟩
theorem TwinP.rd {w : World} {base g r : Nat} {T : List Pc} (h : TwinP w base g r T) : RdP w w.heap.size (some ⟨g, 0, none⟩) T := fun hl => by
  refine ⟨g, 0, rfl, h.row.lt, fun i hi => ⟨?_, ?_⟩⟩
  · rw [Nat.zero_add, h.row.cell i]
    have e : T[i]? = some ((T[i]?.getD pNil).1, (T[i]?.getD pNil).2.1, (T[i]?.getD pNil).2.2) := by simp [List.getElem?_eq_getElem hi]
    exact cellsR_at e
  · obtain ⟨_, b, h2, _, h4⟩ := h.twin T[i] (List.getElem_mem hi)
    have := h4.rd
    rw [← h2] at this
    simpa [List.getElem?_eq_getElem hi] using this
/-- What stands between two rounds of making a twin. -/
structure TwSt (w wr : World) (P : Int) (A : Option Addr) (c n g o : Nat) (T : List Pc) (r : Nat) : Prop where
  tw : TwinP wr w.heap.size g r T
  arg : Whole wr w.heap.size 24 #[.int .i64 P, .slice A n c]
  res : Whole wr (w.heap.size + 1) 24 #[.int .i64 0, .slice none 0 0]
  out : Whole wr o 24 #[.int .i64 P, .slice (some ⟨g, 0, none⟩) T.length (n + 2)]
  bel : Below w.heap.size w wr
  le : w.heap.size ≤ g ∧ w.heap.size + 1 < o ∧ g ≠ o
/-- What stands in such a state behind one more list. -/
theorem TwSt.next {w wr w1 : World} {P : Int} {A : Option Addr} {c n g o r : Nat} {T : List Pc} {M : List Vc} {w3 : World} (h : TwSt w wr P A c n g o T (r + 1)) (hb : Below wr.heap.size wr w1) (hT : TwinV w1 wr.heap.size wr.heap.size 2 M) (X : Obj) (m : Nat) (hm : M.length = m)
    (h3 : w3 = ((w1.alloc X).setCell ⟨g, T.length, none⟩ (.slice (some ⟨wr.heap.size, 0, none⟩) m (m + 2))).setCell ⟨o, 1, none⟩ (.slice (some ⟨g, 0, none⟩) (T.length + 1) (n + 2))) :
    TwSt w w3 P A c n g o (T ++ [(some ⟨wr.heap.size, 0, none⟩, M.length + 2, M)]) r := by
  subst h3
  subst hm
  have hgl := h.tw.row.lt
  have hol := h.out.lt
  have hz := hb.size
  have bw := h.bel.size
  have xl := h.arg.lt
  have zl := h.res.lt
  obtain ⟨hle, hlo, hne⟩ := h.le
  have T1 := (h.tw.below hb)
  have R1 := T1.row.alloc X
  have R2 := R1.set T.length (.slice (some ⟨wr.heap.size, 0, none⟩) M.length (M.length + 2))
  rw [cellsR_set T r (some ⟨wr.heap.size, 0, none⟩, M.length + 2, M)] at R2
  have O1 := ((h.out.below hb hol).alloc X).far (a := ⟨g, T.length, none⟩) (fun e => hne e.symm) (.slice (some ⟨wr.heap.size, 0, none⟩) M.length (M.length + 2))
  have fT : ∀ {b : Nat} {S : List Vc} {bs : Nat}, TwinV w1 bs b 2 S → TwinV (((w1.alloc X).setCell ⟨g, T.length, none⟩ (.slice (some ⟨wr.heap.size, 0, none⟩) M.length (M.length + 2))).setCell ⟨o, 1, none⟩ (.slice (some ⟨g, 0, none⟩) (T.length + 1) (n + 2))) bs b 2 S := fun q =>
    ((q.alloc X).far R1 (by decide) (by decide) _ _).far O1 (by decide) (by decide) _ _
  refine ⟨⟨R2.far (a := ⟨o, 1, none⟩) hne _, fun y hy => ?_, h.tw.apart.snoc wr.heap.size (fun y hy => ?_) ⟨fun q hq => ?_, fun v hv q hq => (hT.vb_lt v hv q hq).1⟩ hT.vbs⟩, ?_, ?_, ?_, ?_, h.le⟩
  · rcases List.mem_append.1 hy with h1 | h1
    · obtain ⟨q1, b, q2, q3, q4⟩ := T1.twin y h1
      exact ⟨q1, b, q2, q3, fT q4⟩
    · rw [List.mem_singleton] at h1
      subst h1
      exact ⟨rfl, _, rfl, bw, fT (hT.base bw)⟩
  · obtain ⟨q1, b, q2, q3, q4⟩ := h.tw.twin y hy
    refine ⟨fun q hq => ?_, fun v hv q hq => (q4.vb_lt v hv q hq).2⟩
    unfold pblk at hq
    rw [q2] at hq
    have : b = q := by simpa [Value.ownBlock] using hq
    have := q4.row.lt
    omega
  · have : wr.heap.size = q := by simpa [pblk, Value.ownBlock] using hq
    omega
  · exact (((h.arg.below hb xl).alloc X).far (a := ⟨g, T.length, none⟩) (fun e => by
      have e : w.heap.size = g := e
      have h4 := h.tw.row
      have h5 := h.arg
      rw [e] at h5
      unfold Whole at h4 h5
      rw [h4] at h5
      injection h5 with h5
      injection h5 with _ hT
      exact absurd hT (by decide)) _).far (a := ⟨o, 1, none⟩) (show w.heap.size ≠ o by omega) _
  · exact (((h.res.below hb zl).alloc X).far (a := ⟨g, T.length, none⟩) (fun e => by
      have e : w.heap.size + 1 = g := e
      have h4 := h.tw.row
      have h5 := h.res
      rw [e] at h5
      unfold Whole at h4 h5
      rw [h4] at h5
      injection h5 with h5
      injection h5 with _ hT
      exact absurd hT (by decide)) _).far (a := ⟨o, 1, none⟩) (show w.heap.size + 1 ≠ o by omega) _
  · have := O1.set 1 (.slice (some ⟨g, 0, none⟩) (T.length + 1) (n + 2))
    simpa using this
  · exact (((h.bel.trans (hb.mono bw)).alloc (by omega) X).setCell (p := ⟨g, T.length, none⟩) hle _).setCell (p := ⟨o, 1, none⟩) (by show w.heap.size ≤ o; omega) _
set_option maxRecDepth 100000 in
set_option maxHeartbeats 2000000 in
theorem twinWords_any (P : Int) (A : Option Addr) (c : Nat) (L : List Pc) (w : World) (hx : PGiven w A L) (hs : PSmall L) :
    Calls Tryz.prog 7 #[.agg #[.int .i64 P, .slice A L.length c]] w fun e w' => ∃ g T, e = .returned (.agg #[.int .i64 P, .slice (some ⟨g, 0, none⟩) L.length (L.length + 2)]) ∧ w.heap.size ≤ g ∧ TwinP w' w.heap.size g 2 T ∧ words T = words L ∧ T.length = L.length ∧ Below w.heap.size w w' := by
  have hlen := hs.len
  have HX := Lib.hid hx
  have HS := Lib.hid hs
  have HL := Lib.hid (words_len L)
  have W0 : Whole (w.alloc (.cells #[.int .i64 P, .slice A L.length c] 24)) w.heap.size 24 #[.int .i64 P, .slice A L.length c] := Whole.new w _ _
  have r0 : (w.alloc (.cells #[.int .i64 P, .slice A L.length c] 24)).cell? ⟨w.heap.size, 0, none⟩ = some (.int .i64 P) := W0.cell 0
  have r1 : (w.alloc (.cells #[.int .i64 P, .slice A L.length c] 24)).cell? ⟨w.heap.size, 1, none⟩ = some (.slice A L.length c) := W0.cell 1
  have hmk : ∀ W : World, (Instr.makeSlice 22 (.int .i64 0) (.int .i64 ((L.length : Int) + 2))).run Tryz.prog W = .ok (.slice (some ⟨W.heap.size, 0, none⟩) 0 (L.length + 2)) (W.alloc (.cells (cellsR [] (L.length + 2)) 62)) := fun W => by
    have := run_make_room (P := Tryz.prog) 22 62 (.slice none 0 0) 24 Tryz.underlying22 Tryz.info62v (by rfl) .i64 .i64 (L.length + 2) (by omega) (by omega) W
    rw [cellsR_made] at this
    exact this
  obtain ⟨i0, hi, hz0, hz1, hz2⟩ := info_parts Tryz.info62v
  have W1 := (W0.alloc (.cells #[.int .i64 0, .slice none 0 0] 24))
  have Z1 : Whole ((w.alloc (.cells #[.int .i64 P, .slice A L.length c] 24)).alloc (.cells #[.int .i64 0, .slice none 0 0] 24)) (w.heap.size + 1) 24 #[.int .i64 0, .slice none 0 0] := by
    have := Whole.new (w.alloc (.cells #[.int .i64 P, .slice A L.length c] 24)) 24 #[.int .i64 0, .slice none 0 0]
    simpa using this
  have B1 : Below w.heap.size w ((w.alloc (.cells #[.int .i64 P, .slice A L.length c] 24)).alloc (.cells #[.int .i64 0, .slice none 0 0] 24)) := below_one (below_one (Below.refl _ _) _) _
  have S2 : ((w.alloc (.cells #[.int .i64 P, .slice A L.length c] 24)).alloc (.cells #[.int .i64 0, .slice none 0 0] 24)).heap.size = w.heap.size + 1 + 1 := by simp
  obtain ⟨w2, e2⟩ : ∃ w2, (w.alloc (.cells #[.int .i64 P, .slice A L.length c] 24)).alloc (.cells #[.int .i64 0, .slice none 0 0] 24) = w2 := ⟨_, rfl⟩
  rw [e2] at W1 Z1 B1 S2
  have r0 : w2.cell? ⟨w.heap.size, 0, none⟩ = some (.int .i64 P) := W1.cell 0
  have r1 : w2.cell? ⟨w.heap.size, 1, none⟩ = some (.slice A L.length c) := W1.cell 1
  have ST1 : Hid (TwSt w (((w2.alloc (.cells (cellsR [] (L.length + 2)) 62)).alloc (.cells #[.int .i64 P, .slice (some ⟨w2.heap.size, 0, none⟩) 0 (L.length + 2)] 24)).drew) P A c L.length (w.heap.size + 1 + 1) (w.heap.size + 1 + 1 + 1) [] (L.length + 2)) := Lib.hid (by
    have a1 := Whole.new w2 62 (cellsR [] (L.length + 2))
    have a2 := Whole.new (w2.alloc (.cells (cellsR [] (L.length + 2)) 62)) 24 #[.int .i64 P, .slice (some ⟨w2.heap.size, 0, none⟩) 0 (L.length + 2)]
    have z2 : (w2.alloc (.cells (cellsR [] (L.length + 2)) 62)).heap.size = w.heap.size + 1 + 1 + 1 := by simp [S2]
    have a1' := a1.alloc (.cells #[.int .i64 P, .slice (some ⟨w2.heap.size, 0, none⟩) 0 (L.length + 2)] 24)
    rw [z2] at a2
    have bd : Below w.heap.size w (((w2.alloc (.cells (cellsR [] (L.length + 2)) 62)).alloc (.cells #[.int .i64 P, .slice (some ⟨w2.heap.size, 0, none⟩) 0 (L.length + 2)] 24)).drew) := (below_one (below_one B1 _) _).drew
    have q1 := (W1.alloc (.cells (cellsR [] (L.length + 2)) 62)).alloc (.cells #[.int .i64 P, .slice (some ⟨w2.heap.size, 0, none⟩) 0 (L.length + 2)] 24)
    have q2 := (Z1.alloc (.cells (cellsR [] (L.length + 2)) 62)).alloc (.cells #[.int .i64 P, .slice (some ⟨w2.heap.size, 0, none⟩) 0 (L.length + 2)] 24)
    rw [S2] at a1' a2 q1 q2 bd ⊢
    exact ⟨⟨a1', fun x hx => by simp at hx, ApartP.nil⟩, q1, q2, a2, bd, by omega, by omega, by omega⟩)
  have ST2 : Hid (TwSt w (((w2.alloc (.cells #[.int .i64 P, .slice (some ⟨w2.heap.size + 1, 0, none⟩) 0 (L.length + 2)] 24)).alloc (.cells (cellsR [] (L.length + 2)) 62)).drew) P A c L.length (w.heap.size + 1 + 1 + 1) (w.heap.size + 1 + 1) [] (L.length + 2)) := Lib.hid (by
    have a1 := Whole.new w2 24 #[.int .i64 P, .slice (some ⟨w2.heap.size + 1, 0, none⟩) 0 (L.length + 2)]
    have a2 := Whole.new (w2.alloc (.cells #[.int .i64 P, .slice (some ⟨w2.heap.size + 1, 0, none⟩) 0 (L.length + 2)] 24)) 62 (cellsR [] (L.length + 2))
    have z2 : (w2.alloc (.cells #[.int .i64 P, .slice (some ⟨w2.heap.size + 1, 0, none⟩) 0 (L.length + 2)] 24)).heap.size = w.heap.size + 1 + 1 + 1 := by simp [S2]
    have a1' := a1.alloc (.cells (cellsR [] (L.length + 2)) 62)
    rw [z2] at a2
    have bd : Below w.heap.size w (((w2.alloc (.cells #[.int .i64 P, .slice (some ⟨w2.heap.size + 1, 0, none⟩) 0 (L.length + 2)] 24)).alloc (.cells (cellsR [] (L.length + 2)) 62)).drew) := (below_one (below_one B1 _) _).drew
    have q1 := (W1.alloc (.cells #[.int .i64 P, .slice (some ⟨w2.heap.size + 1, 0, none⟩) 0 (L.length + 2)] 24)).alloc (.cells (cellsR [] (L.length + 2)) 62)
    have q2 := (Z1.alloc (.cells #[.int .i64 P, .slice (some ⟨w2.heap.size + 1, 0, none⟩) 0 (L.length + 2)] 24)).alloc (.cells (cellsR [] (L.length + 2)) 62)
    rw [S2] at a1' a2 q1 q2 bd ⊢
    exact ⟨⟨a2, fun x hx => by simp at hx, ApartP.nil⟩, q1, q2, a1', bd, by omega, by omega, by omega⟩)
  rw [S2] at ST1 ST2
  rw [← e2] at ST1 ST2 r0 r1
  clear W0 W1 Z1 B1 S2 e2 hx hs
  go_enter Tryz.func7, Tryz.ntmps7
  go_wp2
  go_region
  all_goals
    clear hmk r0 r1
    first
      | (obtain ⟨w1, e1⟩ : ∃ w1, (((((w.alloc (.cells #[.int .i64 P, .slice A L.length c] 24)).alloc (.cells #[.int .i64 0, .slice none 0 0] 24)).alloc (.cells (cellsR [] (L.length + 2)) 62)).alloc (.cells #[.int .i64 P, .slice (some ⟨w.heap.size + 1 + 1, 0, none⟩) 0 (L.length + 2)] 24)).drew) = w1 := ⟨_, rfl⟩
         rw [e1] at ST1 ⊢
         obtain ⟨o, eo⟩ : ∃ o, w.heap.size + 1 + 1 + 1 = o := ⟨_, rfl⟩
         rw [eo] at ST1 ⊢
         obtain ⟨g, eg⟩ : ∃ g, w.heap.size + 1 + 1 = g := ⟨_, rfl⟩
         rw [eg] at ST1 ⊢
         have ST := ST1
         clear ST1 ST2 e1 eo eg)
      | (obtain ⟨w1, e1⟩ : ∃ w1, (((((w.alloc (.cells #[.int .i64 P, .slice A L.length c] 24)).alloc (.cells #[.int .i64 0, .slice none 0 0] 24)).alloc (.cells #[.int .i64 P, .slice (some ⟨w.heap.size + 1 + 1 + 1, 0, none⟩) 0 (L.length + 2)] 24)).alloc (.cells (cellsR [] (L.length + 2)) 62)).drew) = w1 := ⟨_, rfl⟩
         rw [e1] at ST2 ⊢
         obtain ⟨g, eg⟩ : ∃ g, w.heap.size + 1 + 1 + 1 = g := ⟨_, rfl⟩
         rw [eg] at ST2 ⊢
         obtain ⟨o, eo⟩ : ∃ o, w.heap.size + 1 + 1 = o := ⟨_, rfl⟩
         rw [eo] at ST2 ⊢
         have ST := ST2
         clear ST1 ST2 e1 eo eg)
    go_wp2
    go_loopw [4] (fun i wr => ∃ k : Nat, k ≤ L.length ∧ i = .int .i64 k ∧ ∃ T, T.length = k ∧ Hid (TwSt w wr P A c L.length g o T (L.length + 2 - k)) ∧ Hid (words T = (words L).take k)) (fun i _ => L.length - (intOf i).toNat)
    case atStart => exact ⟨0, by omega, rfl, [], rfl, ST, rfl⟩
    case round =>
      clear ST
      obtain ⟨k, hk, rfl, T, rfl, hT, hR⟩ := hrel
      have r1 : wr.cell? ⟨w.heap.size, 1, none⟩ = some (.slice A L.length c) := hT.out.arg.cell 1
      by_cases hlt : T.length < L.length
      · have o1 : wr.cell? ⟨o, 1, none⟩ = some (.slice (some ⟨g, 0, none⟩) T.length (L.length + 2)) := hT.out.out.cell 1
        have of1 : wr.frozen? ⟨o, 1, none⟩ = false := hT.out.out.frozen 1
        obtain ⟨b, off, a1, c1, M, hA, hBk, hck, hG, hRo, hv1⟩ := (HX.out.below hT.out.bel).at_ hlt
        rw [hA] at r1
        have SM := Lib.hid (HS.out.at_ (List.mem_of_getElem? hv1.out))
        have TV := Lib.hid (words_take hv1.out)
        have TW : Hid (∀ W, Below wr.heap.size wr W → W.heap.size = wr.heap.size → Calls Tryz.prog 25 #[.slice a1 M.length c1] W fun e w' => e = .returned (.slice (some ⟨wr.heap.size, 0, none⟩) M.length (M.length + 2)) ∧ (∃ T, TwinV w' wr.heap.size wr.heap.size 2 T ∧ vecs T = vecs M ∧ T.length = M.length) ∧ Below wr.heap.size wr w') := Lib.hid (fun W hb hs => (twin_arg (c := c1) (hG.below hb) SM.out).mono fun e w' h => by
          rw [hs] at h
          exact ⟨h.1, h.2.1, hb.trans h.2.2⟩)
        have hol := hT.out.out.lt
        have hgl := hT.out.tw.row.lt
        have hne := hT.out.le.2.2
        obtain ⟨r2, hr2⟩ : ∃ r2, L.length + 2 - T.length = r2 + 1 := ⟨L.length + 1 - T.length, by omega⟩
        have hr3 : L.length + 2 - (T.length + 1) = r2 := by omega
        rw [hr2] at hT
        have HR3 := Lib.hid hr3
        have HA := Lib.hid hA
        clear hr2 hr3 hG hRo hv1 hA
        go_wp2
        go_region_law (first
          | (go_simp; go_at_call 25; refine (TW.out _ (by first | exact Below.refl _ _ | exact (Below.refl _ _).drew) (by rfl)).mono ?_; rintro e w3 ⟨rfl, ⟨N, hN, hNv, hNl⟩, hb3⟩; have o3 := (hb3.cell (p := ⟨o, 1, none⟩) hol).trans o1; have hW3 := (hT.out.tw.row.below hb3 hgl).alloc (.cells #[.slice (some ⟨wr.heap.size, 0, none⟩) M.length (M.length + 2)] 62); have hO3 := (hT.out.out.below hb3 hol).alloc (.cells #[.slice (some ⟨wr.heap.size, 0, none⟩) M.length (M.length + 2)] 62); have o5 := hO3.cell 1)
          | (refine step_append_slot (by rfl) (.tmp 21) (.tmp 28) 22 (by rfl) 62 i0 Tryz.underlying22 hi hz1 g T.length (L.length + 2) _ hW3 (by rfl) (by rw [cellsR_size]; omega) (by omega) ⟨w3.heap.size, 0, none⟩ (by rfl) (.slice (some ⟨wr.heap.size, 0, none⟩) M.length (M.length + 2)) (cell_one_new _ _ _) (by simp [Value.oneCell']) ?_; have hO4 := hO3.far (a := ⟨g, T.length, none⟩) (fun e => hne e.symm) (.slice (some ⟨wr.heap.size, 0, none⟩) M.length (M.length + 2)); have e1 := hO4.cell 1; have e2 := hO4.frozen 1))
        all_goals
          have S3 := Lib.hid (hT.out.next hb3 hN (.cells #[.slice (some ⟨wr.heap.size, 0, none⟩) M.length (M.length + 2)] 62) M.length hNl rfl)
          have HN := Lib.hid hNv
          clear hb3 hN hNv hNl o3 hW3 hO3 o5 hO4 e1 e2 TW
          go_wp2
          go_roundw
          case rel => exact ⟨T.length + 1, by omega, by go_num, T ++ [(some ⟨wr.heap.size, 0, none⟩, N.length + 2, N)], by simp, by rw [HR3.out]; exact S3, Lib.hid (by rw [words_snoc, hR.out, TV.out, HN.out])⟩
          case measure => simp [intOf]; omega
      · have e : T.length = L.length := by omega
        have hR2 := hR.out
        rw [e, List.take_of_length_le (by rw [HL.out]; exact Nat.le_refl _)] at hR2
        have HR2 := Lib.hid hR2
        have hO := hT.out.out
        have hZ := hT.out.res
        have hne : o ≠ w.heap.size + 1 := by have := hT.out.le.2.1; omega
        rw [show L.length + 2 - T.length = 2 by omega] at hT
        rw [e] at hO
        have o0 := hO.cell 0
        have o1 := hO.cell 1
        have z0 := hZ.cell 0
        have z1 := hZ.cell 1
        have y0 := hZ.frozen 0
        have y1 := hZ.frozen 1
        have Z3 := (hZ.set 0 (.int .i64 P)).set 1 (.slice (some ⟨g, 0, none⟩) L.length (L.length + 2))
        have x0 := Z3.cell 0
        have x1 := Z3.cell 1
        have HE := Lib.hid e
        have TE := Lib.hid ((hT.out.tw.far hZ (by decide) (by decide) (by decide) 0 (.int .i64 P)).far (hZ.set 0 (.int .i64 P)) (by decide) (by decide) (by decide) 1 (.slice (some ⟨g, 0, none⟩) L.length (L.length + 2)))
        have BE := Lib.hid ((hT.out.bel.setCell (p := ⟨w.heap.size + 1, 0, none⟩) (by show w.heap.size ≤ w.heap.size + 1; omega) (.int .i64 P)).setCell (p := ⟨w.heap.size + 1, 1, none⟩) (by show w.heap.size ≤ w.heap.size + 1; omega) (.slice (some ⟨g, 0, none⟩) L.length (L.length + 2)))
        have GE := Lib.hid hT.out.le.1
        rw [e]
        clear hR hR2 hlt hk e hO hZ
        go_wp2
        refine bodyPost_ret (by simp [results, Tryz.results7, go_sem, x0, x1]; try rfl) rfl ?_
        exact ⟨g, T, rfl, GE.out, TE.out, HR2.out, HE.out, BE.out⟩
end Go.Proofs.YthbimjkcpmffcaaGreat
