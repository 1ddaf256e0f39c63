/- Words: a map with int keys that the call made, as a function from its keys to values; lists that are gathered in such a map. Over any program but for the element type's number. -/
import Derived.Maps.Own
import Derived.Maps.OwnOps
import Derived.Maps.AppendAt
import Derived.Maps.Views
import Derived.Test.YtcakmcegcbameaaMb
namespace Go.Proofs.Ytcakmcegcbameaa
open Go.RowKit Go.Maps
set_option linter.unusedVariables false
/-- Any value reads as itself. -/
def asIs (v : Value) : Option (DataW Value × List MemPlace) := some (.held v, [])
/-- Block b is a map of at most n entries that tells sv k at each key k. -/
def MapF (P : Program) (w : World) (kt : TypeId) (b n : Nat) (z : Value) (sv : Nat → Value) : Prop :=
  ∃ D : DataW Value, w.ownsMap P kt asIs b n D ∧ ∀ k : Nat, D.atKey (.int .i64 k) (.held z) = .held (sv k)
theorem MapF.made (P : Program) (w : World) (kt : TypeId) (z : Value) : MapF P (w.alloc (.map #[] 0)) kt w.heap.size 0 z (fun _ => z) := ⟨.map [], World.ownsMap_made _ _ _ _, fun k => rfl⟩
theorem MapF.mono {P : Program} {w : World} {kt : TypeId} {b n n' : Nat} {z : Value} {sv : Nat → Value} (h : MapF P w kt b n z sv) (hn : n ≤ n') : MapF P w kt b n' z sv := by
  obtain ⟨D, ho, hf⟩ := h; exact ⟨D, ho.mono hn, hf⟩
theorem MapF.lt {P : Program} {w : World} {kt : TypeId} {b n : Nat} {z : Value} {sv : Nat → Value} (h : MapF P w kt b n z sv) : b < w.heap.size := by
  obtain ⟨D, ho, hf⟩ := h; exact ho.lt
theorem MapF.kept {P : Program} {w w' : World} {kt : TypeId} {b n : Nat} {z : Value} {sv : Nat → Value} {row : Option Nat} (h : MapF P w kt b n z sv) (hg : w.grownBy w' row) (hne : some b ≠ row) : MapF P w' kt b n z sv := by
  obtain ⟨D, ho, hf⟩ := h; exact ⟨D, ho.kept hg hne, hf⟩
theorem grown_of_below {w w' : World} (h : Below w.heap.size w w') : w.grownBy w' none := ⟨h.os, h.tape, h.output, h.size, fun k hk _ => h.block k hk⟩
theorem i64_wf {k : Nat} (h : k < 9223372036854775808) : (Lit.int .i64 k).wf = true := by
  have h1 : IntKind.i64.min = -9223372036854775808 := rfl
  have h2 : IntKind.i64.max = 9223372036854775807 := rfl
  simp only [Lit.wf, Bool.and_eq_true, decide_eq_true_eq]
  omega
theorem MapF.look {P : Program} {w : World} {kt t e : TypeId} {b n : Nat} {z : Value} {sv : Nat → Value} (h : MapF P w kt b n z sv) (hk : P.underlying kt = some (.int .i64)) (ht : P.underlying t = some (.map kt e)) (hz : (zeroValue e).run P w = .ok z w) {k : Nat} (hk63 : k < 9223372036854775808) :
    (Instr.lookup t (.map (some b)) (.int .i64 k) false).run P w = .ok (sv k) w := by
  obtain ⟨D, ho, hf⟩ := h
  obtain ⟨v, ps, hrun, hR⟩ := ho.lookup (int_keyed hk) ht hz (zd := .held z) (zp := []) rfl (keyOf_int_mk hk (i64_wf hk63))
  rw [hf k] at hR
  unfold asIs at hR
  injection hR with hR
  injection hR with hR _
  injection hR with hR
  rw [hrun, hR]
theorem MapF.put {P : Program} {w : World} {kt t e : TypeId} {b n : Nat} {z : Value} {sv : Nat → Value} (h : MapF P w kt b n z sv) (hk : P.underlying kt = some (.int .i64)) (ht : P.underlying t = some (.map kt e)) (hn : n < maxLen) {k : Nat} (hk63 : k < 9223372036854775808) (v : Value) :
    ∃ w', (Instr.mapUpdate t (.map (some b)) (.int .i64 k) v).run P w = .ok () w' ∧ MapF P w' kt b (n + 1) z (fun j => if j = k then v else sv j) ∧ w.grownBy w' (some b) := by
  obtain ⟨D, ho, hf⟩ := h
  obtain ⟨w', hrun, ho', hg⟩ := ho.update (int_keyed hk) ht hn (val := v) (d := .held v) (ps := []) (keyOf_int_mk hk (i64_wf hk63)) rfl
  have hD : IsMap D := by obtain ⟨es, clock, _, _, _, hD⟩ := ho; exact ⟨_, hD⟩
  refine ⟨w', hrun, ⟨_, ho', fun j => ?_⟩, hg⟩
  show _ = DataW.held (if j = k then v else sv j)
  by_cases hj : j = k
  · subst hj
    rw [if_pos rfl]
    exact atKey_put_same hD ((int_keyed hk).key (keyOf_int_mk hk (i64_wf hk63))) _ _
  · rw [if_neg hj, atKey_put_other (fun e => hj (by injection e with _ e; omega))]
    exact hf j
/-- A look-up at the operation. -/
theorem wpList_look {P : Program} (w : World) {ops : Array Oper} {rest : List Oper} {o : Oper} {a : Act} {Q : Exit → Act → World → Prop} (hg : o.guard = none) (m x : Operand) (t : TypeId) (hop : o.op = Op.lookup t m x false)
    (M K v : Value) (hm : a.eval m = M) (hx : a.eval x = K) (hrun : (Instr.lookup t M K false).run P w = .ok v w) (hK : wpList P ops Q rest (a.put o.dst v) w) : wpList P ops Q (o :: rest) a w := by
  refine wpList_plain hg fun K' hK' => ?_
  unfold Oper.wp
  simp [execOp, hop, hm, hx, hrun, Result.andThen]
  exact hK' _ _ hK
/-- A store into a map at the operation. -/
theorem wpList_mapPut {P : Program} (w : World) {ops : Array Oper} {rest : List Oper} {o : Oper} {a : Act} {Q : Exit → Act → World → Prop} (hg : o.guard = none) (m x y : Operand) (t : TypeId) (hop : o.op = Op.mapUpdate t m x y)
    (M K v : Value) (w' : World) (hm : a.eval m = M) (hx : a.eval x = K) (hy : a.eval y = v) (hrun : (Instr.mapUpdate t M K v).run P w = .ok () w') (hK : wpList P ops Q rest (a.put o.dst undef) w') : wpList P ops Q (o :: rest) a w := by
  refine wpList_plain hg fun K' hK' => ?_
  unfold Oper.wp
  simp [execOp, hop, hm, hx, hy, hrun, Result.andThen]
  exact hK' _ _ hK
/-- Lists of vectors, gathered in a map: the map, each key's own row, no two in one. -/
structure GrpS (w : World) (base b n : Nat) (G : Nat → List Vc) (sv : Nat → Value) : Prop where
  map : MapF Try.prog w 3 b n (.slice none 0 0) sv
  own : ∀ k, w.ownsRow base 23 1 (sv k) (G k).length (cellsV (G k))
  apart : ∀ j k, j ≠ k → (sv j).ownBlock = none ∨ (sv j).ownBlock ≠ (sv k).ownBlock
  lt : b < base
def Grp (w : World) (base b n : Nat) (G : Nat → List Vc) : Prop := ∃ sv, GrpS w base b n G sv
theorem GrpS.below {w w' : World} {base b n : Nat} {G : Nat → List Vc} {sv : Nat → Value} (h : GrpS w base b n G sv) (hb : Below w.heap.size w w') : GrpS w' base b n G sv :=
  ⟨h.map.kept (grown_of_below hb) (by simp), fun k => own_below (h.own k) hb, h.apart, h.lt⟩
theorem GrpS.off {w : World} {base b n : Nat} {G : Nat → List Vc} {sv : Nat → Value} (h : GrpS w base b n G sv) (k : Nat) : (sv k).ownBlock ≠ some b := fun e => by
  have := ((h.own k).lt b e).1
  have := h.lt
  omega
theorem Grp.below {w w' : World} {base b n : Nat} {G : Nat → List Vc} (h : Grp w base b n G) (hb : Below w.heap.size w w') : Grp w' base b n G := by
  obtain ⟨sv, h⟩ := h; exact ⟨sv, h.below hb⟩
theorem Grp.mono {w : World} {base b n n' : Nat} {G : Nat → List Vc} (h : Grp w base b n G) (hn : n ≤ n') : Grp w base b n' G := by
  obtain ⟨sv, h⟩ := h; exact ⟨sv, ⟨h.map.mono hn, h.own, h.apart, h.lt⟩⟩
theorem Grp.made (w : World) : Grp (w.alloc (.map #[] 0)) (w.heap.size + 1) w.heap.size 0 (fun _ => []) :=
  ⟨_, ⟨MapF.made _ _ _ _, fun _ => own_nil_row _ _ _, fun _ _ _ => .inl rfl, by omega⟩⟩
/-- One more vector at a key. -/
def moreAt (G : Nat → List Vc) (z : Nat) (x : Vc) : Nat → List Vc := fun j => if j = z then G z ++ [x] else G j
theorem GrpS.put {w w1 : World} {base b n : Nat} {G : Nat → List Vc} {sv : Nat → Value} (h : GrpS w base b n G sv) {t e : TypeId} (hk : Try.prog.underlying 3 = some (.int .i64)) (ht : Try.prog.underlying t = some (.map 3 e)) (hn : n < maxLen) {o : Obj} {z : Nat} (hz : z < 9223372036854775808) {x : Vc} {v' : Value}
    (hown : w1.ownsRow base 23 1 v' ((G z).length + 1) (cellsV (G z) ++ [.slice x.1 x.2.2.length x.2.1])) (hg : (w.alloc o).grownBy w1 (sv z).ownBlock) (hloc : v'.ownBlock = (sv z).ownBlock ∨ v'.ownBlock = some (w.alloc o).heap.size) :
    ∃ w2, (Instr.mapUpdate t (.map (some b)) (.int .i64 z) v').run Try.prog w1 = .ok () w2 ∧ Grp w2 base b (n + 1) (moreAt G z x) ∧ w1.grownBy w2 (some b) := by
  have hall : w.grownBy w1 (sv z).ownBlock := (World.grownBy_alloc _ _ _).trans hg
  have hm1 : MapF Try.prog w1 3 b n (.slice none 0 0) sv := h.map.kept hall (fun e => h.off z e.symm)
  obtain ⟨w2, hrun, hm2, hg2⟩ := hm1.put hk ht hn hz v'
  have hoff : v'.ownBlock ≠ some b := by
    rcases hloc with e | e
    · rw [e]; exact h.off z
    · rw [e]; intro e2
      have := h.map.lt
      injection e2 with e2
      simp at e2; omega
  have old : ∀ j, j ≠ z → (sv j).ownBlock = none ∨ (sv j).ownBlock ≠ v'.ownBlock := fun j hj => by
    rcases hloc with e | e
    · rw [e]; exact h.apart j z hj
    · rw [e]
      cases hs : (sv j).ownBlock with
      | none => exact .inl rfl
      | some g =>
        refine .inr (fun e2 => ?_)
        have := ((h.own j).lt g hs).2
        injection e2 with e2
        simp at e2; omega
  refine ⟨w2, hrun, ⟨_, ⟨hm2, fun j => ?_, fun j k hjk => ?_, h.lt⟩⟩, hg2⟩
  · by_cases hj : j = z
    · subst hj
      rw [if_pos rfl]
      have hG : moreAt G j x j = G j ++ [x] := if_pos rfl
      rw [hG, ← cellsV_snoc, List.length_append, List.length_singleton]
      exact hown.kept hg2 (.inr hoff)
    · rw [if_neg hj]
      have hG : moreAt G z x j = G j := if_neg hj
      rw [hG]
      exact ((h.own j).kept hall (h.apart j z hj)).kept hg2 (.inr (h.off j))
  · by_cases hj : j = z
    · subst hj
      rw [if_pos rfl, if_neg (Ne.symm hjk)]
      cases hv : v'.ownBlock with
      | none => exact .inl rfl
      | some g =>
        refine .inr (fun e => ?_)
        rcases old k (Ne.symm hjk) with h1 | h1
        · rw [h1] at e; cases e
        · exact h1 (by rw [hv, e])
    · rw [if_neg hj]
      by_cases hk2 : k = z
      · rw [if_pos hk2]; exact old j hj
      · rw [if_neg hk2]; exact h.apart j k hjk
end Go.Proofs.Ytcakmcegcbameaa
