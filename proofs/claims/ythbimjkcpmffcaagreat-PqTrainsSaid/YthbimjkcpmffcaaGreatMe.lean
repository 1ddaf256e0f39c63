/- Several texts in one. -/
import Derived.Maps.Own
import Derived.Maps.OwnOps
import Derived.Maps.AppendAt
import Derived.Maps.Views
import Derived.Test.YthbimjkcpmffcaaGreatMb
/- Words: a map with int keys that the call made, as a function from its keys to values; lists that are gathered in such a map. Over any program but for the element type's number. -/
namespace Go.Proofs.YthbimjkcpmffcaaGreat
open Go.RowKit Go.Maps
set_option linter.unusedVariables false
/-- Any value reads as itself. -/
def asIs (v : Value) : Option (DataW Value × List MemPlace) := some (.held v, [])
/-- Block b is a map of at most n entries that tells sv k at each key k. -/
def MapF (P : Program) (w : World) (kt : TypeId) (b n : Nat) (z : Value) (sv : Nat → Value) : Prop :=
  ∃ D : DataW Value, w.ownsMap P kt asIs b n D ∧ ∀ k : Nat, D.atKey (.int .i64 k) (.held z) = .held (sv k)
theorem MapF.made (P : Program) (w : World) (kt : TypeId) (z : Value) : MapF P (w.alloc (.map #[] 0)) kt w.heap.size 0 z (fun _ => z) := ⟨.map [], World.ownsMap_made _ _ _ _, fun k => rfl⟩
theorem MapF.mono {P : Program} {w : World} {kt : TypeId} {b n n' : Nat} {z : Value} {sv : Nat → Value} (h : MapF P w kt b n z sv) (hn : n ≤ n') : MapF P w kt b n' z sv := by
  obtain ⟨D, ho, hf⟩ := h; exact ⟨D, ho.mono hn, hf⟩
theorem MapF.lt {P : Program} {w : World} {kt : TypeId} {b n : Nat} {z : Value} {sv : Nat → Value} (h : MapF P w kt b n z sv) : b < w.heap.size := by
  obtain ⟨D, ho, hf⟩ := h; exact ho.lt
theorem MapF.kept {P : Program} {w w' : World} {kt : TypeId} {b n : Nat} {z : Value} {sv : Nat → Value} {row : Option Nat} (h : MapF P w kt b n z sv) (hg : w.grownBy w' row) (hne : some b ≠ row) : MapF P w' kt b n z sv := by
  obtain ⟨D, ho, hf⟩ := h; exact ⟨D, ho.kept hg hne, hf⟩
theorem grown_of_below {w w' : World} (h : Below w.heap.size w w') : w.grownBy w' none := ⟨h.os, h.tape, h.output, h.size, fun k hk _ => h.block k hk⟩
theorem i64_wf {k : Nat} (h : k < 9223372036854775808) : (Lit.int .i64 k).wf = true := by
  have h1 : IntKind.i64.min = -9223372036854775808 := rfl
  have h2 : IntKind.i64.max = 9223372036854775807 := rfl
  simp only [Lit.wf, Bool.and_eq_true, decide_eq_true_eq]
  omega
theorem MapF.look {P : Program} {w : World} {kt t e : TypeId} {b n : Nat} {z : Value} {sv : Nat → Value} (h : MapF P w kt b n z sv) (hk : P.underlying kt = some (.int .i64)) (ht : P.underlying t = some (.map kt e)) (hz : (zeroValue e).run P w = .ok z w) {k : Nat} (hk63 : k < 9223372036854775808) :
    (Instr.lookup t (.map (some b)) (.int .i64 k) false).run P w = .ok (sv k) w := by
  obtain ⟨D, ho, hf⟩ := h
  obtain ⟨v, ps, hrun, hR⟩ := ho.lookup (int_keyed hk) ht hz (zd := .held z) (zp := []) rfl (keyOf_int_mk hk (i64_wf hk63))
  rw [hf k] at hR
  unfold asIs at hR
  injection hR with hR
  injection hR with hR _
  injection hR with hR
  rw [hrun, hR]
theorem MapF.put {P : Program} {w : World} {kt t e : TypeId} {b n : Nat} {z : Value} {sv : Nat → Value} (h : MapF P w kt b n z sv) (hk : P.underlying kt = some (.int .i64)) (ht : P.underlying t = some (.map kt e)) (hn : n < maxLen) {k : Nat} (hk63 : k < 9223372036854775808) (v : Value) :
    ∃ w', (Instr.mapUpdate t (.map (some b)) (.int .i64 k) v).run P w = .ok () w' ∧ MapF P w' kt b (n + 1) z (fun j => if j = k then v else sv j) ∧ w.grownBy w' (some b) := by
  obtain ⟨D, ho, hf⟩ := h
  obtain ⟨w', hrun, ho', hg⟩ := ho.update (int_keyed hk) ht hn (val := v) (d := .held v) (ps := []) (keyOf_int_mk hk (i64_wf hk63)) rfl
  have hD : IsMap D := by obtain ⟨es, clock, _, _, _, hD⟩ := ho; exact ⟨_, hD⟩
  refine ⟨w', hrun, ⟨_, ho', fun j => ?_⟩, hg⟩
  show _ = DataW.held (if j = k then v else sv j)
  by_cases hj : j = k
  · subst hj
    rw [if_pos rfl]
    exact atKey_put_same hD ((int_keyed hk).key (keyOf_int_mk hk (i64_wf hk63))) _ _
  · rw [if_neg hj, atKey_put_other (fun e => hj (by injection e with _ e; omega))]
    exact hf j
/-- A look-up at the operation. -/
theorem wpList_look {P : Program} (w : World) {ops : Array Oper} {rest : List Oper} {o : Oper} {a : Act} {Q : Exit → Act → World → Prop} (hg : o.guard = none) (m x : Operand) (t : TypeId) (hop : o.op = Op.lookup t m x false)
    (M K v : Value) (hm : a.eval m = M) (hx : a.eval x = K) (hrun : (Instr.lookup t M K false).run P w = .ok v w) (hK : wpList P ops Q rest (a.put o.dst v) w) : wpList P ops Q (o :: rest) a w := by
  refine wpList_plain hg fun K' hK' => ?_
  unfold Oper.wp
  simp [execOp, hop, hm, hx, hrun, Result.andThen]
  exact hK' _ _ hK
/-- A store into a map at the operation. -/
theorem wpList_mapPut {P : Program} (w : World) {ops : Array Oper} {rest : List Oper} {o : Oper} {a : Act} {Q : Exit → Act → World → Prop} (hg : o.guard = none) (m x y : Operand) (t : TypeId) (hop : o.op = Op.mapUpdate t m x y)
    (M K v : Value) (w' : World) (hm : a.eval m = M) (hx : a.eval x = K) (hy : a.eval y = v) (hrun : (Instr.mapUpdate t M K v).run P w = .ok () w') (hK : wpList P ops Q rest (a.put o.dst undef) w') : wpList P ops Q (o :: rest) a w := by
  refine wpList_plain hg fun K' hK' => ?_
  unfold Oper.wp
  simp [execOp, hop, hm, hx, hy, hrun, Result.andThen]
  exact hK' _ _ hK
/-- Lists of vectors, gathered in a map: the map, each key's own row, no two in one. -/
structure GrpS (w : World) (base b n : Nat) (G : Nat → List Vc) (sv : Nat → Value) : Prop where
  map : MapF Tryz.prog w 3 b n (.slice none 0 0) sv
  own : ∀ k, w.ownsRow base 25 1 (sv k) (G k).length (cellsV (G k))
  apart : ∀ j k, j ≠ k → (sv j).ownBlock = none ∨ (sv j).ownBlock ≠ (sv k).ownBlock
  lt : b < base
def Grp (w : World) (base b n : Nat) (G : Nat → List Vc) : Prop := ∃ sv, GrpS w base b n G sv
theorem GrpS.below {w w' : World} {base b n : Nat} {G : Nat → List Vc} {sv : Nat → Value} (h : GrpS w base b n G sv) (hb : Below w.heap.size w w') : GrpS w' base b n G sv :=
  ⟨h.map.kept (grown_of_below hb) (by simp), fun k => own_below (h.own k) hb, h.apart, h.lt⟩
theorem GrpS.off {w : World} {base b n : Nat} {G : Nat → List Vc} {sv : Nat → Value} (h : GrpS w base b n G sv) (k : Nat) : (sv k).ownBlock ≠ some b := fun e => by
  have := ((h.own k).lt b e).1
  have := h.lt
  omega
theorem Grp.below {w w' : World} {base b n : Nat} {G : Nat → List Vc} (h : Grp w base b n G) (hb : Below w.heap.size w w') : Grp w' base b n G := by
  obtain ⟨sv, h⟩ := h; exact ⟨sv, h.below hb⟩
theorem Grp.mono {w : World} {base b n n' : Nat} {G : Nat → List Vc} (h : Grp w base b n G) (hn : n ≤ n') : Grp w base b n' G := by
  obtain ⟨sv, h⟩ := h; exact ⟨sv, ⟨h.map.mono hn, h.own, h.apart, h.lt⟩⟩
theorem Grp.made (w : World) : Grp (w.alloc (.map #[] 0)) (w.heap.size + 1) w.heap.size 0 (fun _ => []) :=
  ⟨_, ⟨MapF.made _ _ _ _, fun _ => own_nil_row _ _ _, fun _ _ _ => .inl rfl, by omega⟩⟩
/-- One more vector at a key. -/
def moreAt (G : Nat → List Vc) (z : Nat) (x : Vc) : Nat → List Vc := fun j => if j = z then G z ++ [x] else G j
theorem GrpS.put {w w1 : World} {base b n : Nat} {G : Nat → List Vc} {sv : Nat → Value} (h : GrpS w base b n G sv) {t e : TypeId} (hk : Tryz.prog.underlying 3 = some (.int .i64)) (ht : Tryz.prog.underlying t = some (.map 3 e)) (hn : n < maxLen) {o : Obj} {z : Nat} (hz : z < 9223372036854775808) {x : Vc} {v' : Value}
    (hown : w1.ownsRow base 25 1 v' ((G z).length + 1) (cellsV (G z) ++ [.slice x.1 x.2.2.length x.2.1])) (hg : (w.alloc o).grownBy w1 (sv z).ownBlock) (hloc : v'.ownBlock = (sv z).ownBlock ∨ v'.ownBlock = some (w.alloc o).heap.size) :
    ∃ w2, (Instr.mapUpdate t (.map (some b)) (.int .i64 z) v').run Tryz.prog w1 = .ok () w2 ∧ Grp w2 base b (n + 1) (moreAt G z x) ∧ w1.grownBy w2 (some b) := by
  have hall : w.grownBy w1 (sv z).ownBlock := (World.grownBy_alloc _ _ _).trans hg
  have hm1 : MapF Tryz.prog w1 3 b n (.slice none 0 0) sv := h.map.kept hall (fun e => h.off z e.symm)
  obtain ⟨w2, hrun, hm2, hg2⟩ := hm1.put hk ht hn hz v'
  have hoff : v'.ownBlock ≠ some b := by
    rcases hloc with e | e
    · rw [e]; exact h.off z
    · rw [e]; intro e2
      have := h.map.lt
      injection e2 with e2
      simp at e2; omega
  have old : ∀ j, j ≠ z → (sv j).ownBlock = none ∨ (sv j).ownBlock ≠ v'.ownBlock := fun j hj => by
    rcases hloc with e | e
    · rw [e]; exact h.apart j z hj
    · rw [e]
      cases hs : (sv j).ownBlock with
      | none => exact .inl rfl
      | some g =>
        refine .inr (fun e2 => ?_)
        have := ((h.own j).lt g hs).2
        injection e2 with e2
        simp at e2; omega
  refine ⟨w2, hrun, ⟨_, ⟨hm2, fun j => ?_, fun j k hjk => ?_, h.lt⟩⟩, hg2⟩
  · by_cases hj : j = z
    · subst hj
      rw [if_pos rfl]
      have hG : moreAt G j x j = G j ++ [x] := if_pos rfl
      rw [hG, ← cellsV_snoc, List.length_append, List.length_singleton]
      exact hown.kept hg2 (.inr hoff)
    · rw [if_neg hj]
      have hG : moreAt G z x j = G j := if_neg hj
      rw [hG]
      exact ((h.own j).kept hall (h.apart j z hj)).kept hg2 (.inr (h.off j))
  · by_cases hj : j = z
    · subst hj
      rw [if_pos rfl, if_neg (Ne.symm hjk)]
      cases hv : v'.ownBlock with
      | none => exact .inl rfl
      | some g =>
        refine .inr (fun e => ?_)
        rcases old k (Ne.symm hjk) with h1 | h1
        · rw [h1] at e; cases e
        · exact h1 (by rw [hv, e])
    · rw [if_neg hj]
      by_cases hk2 : k = z
      · rw [if_pos hk2]; exact old j hj
      · rw [if_neg hk2]; exact h.apart j k hjk
end Go.Proofs.YthbimjkcpmffcaaGreat
/- The walk of package means: gather. -/
namespace Go.Proofs.YthbimjkcpmffcaaGreat
open Go.RowKit Go.Maps
set_option linter.unusedVariables false
theorem Tryz.mapIsg : Tryz.prog.underlying 194 = some (.map 3 62) := by kernel_rfl
theorem Tryz.intIsg : Tryz.prog.underlying 3 = some (.int .i64) := by kernel_rfl
theorem zeroVg (w : World) : (zeroValue 62).run Tryz.prog w = .ok (.slice none 0 0) w := by kernel_rfl
/-- What is gathered of some vectors. -/
structure GathAt (w0 : World) (ms vs : List (List Int)) (G : Nat → List Vc) : Prop where
  is : ∀ k, vecs (G k) = groupL ms vs k
  rd : ∀ k, ∀ x ∈ G k, Rd .i8 w0 w0.heap.size x.1 x.2.2
  len : ∀ k, (G k).length ≤ vs.length
theorem GathAt.nil (w : World) (ms : List (List Int)) : GathAt w ms [] (fun _ => []) := ⟨fun k => rfl, fun k x hx => by simp at hx, fun k => by simp⟩
theorem GathAt.more {w0 : World} {ms vs : List (List Int)} {G : Nat → List Vc} (h : GathAt w0 ms vs G) {a : Option Addr} {c : Nat} {v : List Int} {z : Nat} (hz : nearestI ms v = z) (hr : Rd .i8 w0 w0.heap.size a v) : GathAt w0 ms (vs ++ [v]) (moreAt G z (a, c, v)) := by
  refine ⟨fun k => ?_, fun k x hx => ?_, fun k => ?_⟩
  · rw [group_snoc, hz]
    unfold moreAt
    by_cases hk : k = z
    · subst hk
      rw [if_pos rfl, if_pos rfl, vecs_snoc, h.is]
    · rw [if_neg hk, if_neg (Ne.symm hk)]; exact h.is k
  · unfold moreAt at hx
    by_cases hk : k = z
    · rw [if_pos hk] at hx
      rcases List.mem_append.1 hx with h1 | h1
      · exact h.rd _ x h1
      · rw [List.mem_singleton] at h1; subst h1; exact hr
    · rw [if_neg hk] at hx; exact h.rd k x hx
  · have := h.len k
    have hz2 := h.len z
    unfold moreAt
    split <;> simp <;> omega
set_option maxRecDepth 100000 in
set_option maxHeartbeats 4000000 in
theorem gather_any (A : Option Addr) (c : Nat) (L : List Vc) (B : Option Addr) (d : Nat) (M : List Vc) (w : World) (hx : RdV w w.heap.size A L) (hy : RdV w w.heap.size B M) (hm : mayM (vecs L) (vecs M) = true) (hb : B8 (vecs L)) (hb2 : B8 (vecs M)) :
    Calls Tryz.prog 147 #[.slice A L.length c, .slice B M.length d] w fun e w' => e = .returned (.map (some w.heap.size)) ∧ (∃ G, Grp w' (w.heap.size + 1) w.heap.size 2048 G ∧ GathAt w (vecs L) (vecs M) G) ∧ Below w.heap.size w w' := by
  have hM := mayM_yes hm
  have hl1 : L.length ≤ 64 := by have := hM.1; rw [vecs_len] at this; exact this
  have hl2 : M.length ≤ 2048 := by have := hM.2.2.1; rw [vecs_len] at this; exact this
  have HMB := Lib.hid hM.2.1
  have HV := Lib.hid (mayM_len hm)
  have HB := Lib.hid hb
  have HB2 := Lib.hid hb2
  have g0 := Grp.made w
  have b0 : Below w.heap.size w (w.alloc (.map #[] 0)) := below_one (Below.refl _ _) _
  obtain ⟨i1, hi1, hy0, hy1, hy2⟩ := info_parts Tryz.info25v
  have hmm := @run_makeMap Tryz.prog
  clear hM hm hb hb2
  go_enter Tryz.func147, Tryz.ntmps147
  go_wp2
  go_loopw [13] (fun i wr => ∃ q : Nat, q ≤ M.length ∧ i = .int .i64 q ∧ (∃ G, Grp wr (w.heap.size + 1) w.heap.size q G ∧ Hid (GathAt w (vecs L) ((vecs M).take q) G)) ∧ Below w.heap.size w wr ∧ w.heap.size + 1 ≤ wr.heap.size) (fun i _ => M.length - (intOf i).toNat)
  case atStart => exact ⟨0, by omega, rfl, ⟨_, g0, GathAt.nil _ _⟩, b0, by simp⟩
  case round =>
    clear g0 b0
    obtain ⟨q, hq, rfl, ⟨G, hG, hA⟩, hBw, hsz⟩ := hrel
    by_cases hlt : q < M.length
    · obtain ⟨b, off, a1, c1, v1, rfl, hBk, hck0, hrd, hv1⟩ := hy.at_ hlt
      have hmem : v1 ∈ vecs M := List.mem_of_getElem? (vecs_at hv1.out)
      have hck : wr.cell? ⟨b, off + q, none⟩ = some (.slice a1 v1.length c1) := (hBw.cell (p := ⟨b, off + q, none⟩) hBk).trans hck0
      have NE := Lib.hid (near_may A c L a1 c1 v1 wr ((hx.below hBw).more hBw.size) ((hrd.below hBw).more hBw.size) hl1 HMB.out (HV.out v1 hmem) HB.out (HB2.out v1 hmem))
      have GA := Lib.hid (hA.out.more (c := c1) (z := nearestI (vecs L) v1) rfl hrd)
      rw [← take_vecs hv1.out] at GA
      have hzl : nearestI (vecs L) v1 < 64 := by
        have h1 := mayB_yes HMB.out
        have := nearestI_lt (ms := vecs L) v1 h1.1
        rw [vecs_len] at this
        omega
      have hGl : ∀ k, (G k).length ≤ 2048 := fun k => by
        have := hA.out.len k
        rw [List.length_take, vecs_len] at this
        omega
      obtain ⟨F, eF⟩ : ∃ F, far (vAt (vecs L) (nearestI (vecs L) v1)) v1 = F := ⟨_, rfl⟩
      rw [eF] at NE
      obtain ⟨z, ez⟩ : ∃ z, nearestI (vecs L) v1 = z := ⟨_, rfl⟩
      rw [ez] at NE GA hzl
      obtain ⟨sv, hS⟩ := hG
      have hGz := hGl z
      clear eF ez hck0 hrd hv1 hmem hA hGl
      go_wp2_with (first
        | (go_at_call 92; refine NE.out.mono ?_; rintro e w' ⟨rfl, hD⟩
           have hS2 := Lib.hid (hS.below hD)
           have hlk : (Instr.lookup 194 (.map (some w.heap.size)) (.int .i64 z) false).run Tryz.prog w' = .ok (sv z) w' := hS2.out.map.look Tryz.intIsg Tryz.mapIsg (zeroVg _) (by omega)
           have hoz := hS2.out.own z)
        | (at_lookup; refine wpList_look _ rfl _ _ 194 rfl _ _ _ rfl rfl hlk ?_)
        | (at_builtin; refine wpList_append_own_at _ rfl _ _ 62 rfl (w.heap.size + 1) 25 i1 (.slice none 0 0) 1 24 Tryz.underlying62 hi1 hy0 hy1 hy2 rfl (by decide) _ _ _ rfl (hoz.alloc _) ⟨w'.heap.size, 0, none⟩ 1 1 [.slice a1 v1.length c1] rfl rfl (cell_one_new _ _ _) (by simp [Value.oneCell']) (by show (G z).length + 1 ≤ 9223372036854775807; omega) (by omega) (by simp; have := hD.size; omega) ?_; intro v' w1 hown' hgrow hnil hloc
           obtain ⟨w2, hrun, hG2, hg2⟩ := hS2.out.put Tryz.intIsg Tryz.mapIsg (by unfold maxLen; omega) (show z < 9223372036854775808 by omega) (x := (a1, c1, v1)) hown' hgrow hloc)
        | (at_mapUpdate; refine wpList_mapPut _ rfl _ _ _ 194 rfl _ _ _ w2 rfl rfl rfl hrun ?_))
      have hB1 : Below w.heap.size w w1 := ((hBw.trans (hD.mono hBw.size)).alloc (by have := hD.size; omega) (.cells #[.slice a1 v1.length c1] 25)).grown hgrow (by have := hD.size; simp; omega) (fun r hr => by have := ((hS2.out.own z).lt r hr).1; omega)
      have hB2 := hB1.grown hg2 hB1.size (fun r hr => by injection hr with hr; omega)
      have hsz2 : w.heap.size + 1 ≤ w2.heap.size := by
        have h1 := hD.size
        have h2 := hgrow.size
        have h3 := hg2.size
        simp at h2
        omega
      go_roundw
      case rel => exact ⟨q + 1, by omega, by go_num, ⟨_, hG2, GA⟩, hB2, hsz2⟩
      case measure => simp [intOf]; omega
    · obtain rfl : q = M.length := by omega
      have hA2 := hA.out
      rw [List.take_of_length_le (by rw [vecs_len]; exact Nat.le_refl _)] at hA2
      have HA := Lib.hid hA2
      have HG := Lib.hid (hG.mono hl2)
      clear hA2 hA hG
      go_wp2
      go_ret
      exact ⟨rfl, ⟨G, HG.out, HA.out⟩, hBw⟩
end Go.Proofs.YthbimjkcpmffcaaGreat
/- The walks of package means: slices.Clone of a vector, meanOr; a list of vectors that is filled place by place. -/
namespace Go.Proofs.YthbimjkcpmffcaaGreat
open Go.RowKit Go.Maps
set_option linter.unusedVariables false
set_option maxRecDepth 100000 in
set_option maxHeartbeats 1000000 in
theorem clone8_any (a : Option Addr) (c : Nat) (v : List Int) (w : World) (hr : Rd .i8 w w.heap.size a v) (h1 : 1 ≤ v.length) (h2 : v.length ≤ 64) :
    Calls Tryz.prog 135 #[.slice a v.length c] w fun e w' => ∃ xa xc, e = .returned (.slice xa v.length xc) ∧ VOwn w' w.heap.size (xa, xc, v) ∧ Below w.heap.size w w' := by
  obtain ⟨b, off, rfl, hB, hc⟩ := hr (by omega)
  have owne : (w.alloc (.cells #[] 74)).ownsRow w.heap.size 74 1 (.slice (some ⟨w.heap.size, 0, none⟩) 0 0) 0 (([] : List Int).map (Value.int .i8)) := World.ownsRow_lit (base := w.heap.size) (e := 74) (size := 1) w #[] 0 (Nat.le_refl _) (by decide) rfl
  have hrd2 : Rd .i8 (w.alloc (.cells #[] 74)) w.heap.size (some ⟨b, off, none⟩) v := hr.below ((Below.refl _ _).alloc (Nat.le_refl _) _)
  obtain ⟨i0, hi, hz0, hz1, hz2⟩ := info_parts Tryz.info74
  have he : ∀ w : World, (binOp .eql 25 (.slice (some ⟨b, off, none⟩) v.length c) (.slice none 0 0)).run Tryz.prog w = .ok (.bool false) w := fun _ => rfl
  clear hc hr
  go_enter Tryz.func135, Tryz.ntmps135
  go_wp2_with (at_builtin; refine wpList_app _ rfl _ _ 25 rfl w.heap.size 74 i0 (.int .i8 0) 1 Tryz.underlying25 hi hz0 hz1 hz2 rfl .i8 (.slice (some ⟨w.heap.size, 0, none⟩) 0 0) 0 [] rfl owne (some ⟨b, off, none⟩) v.length c v w.heap.size rfl rfl hrd2 (fun e => by cases e) (by show 0 + v.length ≤ 9223372036854775807; omega) (by omega) (by simp) ?_; intro v' w1 hown' hgrow)
  rw [Nat.zero_add, List.nil_append] at hown'
  obtain ⟨xa, xm, xc, rfl⟩ := own_form hown'
  obtain rfl := own_len hown'
  have hb5 : Below w.heap.size w w1 := ((Below.refl _ _).alloc (Nat.le_refl _) _).grown hgrow (by simp) (fun r hr => by
    have : w.heap.size = r := by simpa [Value.ownBlock] using hr
    omega)
  go_ret
  exact ⟨xa, xc, rfl, hown', hb5⟩
/-- What stands in place of a mean. -/
def orMean (g : List (List Int)) (v : List Int) : List Int := if g = [] then v else meanL g
set_option maxRecDepth 100000 in
set_option maxHeartbeats 1000000 in
theorem meanOr_any (A : Option Addr) (c : Nat) (G : List Vc) (n : Nat) (hn : n = G.length) (a : Option Addr) (d : Nat) (v : List Int) (w : World) (hG : RdV w w.heap.size A G) (hm : vecs G ≠ [] → mayB (vecs G) = true) (hb : B8 (vecs G)) (hr : Rd .i8 w w.heap.size a v) (h1 : 1 ≤ v.length) (h2 : v.length ≤ 64) :
    Calls Tryz.prog 148 #[.slice A n c, .slice a v.length d] w fun e w' => ∃ xa xc, e = .returned (.slice xa (orMean (vecs G) v).length xc) ∧ VOwn w' w.heap.size (xa, xc, orMean (vecs G) v) ∧ Below w.heap.size w w' := by
  subst hn
  by_cases hg : vecs G = []
  · have hl : G.length = 0 := by rw [← vecs_len, hg]; rfl
    have e : orMean (vecs G) v = v := if_pos hg
    rw [e, hl]
    have H := Lib.hid (clone8_any a d v w hr h1 h2)
    clear hG hm hb hr hg hl e
    go_enter Tryz.func148, Tryz.ntmps148
    go_wp2_with (go_at_call 135; refine H.out.mono ?_; rintro e w' ⟨xa, xc, rfl, ho, hB⟩)
    go_ret
    exact ⟨xa, xc, rfl, ho, hB⟩
  · have hl : 1 ≤ G.length := by
      rw [← vecs_len]
      cases h : vecs G with
      | nil => exact absurd h hg
      | cons x y => simp
    have hz : ((G.length : Int) == 0) = false := by rw [beq_eq_false_iff_ne]; omega
    have e : orMean (vecs G) v = meanL (vecs G) := if_neg hg
    rw [e]
    have ME := mean_yes A c G _ rfl w hG (hm hg) hb
    rw [← meanL_len] at ME
    have H := Lib.hid ME
    clear ME hG hm hb hr hg e hl
    obtain ⟨u, eu⟩ : ∃ u, meanL (vecs G) = u := ⟨_, rfl⟩
    rw [eu] at H ⊢
    clear eu
    go_enter Tryz.func148, Tryz.ntmps148
    go_wp2_with (go_at_call 167; refine H.out.mono ?_; rintro e w' ⟨rfl, ho, hB⟩)
    go_ret
    exact ⟨_, _, rfl, ho, hB⟩
theorem ApartL.nil : ApartL [] := List.Pairwise.nil
theorem ApartL.snoc {w w' : World} {base : Nat} {L : List Vc} {x : Vc} (h : ApartL L) (hy : ∀ y ∈ L, VOwn w base y) (hx : VOwn w' w.heap.size x) : ApartL (L ++ [x]) := by
  unfold ApartL
  rw [List.pairwise_append]
  refine ⟨h, List.pairwise_singleton _ _, fun y hy1 z hz => ?_⟩
  rw [List.mem_singleton] at hz
  subst hz
  cases hb : (Value.slice y.1 y.2.2.length y.2.1).ownBlock with
  | none => exact .inl rfl
  | some g =>
    refine .inr (fun e => ?_)
    have h1 := ((hy y hy1).lt g hb).2
    have h2 := (hx.lt g e.symm).1
    omega
/-- A list of vectors of the call's own, of n places, of which the first ones are filled. -/
structure Fil (base : Nat) (w : World) (g n : Nat) (T : List Vc) : Prop where
  row : w.ownsRow base 25 1 (.slice (some ⟨g, 0, none⟩) n n) n (cellsT T (n - T.length)).toList
  own : ∀ x ∈ T, VOwn w base x
  apart : ApartL T
  len : T.length ≤ n
theorem Fil.made {base : Nat} {w : World} {g n : Nat} (h : w.ownsRow base 25 1 (.slice (some ⟨g, 0, none⟩) n n) n (madeCells (Value.slice none 0 0).cells (n * 1)).toList) : Fil base w g n [] := by
  refine ⟨?_, fun x hx => by simp at hx, ApartL.nil, by simp⟩
  rw [Nat.mul_one, show (Value.slice none 0 0).cells = #[Value.slice none 0 0] from rfl, cellsT_made] at h
  exact h
theorem Fil.below {base : Nat} {w w' : World} {g n : Nat} {T : List Vc} (h : Fil base w g n T) (hb : Below w.heap.size w w') : Fil base w' g n T :=
  ⟨own_below h.row hb, fun x hx => own_below (h.own x hx) hb, h.apart, h.len⟩
theorem Fil.cell {base : Nat} {w : World} {g n : Nat} {T : List Vc} (h : Fil base w g n T) (hk : T.length < n) : w.cell? ⟨g, T.length, none⟩ = some (.slice none 0 0) := by
  have h1 := h.row.cellAt T.length (by simpa using hk)
  rw [h1]
  have h2 := cellsT_free (T := T) (r := n - T.length) (i := 0) (by omega)
  rw [Nat.add_zero] at h2
  rw [← h2]; simp
theorem Fil.put {base : Nat} {w w' : World} {g n : Nat} {T : List Vc} (h : Fil base w g n T) (hk : T.length < n) (hb : Below w.heap.size w w') (hbase : base ≤ w.heap.size) {x : Vc} (hx : VOwn w' w.heap.size x) : Fil base (w'.setCell ⟨g, T.length, none⟩ (.slice x.1 x.2.2.length x.2.1)) g n (T ++ [x]) := by
  have hr := own_below h.row hb
  have hs := hr.stored T.length (.slice x.1 x.2.2.length x.2.1)
  have e : (cellsT T (n - T.length)).toList.set T.length (.slice x.1 x.2.2.length x.2.1) = (cellsT (T ++ [x]) (n - (T ++ [x]).length)).toList := by
    rw [← Array.toList_setIfInBounds, show n - T.length = (n - (T ++ [x]).length) + 1 by simp; omega, cellsT_set]
  rw [e] at hs
  refine ⟨hs.1, fun y hy => ?_, h.apart.snoc h.own hx, by simp; omega⟩
  rcases List.mem_append.1 hy with h1 | h1
  · exact VOwn.grown (x := y) (own_below (h.own y h1) hb) hr hs.2
  · rw [List.mem_singleton] at h1
    subst h1
    exact VOwn.grown (x := y) (own_base hx hbase) hr hs.2
theorem Fil.done {base : Nat} {w : World} {g n : Nat} {T : List Vc} (h : Fil base w g n T) (hk : T.length = n) : OwnV w base (some ⟨g, 0, none⟩) n T := by
  subst hk
  refine ⟨?_, h.own⟩
  have := h.row
  rw [Nat.sub_self] at this
  unfold cellsT at this
  simpa using this
end Go.Proofs.YthbimjkcpmffcaaGreat
