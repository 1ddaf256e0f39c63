/- Several texts in one. -/
import Derived.Test.YtkmngbkghgelfaaLb
import Derived.Test.YtkmngbkghgelfaaBy
import Derived.Test.YtkmngbkghgelfaaOw
import Derived.Deep.OwnRows
import Derived.Deep.RegionHeld3
import Derived.Deep.AppendLies
import Derived.Deep.RegionLaw
import Derived.Deep.RegionWith
import Derived.Maps.AppendAt
import Derived.Laws.CopyOwn
import Derived.WalkKit
import Derived.Conc.LoneCalls
import Derived.Deep.Cut
/- The walk of the document's Tree (layer 9). -/
namespace Go.Proofs.Ytkmngbkghgelfaa
open Go.RowKit
set_option linter.unusedVariables false
/-- The cells of a row of numbers. -/
def cellsI (H : List Int) : Array Value := (H.map (Value.int .i64)).toArray
theorem cellsI_made (n : Nat) : madeCells #[Value.int .i64 0] n = cellsI (List.replicate n 0) := by
  apply Array.ext'
  rw [made_one]
  simp [cellsI]
theorem cellsI_set (H : List Int) (i : Nat) (v : Int) : (cellsI H).setIfInBounds i (.int .i64 v) = cellsI (H.set i v) := by
  unfold cellsI
  apply Array.ext'
  simp [List.map_set]
theorem cellsI_at {H : List Int} {i : Nat} (h : i < H.length) : (cellsI H)[i]? = some (.int .i64 (hAt H i)) := by
  unfold cellsI hAt
  simp [List.getElem?_eq_getElem h]
def fillK (n k : Nat) : List Int := List.replicate k (-1) ++ List.replicate (n - k) 0
theorem fillK_len {n k : Nat} (h : k ≤ n) : (fillK n k).length = n := by simp [fillK]; omega
theorem fillK_set {n k : Nat} (h : k < n) : (fillK n k).set k (-1) = fillK n (k + 1) := by
  unfold fillK
  rw [List.set_append_right _ _ (by simp), List.length_replicate, Nat.sub_self]
  obtain ⟨m, hm⟩ : ∃ m, n - k = m + 1 := ⟨n - k - 1, by omega⟩
  rw [hm, show n - (k + 1) = m by omega, List.replicate_succ, List.set_cons_zero, List.replicate_succ']
  simp
/-- What Tree's rows are. -/
structure TrSt (w : World) (g n : Nat) (box : Array Value) (H F : List Int) (W : World) : Prop where
  bel : Below g w W
  bx : Whole W g 24 box
  h : Whole W (g + 1) 3 (cellsI H)
  f : Whole W (g + 1 + 1) 3 (cellsI F)
  hl : H.length = n
  fl : F.length = n
theorem TrSt.setH {w W : World} {g n : Nat} {box : Array Value} {H F : List Int} (t : TrSt w g n box H F W) (i : Nat) (v : Int) : TrSt w g n box (H.set i v) F (W.setCell ⟨g + 1, i, none⟩ (.int .i64 v)) :=
  ⟨t.bel.setCell (p := ⟨g + 1, i, none⟩) (Nat.le_succ _) _, t.bx.far (a := ⟨g + 1, i, none⟩) (by show g ≠ g + 1; omega) _, by rw [← cellsI_set]; exact t.h.set i _, t.f.far (a := ⟨g + 1, i, none⟩) (by show g + 1 + 1 ≠ g + 1; omega) _, by rw [List.length_set]; exact t.hl, t.fl⟩
theorem TrSt.setF {w W : World} {g n : Nat} {box : Array Value} {H F : List Int} (t : TrSt w g n box H F W) (i : Nat) (v : Int) : TrSt w g n box H (F.set i v) (W.setCell ⟨g + 1 + 1, i, none⟩ (.int .i64 v)) :=
  ⟨t.bel.setCell (p := ⟨g + 1 + 1, i, none⟩) (by show g ≤ g + 1 + 1; omega) _, t.bx.far (a := ⟨g + 1 + 1, i, none⟩) (by show g ≠ g + 1 + 1; omega) _, t.h.far (a := ⟨g + 1 + 1, i, none⟩) (by show g + 1 ≠ g + 1 + 1; omega) _, by rw [← cellsI_set]; exact t.f.set i _, t.hl, by rw [List.length_set]; exact t.fl⟩
theorem TrSt.below {w W W' : World} {g n : Nat} {box : Array Value} {H F : List Int} (t : TrSt w g n box H F W) (hb : Below W.heap.size W W') : TrSt w g n box H F W' :=
  ⟨t.bel.trans (hb.mono (Nat.le_of_lt t.bx.lt)), t.bx.below hb t.bx.lt, t.h.below hb t.h.lt, t.f.below hb t.f.lt, t.hl, t.fl⟩
theorem TrSt.grown {w W W' : World} {g n qa : Nat} {box : Array Value} {H F : List Int} (t : TrSt w g n box H F W) (hg : W.grownBy W' (some qa)) (hq : g + 1 + 1 < qa) : TrSt w g n box H F W' :=
  ⟨t.bel.grown hg (Nat.le_of_lt t.bx.lt) (fun r hr => by injection hr with hr; omega), (hg.block g t.bx.lt (fun e => by injection e with e; omega)).trans t.bx, (hg.block (g + 1) t.h.lt (fun e => by injection e with e; omega)).trans t.h, (hg.block (g + 1 + 1) t.f.lt (fun e => by injection e with e; omega)).trans t.f, t.hl, t.fl⟩
theorem row_setK {w : World} {base n size b i : Nat} {e : TypeId} {v u : Value} {xs : List Value} (h : w.ownsRow base e size v n xs) (hne : v.ownBlock ≠ some b) : (w.setCell ⟨b, i, none⟩ u).ownsRow base e size v n xs := by
  obtain ⟨h1, h2⟩ := h
  refine ⟨h1, ?_⟩
  rcases h2 with h2 | ⟨g', cap, cur, hv, hb, hw, h4⟩
  · exact .inl h2
  · have : g' ≠ b := fun e => hne (by rw [hv, e]; rfl)
    exact .inr ⟨g', cap, cur, hv, hb, (Below.heap_setCell _ _ _ _ this).trans hw, h4⟩
/-- The cells of a queue. -/
def qv (Q : List Nat) : List Value := Q.map fun x => Value.int .i64 ((x : Nat) : Int)
theorem qv_at {Q : List Nat} {a : Nat} (h : a < Q.length) : (qv Q)[a]? = some (.int .i64 ((qAt Q a : Nat) : Int)) := by unfold qv qAt; simp [List.getElem?_eq_getElem h]
theorem qv_snoc (Q : List Nat) (x : Nat) : qv (Q ++ [x]) = qv Q ++ [.int .i64 ((x : Nat) : Int)] := by simp [qv]
end Go.Proofs.Ytkmngbkghgelfaa
/- The walks of the document's Hops and Reached (layer 9). -/
namespace Go.Proofs.Ytkmngbkghgelfaa
open Go.RowKit
set_option linter.unusedVariables false
theorem whole_rowK {w : World} {g base n cap : Nat} {t : TypeId} {cs : Array Value} (h : Whole w g t cs) (hc : cs.size = cap) (hn : n ≤ cap) (hm : cap ≤ 9223372036854775807) (hb : base ≤ g) : w.ownsRow base t 1 (.slice (some ⟨g, 0, none⟩) n cap) n (cs.toList.take n) := by
  refine ⟨?_, .inr ⟨g, cap, cs, rfl, hb, h, hn, hm, by rw [hc, Nat.mul_one], by rw [Nat.mul_one]⟩⟩
  rw [List.length_take, Nat.mul_one, Array.length_toList, hc]
  omega
def errG (b : Bool) : Int := if b then 0 else 1
/-- An answer that is a list of numbers, and an errno. -/
def IAns (w : World) (xs : List Int) (E : Int) (e : Ending) (w' : World) : Prop :=
  ∃ A c, e = .returned (.tuple #[.slice A xs.length c, .int .i64 E]) ∧ w'.ownsRow w.heap.size 3 1 (.slice A xs.length c) xs.length (xs.map (Value.int .i64)) ∧ Below w.heap.size w w'
theorem IAns.nil (w : World) (E : Int) {w' : World} (h : Below w.heap.size w w') : IAns w [] E (.returned (.tuple #[.slice none 0 0, .int .i64 E])) w' := ⟨none, 0, rfl, own_nil_row _ _ _, h⟩
/-- The first nodes that are reached. -/
noncomputable def reachK (G : List Pn) (s : Int) (k : Nat) : List Int := ((List.range k).filter fun i => decide (0 ≤ hopI G s.toNat i)).map fun (i : Nat) => (i : Int)
theorem reachK_yes {G : List Pn} {s : Int} {k : Nat} (h : 0 ≤ hopI G s.toNat k) : reachK G s (k + 1) = reachK G s k ++ [(k : Int)] := by
  unfold reachK
  rw [List.range_succ, List.filter_append, List.map_append]
  simp [h]
theorem reachK_no {G : List Pn} {s : Int} {k : Nat} (h : ¬ 0 ≤ hopI G s.toNat k) : reachK G s (k + 1) = reachK G s k := by
  unfold reachK
  rw [List.range_succ, List.filter_append, List.map_append]
  simp [h]
theorem reachK_len (G : List Pn) (s : Int) (k : Nat) : (reachK G s k).length ≤ k := by
  unfold reachK
  rw [List.length_map]
  have := List.length_filter_le (fun i => decide (0 ≤ hopI G s.toNat i)) (List.range k)
  simpa using this
end Go.Proofs.Ytkmngbkghgelfaa
/- The walks of TwinNode, TwinNodes, TwinGraph. -/
namespace Go.Proofs.Ytkmngbkghgelfaa
open Go.RowKit
set_option linter.unusedVariables false
/-- A twin of a list of numbers: its own memory, with the mark behind it. -/
def KTw (k : IntKind) (t : TypeId) (w : World) (base : Nat) (x : Vc) : Prop := x.2.1 = x.2.2.length + 1 ∧ (∃ g, x.1 = some ⟨g, 0, none⟩) ∧ w.ownsRow base t 1 (.slice x.1 (x.2.2.length + 1) x.2.1) (x.2.2.length + 1) ((x.2.2 ++ [77]).map (Value.int k))
theorem KTw.below {k : IntKind} {t : TypeId} {w w' : World} {base : Nat} {x : Vc} (h : KTw k t w base x) (hb : Below w.heap.size w w') : KTw k t w' base x := ⟨h.1, h.2.1, own_below h.2.2 hb⟩
theorem KTw.base {k : IntKind} {t : TypeId} {w : World} {b b' : Nat} {x : Vc} (h : KTw k t w b x) (hb : b' ≤ b) : KTw k t w b' x := ⟨h.1, h.2.1, own_base h.2.2 hb⟩
theorem KTw.rd {k : IntKind} {t : TypeId} {w : World} {base : Nat} {x : Vc} (h : KTw k t w base x) : Rd k w w.heap.size x.1 (x.2.2 ++ [77]) := by
  obtain ⟨A, c, hv, _, _, hrd, _⟩ := own_slice h.2.2
  injection hv with q1 q2 q3
  rw [q1]; exact hrd
theorem KTw.rd0 {k : IntKind} {t : TypeId} {w : World} {base : Nat} {x : Vc} (h : KTw k t w base x) : Rd k w w.heap.size x.1 x.2.2 := by
  have := h.rd.take x.2.2.length
  rwa [List.take_left' rfl] at this
theorem KTw.own {k : IntKind} {t : TypeId} {w : World} {base : Nat} {x : Vc} (h : KTw k t w base x) : w.ownsRow base t 1 (.slice x.1 x.2.2.length x.2.1) x.2.2.length (x.2.2.map (Value.int k)) := by
  obtain ⟨h1, ⟨g, hg⟩, h2⟩ := h
  rw [hg] at h2 ⊢
  have h3 := own_shrink (n := x.2.2.length + 1) (c := x.2.2.length) (Nat.le_succ _) h2
  rw [Nat.mul_one, ← List.map_take, List.take_left' rfl] at h3
  exact h3
theorem KTw.lt {k : IntKind} {t : TypeId} {w : World} {base : Nat} {x : Vc} (h : KTw k t w base x) : ∃ g, x.1 = some ⟨g, 0, none⟩ ∧ base ≤ g ∧ g < w.heap.size := by
  obtain ⟨h1, ⟨g, hg⟩, h2⟩ := h
  rw [hg] at h2
  exact ⟨g, hg, (h2.lt g rfl).1, (h2.lt g rfl).2⟩
/-- A row stands where a row of another type is grown. -/
theorem row_farK {w w' : World} {b1 b2 n1 n2 s1 s2 : Nat} {e1 e2 : TypeId} {v1 v2 : Value} {xs1 xs2 : List Value} (h : w.ownsRow b1 e1 s1 v1 n1 xs1) (ho : w.ownsRow b2 e2 s2 v2 n2 xs2) (hne : e1 ≠ e2) (hg : w.grownBy w' v2.ownBlock) : w'.ownsRow b1 e1 s1 v1 n1 xs1 := by
  refine h.kept hg ?_
  rcases h.2 with ⟨hv, _⟩ | ⟨g, cap, cur, hv, _, hc, _⟩
  · rw [hv]; exact .inl rfl
  · rcases ho.2 with ⟨hv2, _⟩ | ⟨g', cap', cur', hv2, _, hc', _⟩
    · rw [hv2]; exact .inr (by rw [hv]; simp [Value.ownBlock])
    · refine .inr fun e => ?_
      rw [hv, hv2] at e
      have e2 : g = g' := by simpa [Value.ownBlock] using e
      subst e2
      rw [hc] at hc'
      injection hc' with hc'
      injection hc' with q1 q2 q3
      exact hne q2
theorem resCellG {P : Program} {fn : Func} {p : Tmp} {ty : TypeId} (h : fn.results = #[.cell p ty]) (tmps : Array Value) (w : World) :
    (results fn tmps).run P w = ((asAddr (tmps.getD p undef)).run P w).andThen fun a w₁ => (loadVar ty a).run P w₁ := by
  simp only [results, h]
  simp [Sem.run_bind, Result.andThen]
theorem KTw.set {k : IntKind} {t t' : TypeId} {w : World} {base b : Nat} {x : Vc} {cs : Array Value} (h : KTw k t w base x) (hw : Whole w b t' cs) (hne : t' ≠ t) (i : Nat) (u : Value) : KTw k t (w.setCell ⟨b, i, none⟩ u) base x := ⟨h.1, h.2.1, own_far h.2.2 hw hne i u⟩
/-- The cells of nodes. -/
def encG (x : Gn) : List Value := [.int .u64 x.1, .slice x.2.1.1 x.2.1.2.2.length x.2.1.2.1, .slice x.2.2.1 x.2.2.2.2.length x.2.2.2.1]
def flatG (L : List Gn) : List Value := L.flatMap encG
theorem flatG_len (L : List Gn) : (flatG L).length = L.length * 3 := by
  induction L with
  | nil => rfl
  | cons x r ih => unfold flatG at *; rw [List.flatMap_cons, List.length_append, ih, List.length_cons]; simp [encG]; omega
theorem flatG_snoc (L : List Gn) (x : Gn) : flatG (L ++ [x]) = flatG L ++ encG x := by unfold flatG; rw [List.flatMap_append]; simp
theorem flatG_get {L : List Gn} : ∀ {i : Nat} {x : Gn}, L[i]? = some x → (flatG L)[i * 3]? = some (.int .u64 x.1) ∧ (flatG L)[i * 3 + 1]? = some (.slice x.2.1.1 x.2.1.2.2.length x.2.1.2.1) ∧ (flatG L)[i * 3 + 2]? = some (.slice x.2.2.1 x.2.2.2.2.length x.2.2.2.1) := by
  induction L with
  | nil => intro i x h; simp at h
  | cons y r ih =>
    intro i x h
    have e : flatG (y :: r) = Value.int .u64 y.1 :: Value.slice y.2.1.1 y.2.1.2.2.length y.2.1.2.1 :: Value.slice y.2.2.1 y.2.2.2.2.length y.2.2.2.1 :: flatG r := rfl
    rw [e]
    cases i with
    | zero => simp at h; subst h; exact ⟨rfl, rfl, rfl⟩
    | succ i =>
      rw [List.getElem?_cons_succ] at h
      have := ih h
      rw [show (i + 1) * 3 = i * 3 + 3 by omega]
      simpa using this
/-- The mark behind a twin's nodes. -/
def gMark : Gn := (77, vNil, vNil)
/-- A row of nodes of the call's own reads as its nodes. -/
theorem rowG_rd {w : World} {base g n cap : Nat} {L : List Gn} (h : w.ownsRow base 62 3 (.slice (some ⟨g, 0, none⟩) n cap) n (flatG L)) (hr : ∀ x ∈ L, Rd .i8 w w.heap.size x.2.1.1 x.2.1.2.2 ∧ Rd .i64 w w.heap.size x.2.2.1 x.2.2.2.2) : RdG w w.heap.size (some ⟨g, 0, none⟩) L := fun hl => by
  have hn : n = L.length := by have := h.1; rw [flatG_len] at this; omega
  refine ⟨g, 0, rfl, (h.lt g rfl).2, fun i hi => ?_⟩
  have e : L[i]? = some (L[i]?.getD gNil) := by simp [List.getElem?_eq_getElem hi]
  obtain ⟨h1, h2, h3⟩ := flatG_get e
  have hm : L[i]?.getD gNil ∈ L := List.mem_of_getElem? e
  refine ⟨?_, ?_, ?_, (hr _ hm).1, (hr _ hm).2⟩
  · rw [Nat.zero_add]; exact (h.cellAt (i * 3) (by omega)).trans h1
  · rw [Nat.zero_add]; exact (h.cellAt (i * 3 + 1) (by omega)).trans h2
  · rw [Nat.zero_add]; exact (h.cellAt (i * 3 + 2) (by omega)).trans h3
/-- A twin of a graph's nodes. -/
structure TwinG (w : World) (base g : Nat) (T : List Gn) : Prop where
  row : w.ownsRow base 62 3 (.slice (some ⟨g, 0, none⟩) (T.length + 1) (T.length + 1)) (T.length + 1) (flatG (T ++ [gMark]))
  tv : ∀ x ∈ T, KTw .i8 43 w base x.2.1
  to : ∀ x ∈ T, KTw .i64 3 w base x.2.2
  av : T.Pairwise fun x y => x.2.1.1 ≠ y.2.1.1
  ao : T.Pairwise fun x y => x.2.2.1 ≠ y.2.2.1
theorem TwinG.below {w w' : World} {base g : Nat} {T : List Gn} (h : TwinG w base g T) (hb : Below w.heap.size w w') : TwinG w' base g T := ⟨own_below h.row hb, fun x hx => (h.tv x hx).below hb, fun x hx => (h.to x hx).below hb, h.av, h.ao⟩
theorem TwinG.own {w : World} {base g : Nat} {T : List Gn} (h : TwinG w base g T) : w.ownsRow base 62 3 (.slice (some ⟨g, 0, none⟩) T.length (T.length + 1)) T.length (flatG T) := by
  have h3 := own_shrink (n := T.length + 1) (c := T.length) (Nat.le_succ _) h.row
  rw [flatG_snoc, List.take_left' (flatG_len T)] at h3
  exact h3
theorem TwinG.rd {w : World} {base g : Nat} {T : List Gn} (h : TwinG w base g T) : RdG w w.heap.size (some ⟨g, 0, none⟩) T := rowG_rd h.own (fun x hx => ⟨(h.tv x hx).rd0, (h.to x hx).rd0⟩)
theorem TwinG.base {w : World} {b b' g : Nat} {T : List Gn} (h : TwinG w b g T) (hb : b' ≤ b) : TwinG w b' g T := ⟨own_base h.row hb, fun x hx => (h.tv x hx).base hb, fun x hx => (h.to x hx).base hb, h.av, h.ao⟩
theorem TwinG.set {w : World} {base g b : Nat} {T : List Gn} {t : TypeId} {cs : Array Value} (h : TwinG w base g T) (hw : Whole w b t cs) (h0 : t ≠ 62) (h1 : t ≠ 43) (h2 : t ≠ 3) (i : Nat) (u : Value) : TwinG (w.setCell ⟨b, i, none⟩ u) base g T :=
  ⟨own_far h.row hw h0 i u, fun x hx => (h.tv x hx).set hw h1 i u, fun x hx => (h.to x hx).set hw h2 i u, h.av, h.ao⟩
theorem pns_tk {L : List Gn} {k : Nat} {x : Pn} (h : (pns L)[k]? = some x) : (pns L).take (k + 1) = (pns L).take k ++ [x] := by rw [List.take_add_one, h]; rfl
/-- A twin under way. -/
structure TwinK (w : World) (base g cap : Nat) (T : List Gn) : Prop where
  row : w.ownsRow base 62 3 (.slice (some ⟨g, 0, none⟩) T.length cap) T.length (flatG T)
  tv : ∀ x ∈ T, KTw .i8 43 w base x.2.1
  to : ∀ x ∈ T, KTw .i64 3 w base x.2.2
  av : T.Pairwise fun x y => x.2.1.1 ≠ y.2.1.1
  ao : T.Pairwise fun x y => x.2.2.1 ≠ y.2.2.1
theorem TwinK.below {w w' : World} {base g cap : Nat} {T : List Gn} (h : TwinK w base g cap T) (hb : Below w.heap.size w w') : TwinK w' base g cap T := ⟨own_below h.row hb, fun x hx => (h.tv x hx).below hb, fun x hx => (h.to x hx).below hb, h.av, h.ao⟩
theorem KTw.farK {k : IntKind} {t e2 : TypeId} {w w' : World} {base b2 n2 s2 : Nat} {x : Vc} {v2 : Value} {xs2 : List Value} (h : KTw k t w base x) (ho : w.ownsRow b2 e2 s2 v2 n2 xs2) (hne : t ≠ e2) (hg : w.grownBy w' v2.ownBlock) : KTw k t w' base x := ⟨h.1, h.2.1, row_farK h.2.2 ho hne hg⟩
theorem TwinK.next {w w1 w2 : World} {base g cap : Nat} {T : List Gn} {x : Gn} (h : TwinK w base g cap T) (hb : Below w.heap.size w w1) (hv : KTw .i8 43 w1 w.heap.size x.2.1) (ho : KTw .i64 3 w1 w.heap.size x.2.2) (hbase : base ≤ w.heap.size) (o : Obj)
    (hown : w2.ownsRow base 62 3 (.slice (some ⟨g, 0, none⟩) (T.length + 1) cap) (T.length + 1) (flatG T ++ encG x)) (hg : (w1.alloc o).grownBy w2 (some g)) : TwinK w2 base g cap (T ++ [x]) := by
  have hr := (own_below h.row hb).alloc o
  have f8 : ∀ y : Vc, KTw .i8 43 w1 base y → KTw .i8 43 w2 base y := fun y hy => (hy.below (below_one (Below.refl _ _) o)).farK hr (by decide) hg
  have f64 : ∀ y : Vc, KTw .i64 3 w1 base y → KTw .i64 3 w2 base y := fun y hy => (hy.below (below_one (Below.refl _ _) o)).farK hr (by decide) hg
  obtain ⟨g1, e1, l1, u1⟩ := hv.lt
  obtain ⟨g2, e2, l2, u2⟩ := ho.lt
  refine ⟨by rw [List.length_append, List.length_singleton, flatG_snoc]; exact hown, fun y hy => ?_, fun y hy => ?_, ?_, ?_⟩
  · rcases List.mem_append.1 hy with h1 | h1
    · exact f8 _ ((h.tv y h1).below hb)
    · rw [List.mem_singleton] at h1
      subst h1
      exact f8 _ (hv.base hbase)
  · rcases List.mem_append.1 hy with h1 | h1
    · exact f64 _ ((h.to y h1).below hb)
    · rw [List.mem_singleton] at h1
      subst h1
      exact f64 _ (ho.base hbase)
  · refine List.pairwise_append.2 ⟨h.av, by simp, fun y hy z hz => ?_⟩
    rw [List.mem_singleton] at hz
    subst hz
    obtain ⟨gy, ey, ly, uy⟩ := (h.tv y hy).lt
    rw [ey, e1]
    intro e
    injection e with e
    injection e with e
    omega
  · refine List.pairwise_append.2 ⟨h.ao, by simp, fun y hy z hz => ?_⟩
    rw [List.mem_singleton] at hz
    subst hz
    obtain ⟨gy, ey, ly, uy⟩ := (h.to y hy).lt
    rw [ey, e2]
    intro e
    injection e with e
    injection e with e
    omega
theorem Try.info62g : (Try.prog.info? 62).map (fun i => (i.zero, i.size, i.bytes)) = some (some (.agg #[.int .u64 0, .slice none 0 0, .slice none 0 0]), 3, 56) := by kernel_rfl
end Go.Proofs.Ytkmngbkghgelfaa
/- A graph without some of its nodes: what it is. -/
namespace Go.Proofs.Ytkmngbkghgelfaa
open Go.RowKit
set_option linter.unusedVariables false
/-- Is a place gone? -/
def goneAt (P : List Int) (i : Nat) : Bool := decide ((i : Int) ∈ P)
def goneL (n : Nat) (P : List Int) : List Bool := (List.range n).map (goneAt P)
def bAt (l : List Bool) (i : Nat) : Bool := l[i]?.getD false
theorem goneL_len (n : Nat) (P : List Int) : (goneL n P).length = n := by simp [goneL]
theorem goneL_at {n : Nat} {P : List Int} {i : Nat} (h : i < n) : bAt (goneL n P) i = goneAt P i := by simp [bAt, goneL, h]
theorem goneL_nil (n : Nat) : goneL n [] = List.replicate n false := by
  apply List.ext_getElem?
  intro i
  by_cases h : i < n <;> simp [goneL, goneAt, h]
theorem goneL_set {n : Nat} {P : List Int} {p : Nat} (h : p < n) : (goneL n P).set p true = goneL n (P ++ [(p : Int)]) := by
  apply List.ext_getElem?
  intro i
  by_cases hp : p = i
  · subst hp; simp [goneL, goneAt, h]
  · rw [List.getElem?_set_ne hp]
    by_cases h1 : i < n
    · have : ¬ ((i : Int) = (p : Int)) := by omega
      simp [goneL, goneAt, h1, this]
    · simp [goneL, h1]
def cellsB (l : List Bool) : Array Value := (l.map Value.bool).toArray
theorem cellsB_made (n : Nat) : madeCells #[Value.bool false] n = cellsB (List.replicate n false) := by
  apply Array.ext'
  unfold madeCells cellsB
  apply List.ext_getElem
  · simp
  · intro i h1 h2
    simp [Nat.mod_one]
theorem cellsB_set (l : List Bool) (i : Nat) (v : Bool) : (cellsB l).setIfInBounds i (.bool v) = cellsB (l.set i v) := by
  unfold cellsB
  apply Array.ext'
  simp [List.map_set]
theorem cellsB_at {l : List Bool} {i : Nat} (h : i < l.length) : (cellsB l)[i]? = some (.bool (bAt l i)) := by
  unfold cellsB bAt
  simp [List.getElem?_eq_getElem h]
/-- The places that are to go are places, and unlike. -/
def OkTo (n : Nat) (P : List Int) : Prop := (∀ p ∈ P, 0 ≤ p ∧ p < (n : Int)) ∧ P.Nodup
instance (n : Nat) (P : List Int) : Decidable (OkTo n P) := by unfold OkTo; infer_instance
theorem OkTo.nil (n : Nat) : OkTo n [] := ⟨fun p h => by simp at h, List.nodup_nil⟩
theorem OkTo.snoc {n : Nat} {P : List Int} {p : Nat} (h : OkTo n P) (hp : p < n) (hg : goneAt P p = false) : OkTo n (P ++ [(p : Int)]) := by
  refine ⟨fun q hq => ?_, ?_⟩
  · rcases List.mem_append.1 hq with h1 | h1
    · exact h.1 q h1
    · rw [List.mem_singleton] at h1; subst h1; exact ⟨by omega, by omega⟩
  · refine List.nodup_append.2 ⟨h.2, by simp, fun a ha b hb => ?_⟩
    rw [List.mem_singleton] at hb
    subst hb
    intro e
    subst e
    simp [goneAt] at hg
    exact hg ha
theorem OkTo.take {n : Nat} {P : List Int} (h : OkTo n P) (k : Nat) : OkTo n (P.take k) := ⟨fun p hp => h.1 p (List.mem_of_mem_take hp), h.2.sublist (List.take_sublist k P)⟩
theorem okTo_range {n : Nat} {P : List Int} {k : Nat} {p : Int} (hp : P[k]? = some p) (h : ¬ (0 ≤ p ∧ p < (n : Int))) : ¬ OkTo n P := fun q => h (q.1 p (List.mem_of_getElem? hp))
theorem okTo_twice {n : Nat} {P : List Int} {k : Nat} {p : Nat} (hp : P[k]? = some (p : Int)) (h : goneAt (P.take k) p = true) : ¬ OkTo n P := fun q => by
  have hk : k < P.length := by rcases Nat.lt_or_ge k P.length with h1 | h1; exact h1; rw [List.getElem?_eq_none h1] at hp; cases hp
  have h1 := (q.take (k + 1)).2
  rw [List.take_add_one, hp] at h1
  have h2 := (List.nodup_append.1 h1).2.2 (p : Int) (by simpa [goneAt] using h) (p : Int) (by simp)
  exact h2 rfl
/-- Where a place comes to. -/
def toN (P : List Int) (i : Nat) : Nat := ((List.range i).filter fun j => !goneAt P j).length
theorem toN_zero (P : List Int) : toN P 0 = 0 := rfl
theorem toN_yes {P : List Int} {i : Nat} (h : goneAt P i = true) : toN P (i + 1) = toN P i := by
  unfold toN; rw [List.range_succ, List.filter_append]; simp [h]
theorem toN_no {P : List Int} {i : Nat} (h : goneAt P i = false) : toN P (i + 1) = toN P i + 1 := by
  unfold toN; rw [List.range_succ, List.filter_append]; simp [h]
theorem toN_le (P : List Int) (i : Nat) : toN P i ≤ i := by
  unfold toN
  have := List.length_filter_le (fun j => !goneAt P j) (List.range i)
  simpa using this
def toK (n : Nat) (P : List Int) (k : Nat) : List Int := (List.range k).map (fun i => ((toN P i : Nat) : Int)) ++ List.replicate (n - k) 0
theorem toK_zero (n : Nat) (P : List Int) : toK n P 0 = List.replicate n 0 := by simp [toK]
theorem toK_len {n : Nat} {P : List Int} {k : Nat} (h : k ≤ n) : (toK n P k).length = n := by simp [toK]; omega
theorem toK_set {n : Nat} {P : List Int} {k : Nat} (h : k < n) : (toK n P k).set k ((toN P k : Nat) : Int) = toK n P (k + 1) := by
  unfold toK
  rw [List.set_append_right _ _ (by simp), List.length_map, List.length_range, Nat.sub_self]
  obtain ⟨m, hm⟩ : ∃ m, n - k = m + 1 := ⟨n - k - 1, by omega⟩
  rw [hm, show n - (k + 1) = m by omega, List.replicate_succ, List.set_cons_zero, List.range_succ]
  simp
theorem toK_at {n : Nat} {P : List Int} {i : Nat} (h : i < n) : hAt (toK n P n) i = ((toN P i : Nat) : Int) := by
  unfold hAt toK
  rw [List.getElem?_append_left (by simpa using h)]
  simp [h]
/-- The neighbours that are left, and where they come to. -/
def keepO (P : List Int) (o : List Int) : List Int := (o.filter fun p => !goneAt P p.toNat).map fun p => ((toN P p.toNat : Nat) : Int)
theorem keepO_yes {P o : List Int} {j : Nat} {p : Nat} (hp : o[j]? = some (p : Int)) (h : goneAt P p = true) : keepO P (o.take (j + 1)) = keepO P (o.take j) := by
  unfold keepO; rw [List.take_add_one, hp, List.filter_append]; simp [h]
theorem keepO_no {P o : List Int} {j : Nat} {p : Nat} (hp : o[j]? = some (p : Int)) (h : goneAt P p = false) : keepO P (o.take (j + 1)) = keepO P (o.take j) ++ [((toN P p : Nat) : Int)] := by
  unfold keepO; rw [List.take_add_one, hp, List.filter_append, List.map_append]; simp [h]
theorem keepO_len (P o : List Int) : (keepO P o).length ≤ o.length := by
  unfold keepO; rw [List.length_map]; exact List.length_filter_le _ _
def dropNode (P : List Int) (x : Pn) : Pn := (x.1, x.2.1, keepO P x.2.2)
noncomputable def dropN (G : List Pn) (P : List Int) (k : Nat) : List Pn := ((List.range k).filter fun i => !goneAt P i).map fun i => dropNode P (nAt G i)
theorem dropN_zero (G : List Pn) (P : List Int) : dropN G P 0 = [] := rfl
theorem dropN_yes {G : List Pn} {P : List Int} {k : Nat} (h : goneAt P k = true) : dropN G P (k + 1) = dropN G P k := by
  unfold dropN; rw [List.range_succ, List.filter_append, List.map_append]; simp [h]
theorem dropN_no {G : List Pn} {P : List Int} {k : Nat} (h : goneAt P k = false) : dropN G P (k + 1) = dropN G P k ++ [dropNode P (nAt G k)] := by
  unfold dropN; rw [List.range_succ, List.filter_append, List.map_append]; simp [h]
theorem dropN_len (G : List Pn) (P : List Int) (k : Nat) : (dropN G P k).length = toN P k := by unfold dropN toN; simp
/-- May the places be dropped? -/
def dropB (G : List Pn) (s : Int) (P : List Int) : Bool := holdsB G s && decide (OkTo G.length P)
noncomputable def dropA (G : List Pn) (s : Int) (P : List Int) : List Pn := if dropB G s P then dropN G P G.length else []
noncomputable def dropS (G : List Pn) (s : Int) (P : List Int) : Int := if dropB G s P && decide (0 < G.length) && !goneAt P s.toNat then ((toN P s.toNat : Nat) : Int) else 0
def vbG (x : Vc) : Option Nat := (Value.slice x.1 x.2.2.length x.2.1).ownBlock
/-- A graph's nodes of the call's own. -/
structure OwnG (w : World) (base : Nat) (A : Option Addr) (c : Nat) (L : List Gn) : Prop where
  row : w.ownsRow base 62 3 (.slice A L.length c) L.length (flatG L)
  vec : ∀ x ∈ L, w.ownsRow base 43 1 (.slice x.2.1.1 x.2.1.2.2.length x.2.1.2.1) x.2.1.2.2.length (x.2.1.2.2.map (Value.int .i8))
  out : ∀ x ∈ L, w.ownsRow base 3 1 (.slice x.2.2.1 x.2.2.2.2.length x.2.2.2.1) x.2.2.2.2.length (x.2.2.2.2.map (Value.int .i64))
  av : L.Pairwise fun x y => vbG x.2.1 = none ∨ vbG x.2.1 ≠ vbG y.2.1
  ao : L.Pairwise fun x y => vbG x.2.2 = none ∨ vbG x.2.2 ≠ vbG y.2.2
theorem OwnG.nil (w : World) (base : Nat) : OwnG w base none 0 [] := ⟨⟨rfl, .inl ⟨rfl, rfl⟩⟩, fun x h => by simp at h, fun x h => by simp at h, List.Pairwise.nil, List.Pairwise.nil⟩
theorem OwnG.below {w w' : World} {base : Nat} {A : Option Addr} {c : Nat} {L : List Gn} (h : OwnG w base A c L) (hb : Below w.heap.size w w') : OwnG w' base A c L :=
  ⟨own_below h.row hb, fun x hx => own_below (h.vec x hx) hb, fun x hx => own_below (h.out x hx) hb, h.av, h.ao⟩
theorem OwnG.base {w : World} {b b' : Nat} {A : Option Addr} {c : Nat} {L : List Gn} (h : OwnG w b A c L) (hb : b' ≤ b) : OwnG w b' A c L :=
  ⟨own_base h.row hb, fun x hx => own_base (h.vec x hx) hb, fun x hx => own_base (h.out x hx) hb, h.av, h.ao⟩
theorem own_rdK {w : World} {base n c : Nat} {e : TypeId} {A : Option Addr} {k : IntKind} {xs : List Int} (h : w.ownsRow base e 1 (.slice A n c) n (xs.map (Value.int k))) : Rd k w w.heap.size A xs := by
  obtain ⟨A', c', hv, _, _, hrd, _⟩ := own_slice h
  injection hv with q1 q2 q3
  rw [q1]; exact hrd
theorem OwnG.rd {w : World} {base : Nat} {A : Option Addr} {c : Nat} {L : List Gn} (h : OwnG w base A c L) : RdG w w.heap.size A L := by
  by_cases hl : 0 < L.length
  · obtain ⟨g, rfl, -⟩ := own_some h.row hl
    exact rowG_rd h.row (fun x hx => ⟨own_rdK (h.vec x hx), own_rdK (h.out x hx)⟩)
  · exact fun h => absurd h hl
/-- An answer that is a graph, and an errno. -/
def GAns (w : World) (G : List Pn) (S E : Int) (e : Ending) (w' : World) : Prop :=
  ∃ A c T, e = .returned (.tuple #[.agg #[.slice A T.length c, .int .i64 S], .int .i64 E]) ∧ OwnG w' w.heap.size A c T ∧ pns T = G ∧ Below w.heap.size w w'
theorem GAns.nil (w : World) (E : Int) {w' : World} (h : Below w.heap.size w w') : GAns w [] 0 E (.returned (.tuple #[.agg #[.slice none 0 0, .int .i64 0], .int .i64 E])) w' := ⟨none, 0, [], rfl, OwnG.nil _ _, rfl, h⟩
end Go.Proofs.Ytkmngbkghgelfaa
/- The walks of math/bits.Mul and slices.Repeat at one number, as often as a graph has nodes. -/
namespace Go.Proofs.Ytkmngbkghgelfaa
open Go.RowKit
set_option linter.unusedVariables false
set_option maxRecDepth 100000 in
theorem mul64_any (n : Nat) (hn : n ≤ 2048) (w : World) :
    Calls Try.prog 58 #[.int .u64 1, .int .u64 (n : Int)] w fun e w' => e = .returned (.tuple #[.int .u64 0, .int .u64 n]) ∧ w' = w := by
  have B1 : bits BinOp.and IntKind.u64 1 4294967295 = 1 := by
    have := bits_and_u64_nat 1 4294967295 (by decide) (by decide)
    simpa using this
  have B0 : bits BinOp.and IntKind.u64 0 4294967295 = 0 := by
    have := bits_and_u64_nat 0 4294967295 (by decide) (by decide)
    simpa using this
  have B2 : bits BinOp.and IntKind.u64 (n : Int) 4294967295 = (n : Int) := by
    have := bits_and_u64_nat n 4294967295 (by omega) (by decide)
    rw [Nat.and_two_pow_sub_one_eq_mod n 32, Nat.mod_eq_of_lt (by omega)] at this
    exact this
  have D1 : (n : Int) / 4294967296 = 0 := by omega
  have W1 : IntKind.u64.wrap (n : Int) = (n : Int) := by rw [IntKind.wrap_u64]; omega
  have W0 : IntKind.u64.wrap 0 = 0 := by decide
  go_enter Try.func58, Try.ntmps58
  go_wp2
  go_ret2
  exact ⟨rfl, rfl⟩
set_option maxRecDepth 100000 in
theorem mul_any (n : Nat) (hn : n ≤ 2048) (w : World) :
    Calls Try.prog 52 #[.int .u64 1, .int .u64 (n : Int)] w fun e w' => e = .returned (.tuple #[.int .u64 0, .int .u64 n]) ∧ w' = w := by
  have H := Lib.hid (mul64_any n hn)
  go_enter Try.func52, Try.ntmps52
  go_wp2_with (go_at_call 58; refine (H.out _).mono ?_; rintro e w' ⟨rfl, rfl⟩)
  go_ret2
  exact ⟨rfl, rfl⟩
theorem fillK_splice {n k m : Nat} (h : k + m ≤ n) : splice ((fillK n k).map (Value.int .i64)) k ((List.replicate m (-1 : Int)).map (Value.int .i64)) = (fillK n (k + m)).map (Value.int .i64) := by
  have e1 : (fillK n k).take k = List.replicate k (-1) := by unfold fillK; rw [List.take_left' (by simp)]
  have e2 : (fillK n k).drop (k + m) = List.replicate (n - (k + m)) 0 := by
    unfold fillK
    rw [← List.drop_drop, List.drop_left' (by simp), List.drop_replicate]
    congr 1; omega
  unfold splice
  rw [← List.map_take, ← List.map_drop, List.length_map, List.length_replicate, e1, e2, ← List.map_append, ← List.map_append, ← List.append_assoc, List.replicate_append_replicate]
  rfl
set_option maxRecDepth 100000 in
set_option maxHeartbeats 4000000 in
theorem repeat_any (n : Nat) (h1 : 1 ≤ n) (hn : n ≤ 2048) (gx : Nat) (w : World) (hx : Whole w gx 3 #[.int .i64 (-1)]) :
    Calls Try.prog 38 #[.slice (some ⟨gx, 0, none⟩) 1 1, .int .i64 (n : Int)] w fun e w' => ∃ g, e = .returned (.slice (some ⟨g, 0, none⟩) n n) ∧ w.heap.size ≤ g ∧ Whole w' g 3 (cellsI (List.replicate n (-1))) ∧ Below w.heap.size w w' := by
  have H := Lib.hid (mul_any n hn)
  have f1 : decide ((n : Int) < 0) = false := decide_eq_false (by omega)
  have W1 : IntKind.u64.wrap (n : Int) = (n : Int) := by rw [IntKind.wrap_u64]; omega
  have W2 : IntKind.i64.wrap (n : Int) = (n : Int) := by rw [IntKind.wrap_i64]; omega
  have W3 : IntKind.u64.wrap 1 = 1 := by decide
  have f2 : decide ((9223372036854775807 : Int) < (n : Int)) = false := decide_eq_false (by omega)
  have hmk : ∀ W : World, (Instr.makeSlice 29 (.int .i64 (n : Int)) (.int .i64 (n : Int))).run Try.prog W = .ok (.slice (some ⟨W.heap.size, 0, none⟩) n n) (W.alloc (.cells (cellsI (List.replicate n 0)) 3)) := fun W => by
    have := run_make_row' (P := Try.prog) 29 3 (.int .i64 0) 8 Try.underlying29 Try.info3 (by rfl) .i64 .i64 n (by omega) (by omega) W
    rw [cellsI_made] at this
    exact this
  have hxc : w.cell? ⟨gx, 0, none⟩ = some (.int .i64 (-1)) := hx.cell 0
  have HX := Lib.hid hx
  clear hx
  go_enter Try.func38, Try.ntmps38
  obtain ⟨i0, hi, hz0, hz1, hz2⟩ := info_parts Try.info3
  have hsz : (Try.prog.info? 3).map (·.size) = some 1 := by rw [hi]; simp [hz1]
  go_wp2_with (first
    | (go_at_call 52; refine (H.out _).mono ?_; rintro e w' ⟨rfl, rfl⟩)
    | (refine wpList_copy_splice (o := ⟨some 33, .call { callee := .builtin .copy, args := #[.tmp 31, .tmp 32], argTypes := #[29, 29] }, _, _, _, _⟩) rfl (.tmp 31) (.tmp 32) 29 29 rfl 3 Try.underlying29 hsz (some ⟨w'.heap.size, 0, none⟩) (some ⟨gx, 0, none⟩) n n 1 1 rfl rfl w'.heap.size 0 ((fillK n 0).map (Value.int .i64)) 3 (by rw [show (fillK n 0) = List.replicate n 0 by simp [fillK]]; exact heap_alloc_new _ _) [.int .i64 (-1)] (by show 1 = Nat.min 1 n; exact (Nat.min_eq_left h1).symm) (fun _ => ⟨rfl, _, rfl, fun j v hj => by
          have hj0 : j = 0 := by rcases Nat.eq_zero_or_pos j with h | h; exact h; rw [List.getElem?_eq_none (by simp; omega)] at hj; cases hj
          subst hj0
          simp only [List.getElem?_cons_zero, Option.some.injEq] at hj
          subst hj
          exact ((HX.out.alloc _).cell 0)⟩) (by simp [fillK]; omega) (by simp [Value.oneCell']) w'.heap.size w' (below_one (Below.refl _ _) _) (Nat.le_refl _) ?_; intro w2 hg2 hb2))
  obtain ⟨g, eg⟩ : ∃ g, w'.heap.size = g := ⟨_, rfl⟩
  have HW2 : Hid (Whole w2 g 3 (cellsI (fillK n 1))) := Lib.hid (by
    have h := hg2.out
    have e := fillK_splice (n := n) (k := 0) (m := 1) (by omega)
    rw [Nat.zero_add] at e
    rw [show ([.int .i64 (-1)] : List Value) = (List.replicate 1 (-1 : Int)).map (Value.int .i64) from rfl, e] at h
    rw [← eg]; exact h)
  have HB2 := Lib.hid hb2
  have HG := Lib.hid eg
  rw [eg] at HB2 ⊢
  clear hg2 hb2 eg hxc HX hmk
  go_loopw [8] (fun i wr => ∃ k : Nat, 1 ≤ k ∧ k ≤ n ∧ i = .int .i64 k ∧ Hid (Whole wr g 3 (cellsI (fillK n k))) ∧ Hid (Below g w' wr)) (fun i _ => n - (intOf i).toNat)
  case atStart => exact ⟨1, Nat.le_refl _, h1, rfl, HW2, HB2⟩
  case round =>
    clear HW2 HB2
    obtain ⟨k, hk1, hkn, rfl, HW, HB⟩ := hrel
    by_cases hlt : k < n
    · have e1 : decide ((k : Int) < (n : Int)) = true := decide_eq_true (by omega)
      have x1 : (0 : Int) ≤ (k : Int) := by omega
      have x2 : (k : Int) ≤ (n : Int) := by omega
      have x3 : ¬ (n = k) := by omega
      go_wp2
      obtain ⟨m, em⟩ : ∃ m, Nat.min k (n - k) = m := ⟨_, rfl⟩
      have hm1 : 1 ≤ m := by rw [← em]; show 1 ≤ min k (n - k); omega
      have hm2 : k + m ≤ n := by rw [← em]; show k + min k (n - k) ≤ n; omega
      have hm3 : m ≤ k := by rw [← em]; show min k (n - k) ≤ k; omega
      have HM := Lib.hid em
      clear em
      have HWd : Hid (Whole wr.drew g 3 (cellsI (fillK n k))) := HW
      have hcl : ((List.replicate m (-1 : Int)).map (Value.int .i64)).length = m := by simp
      have HSRC : Hid (0 < ((List.replicate m (-1 : Int)).map (Value.int .i64)).length → (some ⟨g, k, none⟩ : Option Addr) = some ⟨g, k, none⟩ ∧ ∃ ad, (some ⟨g, 0, none⟩ : Option Addr) = some ad ∧ ∀ (j : Nat) (v : Value), ((List.replicate m (-1 : Int)).map (Value.int .i64))[j]? = some v → wr.drew.cell? (ad.add j) = some v) := fun _ => ⟨rfl, _, rfl, fun j v hj => by
        have hjm : j < m := by
          rcases Nat.lt_or_ge j m with h | h
          · exact h
          · rw [List.getElem?_eq_none (by simpa using h)] at hj; cases hj
        have ev : v = .int .i64 (-1) := by
          rw [List.getElem?_map, List.getElem?_replicate, if_pos hjm] at hj
          simpa using hj.symm
        have := (HWd.out.cell j).trans (cellsI_at (by rw [fillK_len hkn]; omega))
        have e3 : hAt (fillK n k) j = -1 := by
          unfold hAt fillK
          rw [List.getElem?_append_left (by simp; omega), List.getElem?_replicate, if_pos (by omega)]
          rfl
        rw [e3] at this
        rw [ev, ← this]
        by_cases h0 : j = 0
        · subst h0; rfl
        · simp [Addr.add, h0]⟩
      have HFIT : Hid (k + ((List.replicate m (-1 : Int)).map (Value.int .i64)).length ≤ ((fillK n k).map (Value.int .i64)).length) := Lib.hid (by rw [hcl, List.length_map, fillK_len hkn]; exact hm2)
      have HONE : Hid (∀ v ∈ (List.replicate m (-1 : Int)).map (Value.int .i64), v.oneCell' = true) := Lib.hid (fun v hv => by obtain ⟨x, -, rfl⟩ := List.mem_map.1 hv; rfl)
      go_region_held3 (fun _ => True) (trivial) (first | (refine step_copy_splice (o := ⟨some 45, .call { callee := .builtin .copy, args := #[.tmp 41, .tmp 44], argTypes := #[29, 29] }, _, _, _, _⟩) rfl (.tmp 41) (.tmp 44) 29 29 rfl 3 Try.underlying29 hsz (some ⟨g, k, none⟩) (some ⟨g, 0, none⟩) (n - k) (n - k) k n rfl rfl g k ((fillK n k).map (Value.int .i64)) 3 HWd.out ((List.replicate m (-1 : Int)).map (Value.int .i64)) (hcl.trans HM.out.symm) HSRC.out HFIT.out HONE.out g w' (HB.out.trans (Below.refl _ wr).drew) (Nat.le_refl _) ?_; intro w4 hg4 hb4) | fail)
      have hwk : IntKind.i64.wrap ((k : Int) + (m : Int)) = ((k + m : Nat) : Int) := by rw [IntKind.wrap_i64]; omega
      have HW4 : Hid (Whole w4 g 3 (cellsI (fillK n (k + m)))) := Lib.hid (by have h := hg4.out; rw [fillK_splice hm2] at h; exact h)
      have HB4 := Lib.hid hb4
      clear hg4 hb4 HSRC HFIT HONE
      rw [hwk]
      obtain ⟨gi, egi⟩ : ∃ gi, goInt (((List.replicate m (-1 : Int)).map (Value.int .i64)).length : Int) = gi := ⟨_, rfl⟩
      rw [egi]
      clear egi hwk hcl HWd
      go_roundw
      case rel => exact ⟨.int .i64 ((k + m : Nat) : Int), _, _, _, _, _, _, _, _, _, _, _, _, _, ⟨k + m, by omega, hm2, rfl, HW4, HB4⟩, rfl⟩
      case measure => simp [intOf]; omega
    · obtain rfl : k = n := by omega
      have e1 : decide ((k : Int) < (k : Int)) = false := decide_eq_false (by omega)
      go_wp2
      go_ret
      refine ⟨g, rfl, Nat.le_of_eq HG.out, ?_, ?_⟩
      · have := HW.out
        rwa [show fillK k k = List.replicate k (-1) by simp [fillK]] at this
      · rw [HG.out]; exact HB.out
end Go.Proofs.Ytkmngbkghgelfaa
/- Sends and receives that never wait, inside the walk of one goroutine: a law for a region that communicates, over any program. -/
namespace Go.Proofs.Ytkmngbkghgelfaa
open Go.Conc

/-- What is left of a region leads to Q: said of the machine's own steps. -/
def RegTo (P : Program) (ops : Array Oper) (Q : Exit → Act → World → Prop) (l : List Nat) (a : Act) (w : World) : Prop :=
  ∀ (b : Frame) (k : List Item) (cs : List Frame), ∃ e a' w', Q e a' w' ∧ Arrives P (lone (b.at a (.inRegion ops l :: k)) cs w) b k cs e a' w'

section
variable {P : Program} {ops : Array Oper} {Q : Exit → Act → World → Prop} {a : Act} {w w₁ : World} {i : Nat} {rest : List Nat} {o : Oper}
theorem RegTo.of_ops {l : List Nat} (h : wpOps P ops Q l a w) : RegTo P ops Q l a w := wp_ops l a w h
theorem RegTo.done (h : Q .normal a w) : RegTo P ops Q [] a w := wp_ops [] a w h
theorem RegTo.region {id : Nat} (h : RegTo P ops Q (List.range ops.size) a w) : (Code.region id ops false).wp P Q a w :=
  fun b k cs => let ⟨e, a', w', q, r⟩ := h b k cs; ⟨e, a', w', q, .of_steps (.one step_region) r⟩
theorem RegTo.region_draw {id : Nat} (h : ∀ t, RegTo P ops Q (Region.schedule (P.follows .mixedOrders) ops t) a { w with drawn := w.drawn + 1 }) : (Code.region id ops true).wp P Q a w :=
  fun b k cs => let ⟨e, a', w', q, r⟩ := h _ b k cs; ⟨e, a', w', q, .of_steps (.one step_region_draw) r⟩

/-- An operation that yields a value. -/
theorem RegTo.value {v : Value} (ho : ops[i]? = some o) (hw : Region.wanted o (yielded ops a.tmps) = true)
    (hr : (execOp a.eval o).run P w = .ok (.value v) w₁) (h : RegTo P ops Q rest (a.put o.dst v) w₁) : RegTo P ops Q (i :: rest) a w := by
  intro b k cs
  obtain ⟨e, a', w', hq, harr⟩ := h b k cs
  refine ⟨e, a', w', hq, .of_steps (.one (step_lone_go ?_)) harr⟩
  have hfin : (b.at a (.inRegion ops (i :: rest) :: k)).finish v = b.at (a.put o.dst v) (.inRegion ops rest :: k) := by rw [Frame.finish_at, ho]; rfl
  rw [stepG_op ho hw, ← hfin]
  simp [stepG.apply, hr]

/-- A move. -/
theorem RegTo.move {x : Operand} (ho : ops[i]? = some o) (hop : o.op = .move x) (hg : o.guard = none) (h : RegTo P ops Q rest (a.put o.dst (a.eval x)) w) : RegTo P ops Q (i :: rest) a w :=
  RegTo.value ho (by simp [Region.wanted, hg]) (by simp [execOp, hop]) h

theorem comm_of {cases : Array CommCase} {blocking : Bool} {shape : CommShape} (ho : ops[i]? = some o) (hw : Region.wanted o (yielded ops a.tmps) = true)
    (hr : (execOp a.eval o).run P w = .ok (.comm cases blocking shape) w₁) (b : Frame) (k : List Item) (cs : List Frame) :
    ∃ es, stepG P true (G (b.at a (.inRegion ops (i :: rest) :: k)) cs) w = .comm (G (b.at a (.inRegion ops (i :: rest) :: k)) cs) cases blocking shape w₁ es := by
  rw [stepG_oper ho hw]
  simp [stepG.apply, hr, G, Frame.at, GStep.after]

/-- A send into a buffer with room. -/
theorem RegTo.send {c cap s r : Nat} {buf : Array Value} {v z : Value} {tm : Bool} (ho : ops[i]? = some o) (hw : Region.wanted o (yielded ops a.tmps) = true)
    (hr : (execOp a.eval o).run P w = .ok (.comm #[scase c v z] true .send) w₁) (hc : w₁.heap[c]? = some (.chan cap buf false s r tm)) (hroom : buf.size < cap)
    (h : RegTo P ops Q rest (a.put o.dst undef) (w₁.setChan c cap (buf.push v) false (s + 1) r tm)) : RegTo P ops Q (i :: rest) a w := by
  intro b k cs
  obtain ⟨e, a', w', hq, harr⟩ := h b k cs
  obtain ⟨es, hs⟩ := comm_of (rest := rest) ho hw hr b k cs
  have h2 := step_lone_send_room hs hc hroom
  rw [Frame.finish_at, ho] at h2
  exact ⟨e, a', w', hq, .of_steps (.one h2) harr⟩

/-- A receive from a buffer that holds something. -/
theorem RegTo.recv {c cap s r : Nat} {buf : Array Value} {z : Value} {tm closed ok : Bool} (ho : ops[i]? = some o) (hw : Region.wanted o (yielded ops a.tmps) = true)
    (hr : (execOp a.eval o).run P w = .ok (.comm #[rcase c z] true (.recv ok)) w₁) (hc : w₁.heap[c]? = some (.chan cap buf closed s r tm)) (hsome : 0 < buf.size)
    (h : RegTo P ops Q rest (a.put o.dst (got ok (buf.getD 0 undef) true)) (w₁.setChan c cap (buf.extract 1 buf.size) closed s (r + 1) tm)) : RegTo P ops Q (i :: rest) a w := by
  intro b k cs
  obtain ⟨e, a', w', hq, harr⟩ := h b k cs
  obtain ⟨es, hs⟩ := comm_of (rest := rest) ho hw hr b k cs
  have h2 := step_lone_recv_buf ok hs hc hsome
  rw [Frame.finish_at, ho] at h2
  exact ⟨e, a', w', hq, .of_steps (.one h2) harr⟩

/-- A receive from a closed channel whose buffer is empty. -/
theorem RegTo.shut {c cap s r : Nat} {z : Value} {tm ok : Bool} (ho : ops[i]? = some o) (hw : Region.wanted o (yielded ops a.tmps) = true)
    (hr : (execOp a.eval o).run P w = .ok (.comm #[rcase c z] true (.recv ok)) w₁) (hc : w₁.heap[c]? = some (.chan cap #[] true s r tm))
    (h : RegTo P ops Q rest (a.put o.dst (got ok z false)) w₁) : RegTo P ops Q (i :: rest) a w := by
  intro b k cs
  obtain ⟨e, a', w', hq, harr⟩ := h b k cs
  obtain ⟨es, hs⟩ := comm_of (rest := rest) ho hw hr b k cs
  have h2 := step_lone_recv_shut ok hs hc
  rw [Frame.finish_at, ho] at h2
  exact ⟨e, a', w', hq, .of_steps (.one h2) harr⟩
end
end Go.Proofs.Ytkmngbkghgelfaa
/- The walk of the program's stepsFrom: nodes that are come to wait in a channel. -/
namespace Go.Proofs.Ytkmngbkghgelfaa
open Go.RowKit Go.Conc
set_option linter.unusedVariables false
/-- How much was taken out of a channel. -/
def takenOf (W : World) (c : Nat) : Nat := match W.heap[c]? with
  | some (.chan _ _ _ _ r _) => r
  | _ => 0
/-- The steps so far, and the channel with those that wait. -/
structure ChSt (w : World) (g c n : Nat) (H : List Int) (B : List Value) (cl : Bool) (r : Nat) (W : World) : Prop where
  bel : Below w.heap.size w W
  h : Whole W g 3 (cellsI H)
  ch : ∃ s, W.heap[c]? = some (.chan n B.toArray cl s r false)
  hl : H.length = n
  gb : w.heap.size ≤ g
  gc : g < c
theorem ChSt.taken {w W : World} {g c n r : Nat} {H : List Int} {B : List Value} {cl : Bool} (t : ChSt w g c n H B cl r W) : takenOf W c = r := by
  obtain ⟨s, h⟩ := t.ch
  unfold takenOf
  rw [h]
theorem ChSt.clt {w W : World} {g c n r : Nat} {H : List Int} {B : List Value} {cl : Bool} (t : ChSt w g c n H B cl r W) : c < W.heap.size := by
  obtain ⟨s, h⟩ := t.ch
  exact (Array.getElem?_eq_some_iff.1 h).1
theorem ChSt.setH {w W : World} {g c n r : Nat} {H : List Int} {B : List Value} {cl : Bool} (t : ChSt w g c n H B cl r W) (i : Nat) (v : Int) : ChSt w g c n (H.set i v) B cl r (W.setCell ⟨g, i, none⟩ (.int .i64 v)) := by
  obtain ⟨s, h⟩ := t.ch
  exact ⟨t.bel.setCell (p := ⟨g, i, none⟩) t.gb _, by rw [← cellsI_set]; exact t.h.set i _, ⟨s, (heap_setCell_other W ⟨g, i, none⟩ c _ (by have := t.gc; show c ≠ g; omega)).trans h⟩, by rw [List.length_set]; exact t.hl, t.gb, t.gc⟩
theorem ChSt.chan {w W : World} {g c n r r' s' : Nat} {H : List Int} {B : List Value} {cl : Bool} (t : ChSt w g c n H B cl r W) (B' : Array Value) (cl' : Bool) : ChSt w g c n H B'.toList cl' r' (W.setChan c n B' cl' s' r' false) :=
  ⟨below_setChan t.bel (by have := t.gb; have := t.gc; omega) _ _ _ _ _ _, by
    have := t.gc
    show (W.heap.setIfInBounds c _)[g]? = _
    rw [Array.getElem?_setIfInBounds_ne (by omega)]; exact t.h, ⟨s', heap_setChan W c n B' cl' s' r' false t.clt⟩, t.hl, t.gb, t.gc⟩
theorem ChSt.below {w W W' : World} {g c n r : Nat} {H : List Int} {B : List Value} {cl : Bool} (t : ChSt w g c n H B cl r W) (hb : Below W.heap.size W W') : ChSt w g c n H B cl r W' := by
  obtain ⟨s, h⟩ := t.ch
  exact ⟨t.bel.trans (hb.mono t.bel.size), t.h.below hb t.h.lt, ⟨s, (hb.block c t.clt).trans h⟩, t.hl, t.gb, t.gc⟩
theorem takenOf_drew (W : World) (c q : Nat) : takenOf (W.drewN q) c = takenOf W c := by
  have := (below_drewN (Below.refl (c + 1) W) q).block c (by omega)
  unfold takenOf; rw [this]
theorem Try.info3chan : ∃ i, Try.prog.info? 3 = some i ∧ i.bytes = 8 := by
  have h : (Try.prog.info? 3).map (·.bytes) = some 8 := by kernel_rfl
  obtain ⟨i, hi, hb⟩ := Option.map_eq_some_iff.1 h
  exact ⟨i, hi, hb⟩
theorem mkChan (w : World) (n : Nat) (hn : n ≤ 2048) : (Instr.makeChan 88 (.int .i64 (n : Int))).run Try.prog w = .ok (.chan (some w.heap.size)) (w.alloc (.chan n #[] false 0 0 false)) := by
  obtain ⟨i, hi, hb⟩ := Try.info3chan
  exact run_makeChan (P := Try.prog) (w := w) Try.underlying88 hi .i64 n (by omega) (by rw [hb]; omega)
/-- What slices.Repeat gives at one number below 0. -/
def RepeatSpec : Prop := ∀ (n : Nat), 1 ≤ n → n ≤ 2048 → ∀ (gx : Nat) (w : World), Whole w gx 3 #[.int .i64 (-1)] →
    Calls Try.prog 38 #[.slice (some ⟨gx, 0, none⟩) 1 1, .int .i64 (n : Int)] w fun e w' => ∃ g, e = .returned (.slice (some ⟨g, 0, none⟩) n n) ∧ w.heap.size ≤ g ∧ Whole w' g 3 (cellsI (List.replicate n (-1))) ∧ Below w.heap.size w w'
set_option maxRecDepth 100000 in
set_option maxHeartbeats 4000000 in
theorem steps_any (HR : RepeatSpec) (A : Option Addr) (c : Nat) (L : List Gn) (sN : Nat) (w : World) (D : Nat) (hD : D ≤ w.heap.size) (hx : RdG w D A L) (hh : holdsB (pns L) (sN : Int) = true) (hn : 0 < L.length) (hs : ∀ x ∈ pns L, x.2.2.length ≤ 20000) :
    Calls Try.prog 25 #[.int .i64 (sN : Int), .slice A L.length c] w fun e w' => ∃ g, e = .returned (.slice (some ⟨g, 0, none⟩) L.length L.length) ∧ w.heap.size ≤ g ∧ Whole w' g 3 (cellsI (hopsL (pns L) (sN : Int))) ∧ Below w.heap.size w w' := by
  have HH := holdsB_yes hh
  have hL : L.length ≤ 2048 := by have := HH.1; rwa [pns_len] at this
  have HXW := Lib.hid hx
  have HSM := Lib.hid hs
  have HL := Lib.hid (pns_len L)
  have HHS := Lib.hid HH
  have hst := HH.start (by rw [pns_len]; exact hn)
  rw [pns_len] at hst
  have hsN : sN < L.length := by omega
  have HRS := Lib.hid (HR L.length hn hL)
  have hmk := fun W => mkChan W L.length hL
  have x1 : (0 : Int) ≤ (sN : Int) := by omega
  have x2 : (sN : Int) < (L.length : Int) := by omega
  have B1 : Below w.heap.size w (w.alloc (.cells #[.int .i64 (-1)] 3)) := below_one (Below.refl _ _) _
  have R1 : Hid (Whole (w.alloc (.cells #[.int .i64 (-1)] 3)) w.heap.size 3 #[.int .i64 (-1)]) := Lib.hid (Whole.new w 3 _)
  have HB1 := Lib.hid B1
  clear hx hh HH hs hst B1
  go_enter Try.func25, Try.ntmps25
  go_upto_region 3 with (go_at_call 38; refine (HRS.out _ _ R1.out).mono ?_; rintro e w1 ⟨g, rfl, hg, hW, hb⟩)
  have hg0 : w.heap.size + 1 ≤ g := by rw [World.size_alloc] at hg; exact hg
  have hb1 : Below w.heap.size w w1 := HB1.out.trans (hb.mono HB1.out.size)
  have st0 : ChSt w g w1.heap.size L.length (List.replicate L.length (-1)) [] false 0 (w1.alloc (.chan L.length #[] false 0 0 false)) := ⟨below_one hb1 _, hW.alloc _, ⟨0, heap_alloc_new _ _⟩, by simp, by omega, hW.lt⟩
  obtain ⟨w2, ew2⟩ : ∃ w2, w1.alloc (.chan L.length #[] false 0 0 false) = w2 := ⟨_, rfl⟩
  obtain ⟨cc, ecc⟩ : ∃ cc, w1.heap.size = cc := ⟨_, rfl⟩
  rw [ecc, ew2] at st0
  rw [ecc, ew2]
  clear ew2 ecc hg hW hb hb1 hmk HB1 R1
  have c1 : w2.cell? ⟨g, sN, none⟩ = some (.int .i64 (hAt (List.replicate L.length (-1)) sN)) := (st0.h.cell sN).trans (cellsI_at (by simpa using hsN))
  have f1 := st0.h.frozen sN
  have n1 := st0.setH sN 0
  have HB : Hid (Bfs (pns L) sN ((List.replicate L.length (-1)).set sN 0) [sN] 0 0) := Lib.hid (by
    have := Bfs.begin_ (G := pns L) (s := sN) (by rw [HL.out]; exact hsN)
    rw [HL.out] at this
    exact this)
  have HN := Lib.hid n1
  clear n1 st0
  go_upto_region 4 with fail
  clear c1 f1
  refine RegTo.region ?_
  refine RegTo.move (o := ⟨some 21, .move (.tmp 6), _, _, _, _⟩) rfl rfl rfl ?_
  refine RegTo.move (o := ⟨some 22, .move (.tmp 0), _, _, _, _⟩) rfl rfl rfl ?_
  go_simp
  obtain ⟨w3, ew3⟩ : ∃ w3, w2.setCell ⟨g, sN, none⟩ (.int .i64 0) = w3 := ⟨_, rfl⟩
  rw [ew3] at HN ⊢
  clear ew3
  obtain ⟨s0, hs0⟩ := HN.out.ch
  refine RegTo.send (o := ⟨none, .send (.tmp 21) (.tmp 22), _, _, _, _⟩) (c := cc) (v := .int .i64 (sN : Int)) (z := .tuple #[]) (w₁ := w3) rfl rfl (by simp [execOp, scase, Act.eval]) hs0 (by simp; omega) ?_
  refine RegTo.done ?_
  have n4 := HN.out.chan (r' := 0) (s' := s0 + 1) #[.int .i64 (sN : Int)] false
  go_simp
  obtain ⟨w4, ew4⟩ : ∃ w4, w3.setChan cc L.length #[.int .i64 (sN : Int)] false (s0 + 1) 0 false = w4 := ⟨_, rfl⟩
  rw [ew4] at n4 ⊢
  have HS4 : Hid (ChSt w g cc L.length ((List.replicate L.length (-1)).set sN 0) (qv ([sN].drop 0)) false 0 w4) := Lib.hid n4
  clear ew4 n4 hs0 HN
  go_wp2
  go_loopw [7, 8, 10] (fun l _ _ wz => ∃ (at_ : Nat) (H : List Int) (Q : List Nat), at_ ≤ Q.length ∧ l = .int .i64 ((Q.length - at_ : Nat) : Int) ∧ Hid (Bfs (pns L) sN H Q at_ 0) ∧ Hid (ChSt w g cc L.length H (qv (Q.drop at_)) (decide (at_ = Q.length)) at_ wz)) (fun _ _ _ wz => L.length + 1 - takenOf wz cc)
  case atStart => exact ⟨0, _, [sN], Nat.zero_le _, rfl, HB, HS4⟩
  case round =>
    clear HB HS4
    obtain ⟨at_, H, Q, hal, rfl, HB, HS⟩ := hrel
    have hql : Q.length ≤ L.length := by have := HB.out.qlen; rwa [HL.out] at this
    by_cases hat : at_ < Q.length
    · have hcl0 : decide (at_ = Q.length) = false := decide_eq_false (by omega)
      obtain ⟨cN, ecN⟩ : ∃ cN, qAt Q at_ = cN := ⟨_, rfl⟩
      have hcN : cN < L.length := by rw [← ecN, ← HL.out]; exact HB.out.ql _ (qAt_mem hat)
      have HC := Lib.hid ecN
      have ed0 : Q.drop at_ = cN :: Q.drop (at_ + 1) := by
        rw [List.drop_eq_getElem_cons hat, ← ecN]
        unfold qAt
        simp [List.getElem?_eq_getElem hat]
      have ed : qv (Q.drop at_) = .int .i64 (cN : Int) :: qv (Q.drop (at_ + 1)) := by rw [ed0]; rfl
      clear ed0
      rw [hcl0, ed] at HS
      obtain ⟨s1, hs1⟩ := HS.out.ch
      have HS1 := Lib.hid hs1
      clear hcl0 ecN ed hs1
      go_upto_region 7 with fail
      refine RegTo.region ?_
      refine RegTo.recv (o := ⟨some 24, .recv 88 (.tmp 23) true, _, _, _, _⟩) (c := cc) (z := .int .i64 0) (ok := true) (w₁ := wr) rfl rfl (by simp [go_sem, rcase]) HS1.out (by simp) ?_
      refine RegTo.value (o := ⟨some 25, .extract (.tmp 24) 1, _, _, _, _⟩) (v := .bool true) (w₁ := wr.setChan cc L.length ((Value.int .i64 (cN : Int) :: qv (Q.drop (at_ + 1))).toArray.extract 1 (Value.int .i64 (cN : Int) :: qv (Q.drop (at_ + 1))).toArray.size) false s1 (at_ + 1) false) rfl rfl (by go_simp; simp [got]) ?_
      refine RegTo.done ?_
      have hx0 : (Value.int .i64 (cN : Int) :: qv (Q.drop (at_ + 1))).toArray.extract 1 (Value.int .i64 (cN : Int) :: qv (Q.drop (at_ + 1))).toArray.size = (qv (Q.drop (at_ + 1))).toArray := by simp
      have n5 := HS.out.chan (r' := at_ + 1) (s' := s1) (qv (Q.drop (at_ + 1))).toArray false
      rw [hx0]
      have e9 : got true ((Value.int .i64 (cN : Int) :: qv (Q.drop (at_ + 1))).toArray.getD 0 undef) true = .tuple #[.int .i64 (cN : Int), .bool true] := by simp [got]
      rw [e9]
      go_simp
      obtain ⟨w5, ew5⟩ : ∃ w5, wr.setChan cc L.length (qv (Q.drop (at_ + 1))).toArray false s1 (at_ + 1) false = w5 := ⟨_, rfl⟩
      rw [ew5] at n5 ⊢
      have HS5 : Hid (ChSt w g cc L.length H (qv (Q.drop (at_ + 1))) false (at_ + 1) w5) := Lib.hid n5
      have HTK : Hid (takenOf wr cc = at_) := Lib.hid HS.out.taken
      obtain ⟨b, off, id', a1, c1, v, a2, c2, o, rfl, hBb, h1, h2, h3, hr1, hr2, hv⟩ := HXW.out.at_ hcN
      have bW : Below D w w5 := n5.bel.mono hD
      have h3' : w5.cell? ⟨b, off + cN * 3 + 2, none⟩ = some (.slice a2 o.length c2) := (bW.cell (p := ⟨b, off + cN * 3 + 2, none⟩) hBb).trans h3
      have EO := Lib.hid (show outAt (pns L) cN = o by unfold outAt; rw [nAt_get (pns_at hv.out)])
      have HRD := Lib.hid hr2
      have hol : o.length ≤ 20000 := HSM.out _ (List.mem_of_getElem? (pns_at hv.out))
      have y3 : (0 : Int) ≤ (cN : Int) := by omega
      have y4 : (cN : Int) < (L.length : Int) := by omega
      have C0 : Hid (qAt Q at_ = cN ∧ at_ < Q.length) := Lib.hid ⟨HC.out, hat⟩
      clear ew5 n5 hx0 e9 HS1 HS hv hr1 hr2 h1 h2 h3 bW HC
      go_wp2
      clear h3'
      go_loopw [7, 10, 33] (fun l _ i wz => ∃ (k : Nat) (H : List Int) (Q : List Nat), k ≤ o.length ∧ i = .int .i64 k ∧ l = .int .i64 ((Q.length - at_ : Nat) : Int) ∧ Hid (qAt Q at_ = cN ∧ at_ < Q.length) ∧ Hid (Bfs (pns L) sN H Q at_ k) ∧ Hid (ChSt w g cc L.length H (qv (Q.drop (at_ + 1))) false (at_ + 1) wz)) (fun _ _ i _ => o.length - (intOf i).toNat)
      case atStart => exact ⟨0, H, Q, Nat.zero_le _, rfl, rfl, C0, HB, HS5⟩
      case round =>
        clear C0 HB HS5 hal hat hql
        obtain ⟨k, H, Q, hk, rfl, rfl, HC, HB, HS⟩ := hrel
        have hql : Q.length ≤ L.length := by have := HB.out.qlen; rwa [HL.out] at this
        have hat := HC.out.2
        by_cases hlt : k < o.length
        · have g1 : decide ((k : Int) < (o.length : Int)) = true := decide_eq_true (by omega)
          obtain ⟨bo, oo, t, rfl, hBo, hco, hvo⟩ := HRD.out.at_ hlt
          have et : (outAt (pns L) (qAt Q at_))[k]? = some t := by rw [HC.out.1, EO.out, ← hvo.out, List.getElem?_eq_getElem hlt]; rfl
          have htr := HHS.out.out (i := qAt Q at_) (by rw [HC.out.1, HL.out]; exact hcN) (List.mem_of_getElem? et)
          rw [HL.out] at htr
          obtain ⟨tN, rfl⟩ := Int.eq_ofNat_of_zero_le htr.1
          have htN : tN < L.length := by omega
          have bW : Below D w wr := HS.out.bel.mono hD
          have co' : wr.cell? ⟨bo, oo + k, none⟩ = some (.int .i64 (tN : Int)) := (bW.cell (p := ⟨bo, oo + k, none⟩) hBo).trans hco
          have ch : wr.cell? ⟨g, tN, none⟩ = some (.int .i64 (hAt H tN)) := (HS.out.h.cell tN).trans (cellsI_at (by rw [HS.out.hl]; exact htN))
          have z1 : (0 : Int) ≤ (k : Int) := by omega
          have z2 : (k : Int) < (o.length : Int) := by omega
          have z3 : (0 : Int) ≤ (tN : Int) := by omega
          have z4 : (tN : Int) < (L.length : Int) := by omega
          have ET := Lib.hid et
          have HT1 : Hid ((0 : Int) ≤ (tN : Int) ∧ (tN : Int) < ((pns L).length : Int)) := Lib.hid ⟨z3, by rw [HL.out]; exact z4⟩
          clear hvo hco bW et htr
          by_cases hneg : hAt H tN < 0
          · have hm1 : hAt H tN = -1 := by
              by_cases hmem : tN ∈ Q
              · obtain ⟨d, hd, -⟩ := HB.out.snd _ hmem
                omega
              · exact HB.out.no tN (by rw [HL.out]; exact htN) hmem
            have q1 : (hAt H tN == -1) = true := beq_iff_eq.2 hm1
            obtain ⟨hT, ehT⟩ : ∃ hT, hAt H tN = hT := ⟨_, rfl⟩
            have hcb := HB.out.bd _ (qAt_mem hat)
            rw [HC.out.1] at hcb
            obtain ⟨dC, hdC, -⟩ := HB.out.snd _ (qAt_mem hat)
            rw [HC.out.1] at hdC
            obtain ⟨hC, ehC⟩ : ∃ hC, hAt H cN = hC := ⟨_, rfl⟩
            have hc0 : 0 ≤ hC := by rw [← ehC, hdC]; omega
            rw [ehC] at hcb
            have wk : IntKind.i64.wrap (hC + 1) = hC + 1 := by rw [IntKind.wrap_i64]; omega
            have cl : wr.cell? ⟨g, cN, none⟩ = some (.int .i64 hC) := (HS.out.h.cell cN).trans (by rw [cellsI_at (by rw [HS.out.hl]; exact hcN), ehC])
            have fh := HS.out.h.frozen tN
            have HB2 := Lib.hid (HB.out.new hat ET.out HT1.out (by rw [Int.toNat_natCast]; exact hneg))
            rw [HC.out.1, Int.toNat_natCast, ehC] at HB2
            have n6 := HS.out.setH tN (hC + 1)
            have HN6 := Lib.hid n6
            obtain ⟨s6, hs6⟩ := n6.ch
            have HS6 := Lib.hid hs6
            have hroom : (qv (Q.drop (at_ + 1))).toArray.size < L.length := by simp [qv]; omega
            have hbuf : (qv (Q.drop (at_ + 1))).toArray.push (.int .i64 (tN : Int)) = (qv ((Q ++ [tN]).drop (at_ + 1))).toArray := by
              rw [List.drop_append_of_le_length (by omega), qv_snoc]; simp
            have HC2 : Hid (qAt (Q ++ [tN]) at_ = cN ∧ at_ < (Q ++ [tN]).length) := Lib.hid ⟨(qAt_app hat).trans HC.out.1, by rw [List.length_append]; omega⟩
            obtain ⟨lf, elf⟩ : ∃ lf : Int, ((Q.length - at_ : Nat) : Int) = lf := ⟨_, rfl⟩
            have hlf1 : 0 ≤ lf := by rw [← elf]; omega
            have hlf2 : lf ≤ 2048 := by rw [← elf]; omega
            have helf : lf + 1 = (((Q ++ [tN]).length - at_ : Nat) : Int) := by rw [← elf, List.length_append, List.length_singleton]; omega
            have HLF := Lib.hid helf
            have wk2 : IntKind.i64.wrap (lf + 1) = lf + 1 := by rw [IntKind.wrap_i64]; omega
            rw [ehT] at ch q1
            rw [elf]
            clear ehT hneg hm1 hs6 n6 ehC hdC hcb helf elf HB HS HC
            go_upto_region 14 with fail
            clear co' ch cl fh
            refine RegTo.region ?_
            refine RegTo.move (o := ⟨some 50, .move (.tmp 6), _, _, _, _⟩) rfl rfl rfl ?_
            refine RegTo.move (o := ⟨some 51, .move (.tmp 10), _, _, _, _⟩) rfl rfl rfl ?_
            go_simp
            refine RegTo.send (o := ⟨none, .send (.tmp 50) (.tmp 51), _, _, _, _⟩) (c := cc) (v := .int .i64 (tN : Int)) (z := .tuple #[]) (w₁ := wr.setCell ⟨g, tN, none⟩ (.int .i64 (hC + 1))) rfl rfl (by simp [execOp, scase, Act.eval]) HS6.out hroom ?_
            refine RegTo.done ?_
            rw [hbuf]
            have n7 := HN6.out.chan (r' := at_ + 1) (s' := s6 + 1) (qv ((Q ++ [tN]).drop (at_ + 1))).toArray false
            go_simp
            obtain ⟨w7, ew7⟩ : ∃ w7, (wr.setCell ⟨g, tN, none⟩ (.int .i64 (hC + 1))).setChan cc L.length (qv ((Q ++ [tN]).drop (at_ + 1))).toArray false (s6 + 1) (at_ + 1) false = w7 := ⟨_, rfl⟩
            rw [ew7] at n7 ⊢
            have HS7 : Hid (ChSt w g cc L.length (H.set tN (hC + 1)) (qv ((Q ++ [tN]).drop (at_ + 1))) false (at_ + 1) w7) := Lib.hid n7
            clear ew7 n7 HN6 HS6 hroom hbuf
            go_wp2
            go_roundw
            case rel => exact ⟨k + 1, _, Q ++ [tN], by omega, by go_num, by rw [HLF.out], HC2, HB2, HS7⟩
            case measure => simp [intOf]; omega
          · have q1 : (hAt H tN == -1) = false := by rw [beq_eq_false_iff_ne]; omega
            have HB2 := Lib.hid (HB.out.old HC.out.2 ET.out HT1.out (by rw [Int.toNat_natCast]; omega))
            obtain ⟨hT, ehT⟩ : ∃ hT, hAt H tN = hT := ⟨_, rfl⟩
            rw [ehT] at ch q1
            clear ehT hneg
            go_wp2
            go_roundw
            case rel => exact ⟨k + 1, H, Q, by omega, by go_num, rfl, HC, HB2, HS⟩
            case measure => simp [intOf]; omega
        · obtain rfl : k = o.length := by omega
          have g1 : decide ((o.length : Int) < (o.length : Int)) = false := decide_eq_false (by omega)
          have HB2 := Lib.hid (HB.out.next HC.out.2 (by rw [HC.out.1, EO.out]; exact Nat.le_refl _))
          have hal := HC.out.2
          obtain ⟨lf, elf⟩ : ∃ lf : Int, ((Q.length - at_ : Nat) : Int) = lf := ⟨_, rfl⟩
          have hlf1 : 1 ≤ lf := by rw [← elf]; omega
          have hlf2 : lf ≤ 2048 := by rw [← elf]; omega
          have HLF : Hid (lf - 1 = ((Q.length - (at_ + 1) : Nat) : Int)) := Lib.hid (by rw [← elf]; omega)
          have wk2 : IntKind.i64.wrap (lf - 1) = lf - 1 := by rw [IntKind.wrap_i64]; omega
          by_cases hlast : at_ + 1 = Q.length
          · have q1 : (lf - 1 == 0) = true := beq_iff_eq.2 (by rw [← elf]; omega)
            have hd : Q.drop (at_ + 1) = [] := by rw [hlast]; exact List.drop_length
            have hdc : decide (at_ + 1 = Q.length) = true := decide_eq_true hlast
            rw [hd] at HS
            obtain ⟨s8, hs8⟩ := HS.out.ch
            have hclose : ∀ ats ty, (Builtin.close_ ats ty #[.chan (some cc)]).run Try.prog wr = .ok (.tuple #[]) (wr.setChan cc L.length #[] true s8 (at_ + 1) false) := fun ats ty => run_close_open ats ty hs8
            have HS9 : Hid (ChSt w g cc L.length H (qv (Q.drop (at_ + 1))) (decide (at_ + 1 = Q.length)) (at_ + 1) (wr.setChan cc L.length #[] true s8 (at_ + 1) false)) := Lib.hid (by rw [hd, hdc]; exact HS.out.chan #[] true)
            rw [elf]
            clear elf hd hdc hs8 hlast HB HS HC
            go_wp2
            exact ⟨⟨at_ + 1, H, Q, by omega, by rw [HLF.out], HB2, HS9⟩, by rw [HS9.out.taken, HTK.out]; omega⟩
          · have q1 : (lf - 1 == 0) = false := by rw [beq_eq_false_iff_ne, ← elf]; omega
            have hdc : decide (at_ + 1 = Q.length) = false := decide_eq_false hlast
            rw [← hdc] at HS
            rw [elf]
            clear elf hdc hlast HB HC
            go_wp2
            exact ⟨⟨at_ + 1, H, Q, by omega, by rw [HLF.out], HB2, HS⟩, by rw [HS.out.taken, HTK.out]; omega⟩
    · obtain rfl : at_ = Q.length := by omega
      have hcl0 : decide (Q.length = Q.length) = true := decide_eq_true rfl
      rw [hcl0, List.drop_length] at HS
      obtain ⟨s1, hs1⟩ := HS.out.ch
      have HS1 : Hid (wr.heap[cc]? = some (.chan L.length #[] true s1 Q.length false)) := Lib.hid hs1
      clear hcl0 hs1
      go_upto_region 7 with fail
      refine RegTo.region ?_
      refine RegTo.shut (o := ⟨some 24, .recv 88 (.tmp 23) true, _, _, _, _⟩) (c := cc) (z := .int .i64 0) (ok := true) (w₁ := wr) rfl rfl (by simp [go_sem, rcase]) HS1.out ?_
      refine RegTo.value (o := ⟨some 25, .extract (.tmp 24) 1, _, _, _, _⟩) (v := .bool false) (w₁ := wr) rfl rfl (by go_simp; simp [got]) ?_
      refine RegTo.done ?_
      have HE := Lib.hid (show H = hopsL (pns L) (sN : Int) from HB.out.hops)
      go_wp2
      go_ret
      exact ⟨g, rfl, HS.out.gb, by rw [← HE.out]; exact HS.out.h, HS.out.bel⟩
end Go.Proofs.Ytkmngbkghgelfaa
/- The walks of the program's Hops and Reached. -/
namespace Go.Proofs.Ytkmngbkghgelfaa
open Go.RowKit
set_option linter.unusedVariables false
set_option maxRecDepth 100000 in
set_option maxHeartbeats 4000000 in
theorem hops_any (A : Option Addr) (c : Nat) (L : List Gn) (s : Int) (w : World) (hx : GArg w A L) :
    Calls Try.prog 16 #[.agg #[.slice A L.length c, .int .i64 s]] w (IAns w (hopsA (pns L) s) (errG (holdsB (pns L) s))) := by
  have hs : ∀ x ∈ pns L, x.2.2.length ≤ 20000 := fun x h => (hx.sm.at_ h).2
  have hl : L.length ≤ 20000 := by have := hx.sm.len; rwa [pns_len] at this
  have HX := Lib.hid hx
  have HSM := Lib.hid hs
  have HL := Lib.hid (pns_len L)
  clear hx hs
  have HO := Lib.hid (fun W (h : Below w.heap.size w W) => holds_any A c L s W _ h.size (HX.out.rd.below h) hl HSM.out)
  cases hh : holdsB (pns L) s with
  | false =>
    rw [hh] at HO
    have E := Lib.hid (show hopsA (pns L) s = [] by unfold hopsA; rw [hh]; rfl)
    rw [E.out]
    clear hh
    go_enter Try.func16, Try.ntmps16
    go_wp2_with (go_at_call 21; refine (HO.out _ (below_one (Below.refl _ _) _)).mono ?_; rintro e w1 ⟨rfl, b1⟩; have z0 := (Whole.new w 24 #[.slice A L.length c, .int .i64 s]).below b1 (Whole.new w 24 #[.slice A L.length c, .int .i64 s]).lt; have zc0 : w1.cell? ⟨w.heap.size, 0, none⟩ = some (.slice A L.length c) := z0.cell 0; have zc1 : w1.cell? ⟨w.heap.size, 1, none⟩ = some (.int .i64 s) := z0.cell 1; have b1 := (below_one (Below.refl w.heap.size w) (.cells #[.slice A L.length c, .int .i64 s] 24)).trans (b1.mono (by rw [World.size_alloc]; omega)))
    go_ret2
    exact IAns.nil _ _ b1
  | true =>
    rw [hh] at HO
    have E := Lib.hid (show hopsA (pns L) s = hopsL (pns L) s by unfold hopsA; rw [hh]; rfl)
    have HLN := Lib.hid (show (hopsL (pns L) s).length = L.length by rw [hopsL_len, pns_len])
    rw [E.out]
    have HH := Lib.hid hh
    clear hh
    by_cases h0 : L.length = 0
    · have e2 : ((L.length : Int) == 0) = true := beq_iff_eq.2 (by omega)
      have HE : Hid (hopsL (pns L) s = []) := Lib.hid (List.length_eq_zero_iff.1 (by rw [HLN.out]; exact h0))
      rw [HE.out]
      clear h0
      go_enter Try.func16, Try.ntmps16
      go_wp2_with (go_at_call 21; refine (HO.out _ (below_one (Below.refl _ _) _)).mono ?_; rintro e w1 ⟨rfl, b1⟩; have z0 := (Whole.new w 24 #[.slice A L.length c, .int .i64 s]).below b1 (Whole.new w 24 #[.slice A L.length c, .int .i64 s]).lt; have zc0 : w1.cell? ⟨w.heap.size, 0, none⟩ = some (.slice A L.length c) := z0.cell 0; have zc1 : w1.cell? ⟨w.heap.size, 1, none⟩ = some (.int .i64 s) := z0.cell 1; have b1 := (below_one (Below.refl w.heap.size w) (.cells #[.slice A L.length c, .int .i64 s] 24)).trans (b1.mono (by rw [World.size_alloc]; omega)))
      go_ret2
      exact IAns.nil _ _ b1
    · have e2 : ((L.length : Int) == 0) = false := by rw [beq_eq_false_iff_ne]; omega
      have hst := (holdsB_yes HH.out).start (by rw [HL.out]; omega)
      obtain ⟨sN, rfl⟩ := Int.eq_ofNat_of_zero_le hst.1
      have HT := Lib.hid (fun W (h : Below w.heap.size w W) => steps_any repeat_any A c L sN W _ h.size (HX.out.rd.below h) HH.out (by omega) HSM.out)
      clear hst h0
      go_enter Try.func16, Try.ntmps16
      go_wp2_with (first
        | (go_at_call 21; refine (HO.out _ (below_one (Below.refl _ _) _)).mono ?_; rintro e w1 ⟨rfl, b1⟩; have z0 := (Whole.new w 24 #[.slice A L.length c, .int .i64 (sN : Int)]).below b1 (Whole.new w 24 #[.slice A L.length c, .int .i64 (sN : Int)]).lt; have zc0 : w1.cell? ⟨w.heap.size, 0, none⟩ = some (.slice A L.length c) := z0.cell 0; have zc1 : w1.cell? ⟨w.heap.size, 1, none⟩ = some (.int .i64 (sN : Int)) := z0.cell 1; have b1 := (below_one (Below.refl w.heap.size w) (.cells #[.slice A L.length c, .int .i64 (sN : Int)] 24)).trans (b1.mono (by rw [World.size_alloc]; omega)))
        | (go_at_call 25; refine (HT.out _ b1).mono ?_; rintro e w2 ⟨g1, rfl, h1, hH, b2⟩))
      go_ret2
      have hsz : (cellsI (hopsL (pns L) (sN : Int))).size = L.length := by unfold cellsI; simp [HLN.out]
      have ho := whole_rowK (n := L.length) (base := w.heap.size) hH hsz (Nat.le_refl _) (by omega) (Nat.le_trans b1.size h1)
      have e2 : (cellsI (hopsL (pns L) (sN : Int))).toList.take L.length = (hopsL (pns L) (sN : Int)).map (Value.int .i64) := by
        unfold cellsI
        rw [List.take_of_length_le (by simp [HLN.out])]
      rw [e2] at ho
      exact ⟨some ⟨g1, 0, none⟩, L.length, by rw [HLN.out]; rfl, by rw [HLN.out]; exact ho, b1.trans (b2.mono b1.size)⟩
theorem hopsA_at {G : List Pn} {s : Int} {k : Nat} (h : k < (hopsA G s).length) : hAt (hopsA G s) k = hopI G s.toNat k := by
  unfold hopsA at h ⊢
  split at h
  · rename_i hh
    rw [if_pos hh]
    rw [hopsL_len] at h
    unfold hAt; rw [hopsL_at h]; rfl
  · simp at h
theorem reachedA_K (G : List Pn) (s : Int) : reachedA G s = reachK G s (hopsA G s).length := by
  unfold reachedA hopsA
  split
  · rw [hopsL_len]; rfl
  · rfl
theorem hopsA_le (G : List Pn) (s : Int) : (hopsA G s).length ≤ G.length := by
  unfold hopsA; split
  · rw [hopsL_len]; exact Nat.le_refl _
  · simp
theorem errG_wf (b : Bool) : errG b = 0 ∨ errG b = 1 := by cases b <;> simp [errG]
set_option maxRecDepth 100000 in
set_option maxHeartbeats 4000000 in
theorem reached_any (A : Option Addr) (c : Nat) (L : List Gn) (s : Int) (w : World) (hx : GArg w A L) :
    Calls Try.prog 7 #[.agg #[.slice A L.length c, .int .i64 s]] w (IAns w (reachedA (pns L) s) (errG (holdsB (pns L) s))) := by
  have hl : (hopsA (pns L) s).length ≤ 20000 := by have := hx.sm.len; have := hopsA_le (pns L) s; omega
  have b0 : Below w.heap.size w (w.alloc (.cells #[.slice A L.length c, .int .i64 s] 24)) := below_one (Below.refl _ _) _
  have H := Lib.hid (hops_any A c L s (w.alloc (.cells #[.slice A L.length c, .int .i64 s] 24)) (hx.below b0))
  have HB0 := Lib.hid b0
  have HK := Lib.hid (reachedA_K (pns L) s)
  have HA := Lib.hid (fun k => hopsA_at (G := pns L) (s := s) (k := k))
  rw [HK.out]
  obtain ⟨E, eE⟩ : ∃ E, errG (holdsB (pns L) s) = E := ⟨_, rfl⟩
  rw [eE] at H ⊢
  obtain ⟨HP, eH⟩ : ∃ HP, hopsA (pns L) s = HP := ⟨_, rfl⟩
  rw [eH] at H HA hl
  rw [eH]
  obtain ⟨i0, hi, hz0, hz1, hz2⟩ := info_parts Try.info3
  clear hx b0 eE eH HK
  go_enter Try.func7, Try.ntmps7
  go_wp2_with (go_at_call 16; refine H.out.mono ?_; rintro e w2 ⟨V, vc, rfl, hown, b2⟩)
  have HB2 := Lib.hid (HB0.out.trans (b2.mono HB0.out.size))
  have HO := Lib.hid hown
  have C0 : Hid (w2.ownsRow w2.heap.size 3 1 (.slice none 0 0) (reachK (pns L) s 0).length ((reachK (pns L) s 0).map (Value.int .i64))) := Lib.hid (own_nil_row _ _ _)
  have C1 : Hid (Below w2.heap.size w2 w2) := Lib.hid (Below.refl _ _)
  clear b2 hown HB0
  go_loopw [6, 7, 8, 16] (fun l _ _ i wr => ∃ (k : Nat) (VA : Option Addr) (vc : Nat), k ≤ HP.length ∧ i = .int .i64 k ∧ l = .slice VA (reachK (pns L) s k).length vc ∧ Hid (wr.ownsRow w2.heap.size 3 1 (.slice VA (reachK (pns L) s k).length vc) (reachK (pns L) s k).length ((reachK (pns L) s k).map (Value.int .i64))) ∧ Hid (Below w2.heap.size w2 wr)) (fun _ _ _ i _ => HP.length - (intOf i).toNat)
  case atStart => exact ⟨0, none, 0, by omega, rfl, rfl, C0, C1⟩
  case round =>
    clear C0 C1
    obtain ⟨k, VA, vc, hk, rfl, rfl, HR, HB⟩ := hrel
    have hsz := HB.out.size
    by_cases hlt : k < HP.length
    · have e1 : decide ((k : Int) < (HP.length : Int)) = true := decide_eq_true (by omega)
      obtain ⟨b, off, t, rfl, hBb, hc, hv⟩ := (own_rdK HO.out).at_ hlt
      have et : t = hopI (pns L) s.toNat k := by rw [← HA.out k hlt]; unfold hAt; rw [← hv.out, List.getElem?_eq_getElem hlt]; rfl
      have hc' : wr.cell? ⟨b, off + k, none⟩ = some (.int .i64 t) := (HB.out.cell (p := ⟨b, off + k, none⟩) hBb).trans hc
      have x1 : (0 : Int) ≤ (k : Int) := by omega
      have x2 : (k : Int) < (HP.length : Int) := by omega
      have hge := hop_ge (pns L) s.toNat k
      rw [← et] at hge
      clear hc hv
      by_cases hp : 0 ≤ t
      · have HS := Lib.hid (reachK_yes (G := pns L) (s := s) (k := k) (by rw [← et]; exact hp))
        have hln := reachK_len (pns L) s k
        have e2 : (t != -1) = true := by simp; omega
        obtain ⟨RK, eRK⟩ : ∃ RK, reachK (pns L) s k = RK := ⟨_, rfl⟩
        rw [eRK] at HR HS hln ⊢
        clear hp eRK et hge
        go_wp2_with (at_builtin; refine wpList_append_own _ rfl _ _ 29 rfl w2.heap.size 3 i0 (.int .i64 0) 1 8 Try.underlying29 hi hz0 hz1 hz2 rfl (by decide) _ _ _ rfl (HR.out.alloc _) ⟨wr.heap.size, 0, none⟩ 1 1 [.int .i64 (k : Int)] rfl rfl (cell_one_new _ _ _) (by simp [Value.oneCell']) (by show RK.length + 1 ≤ 9223372036854775807; omega) (by omega) (by rw [World.size_alloc]; omega) ?_; intro v' w3 hown' hgrow _)
        obtain ⟨V4, m4, c4, rfl⟩ := own_form hown'
        obtain rfl := own_len hown'
        have b3 := Lib.hid ((HB.out.alloc hsz (.cells #[.int .i64 (k : Int)] 3)).grown hgrow (by rw [World.size_alloc]; omega) (fun r hr => (HR.out.lt r hr).1))
        have hq : RK.length + 1 = (reachK (pns L) s (k + 1)).length := by rw [HS.out]; simp
        have HR2 : Hid (w3.ownsRow w2.heap.size 3 1 (.slice V4 (reachK (pns L) s (k + 1)).length c4) (reachK (pns L) s (k + 1)).length ((reachK (pns L) s (k + 1)).map (Value.int .i64))) := Lib.hid (by
          rw [← hq, HS.out, List.map_append]; exact hown')
        clear hown' hgrow
        go_roundw
        case rel => exact ⟨k + 1, V4, c4, by omega, by go_num, by rw [hq], HR2, b3⟩
        case measure => simp [intOf]; omega
      · have HS := Lib.hid (reachK_no (G := pns L) (s := s) (k := k) (by rw [← et]; exact hp))
        have e2 : (t != -1) = false := by simp; omega
        clear hp et hge
        go_wp2
        go_roundw
        case rel => exact ⟨k + 1, VA, vc, by omega, by go_num, by rw [HS.out], by rw [HS.out]; exact HR, HB⟩
        case measure => simp [intOf]; omega
    · obtain rfl : k = HP.length := by omega
      have e1 : decide ((HP.length : Int) < (HP.length : Int)) = false := decide_eq_false (by omega)
      go_wp2
      go_ret2
      exact ⟨VA, vc, rfl, own_base HR.out HB2.out.size, HB2.out.trans (HB.out.mono HB2.out.size)⟩
end Go.Proofs.Ytkmngbkghgelfaa
