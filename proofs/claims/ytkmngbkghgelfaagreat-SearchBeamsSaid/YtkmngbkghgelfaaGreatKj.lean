/- Several texts in one. -/
import Derived.Test.YtkmngbkghgelfaaGreatLb
import Derived.Test.YtkmngbkghgelfaaGreatBs
import Derived.Test.YtkmngbkghgelfaaGreatOw
import Derived.Deep.OwnRows
import Derived.Deep.RegionHeld3
import Derived.Deep.AppendLies
/- The walk of the document's Tree (layer 9). -/
namespace Go.Proofs.YtkmngbkghgelfaaGreat
open Go.RowKit
set_option linter.unusedVariables false
/-- The cells of a row of numbers. -/
def cellsI (H : List Int) : Array Value := (H.map (Value.int .i64)).toArray
theorem cellsI_made (n : Nat) : madeCells #[Value.int .i64 0] n = cellsI (List.replicate n 0) := by
  apply Array.ext'
  rw [made_one]
  simp [cellsI]
theorem cellsI_set (H : List Int) (i : Nat) (v : Int) : (cellsI H).setIfInBounds i (.int .i64 v) = cellsI (H.set i v) := by
  unfold cellsI
  apply Array.ext'
  simp [List.map_set]
theorem cellsI_at {H : List Int} {i : Nat} (h : i < H.length) : (cellsI H)[i]? = some (.int .i64 (hAt H i)) := by
  unfold cellsI hAt
  simp [List.getElem?_eq_getElem h]
def fillK (n k : Nat) : List Int := List.replicate k (-1) ++ List.replicate (n - k) 0
theorem fillK_len {n k : Nat} (h : k ≤ n) : (fillK n k).length = n := by simp [fillK]; omega
theorem fillK_set {n k : Nat} (h : k < n) : (fillK n k).set k (-1) = fillK n (k + 1) := by
  unfold fillK
  rw [List.set_append_right _ _ (by simp), List.length_replicate, Nat.sub_self]
  obtain ⟨m, hm⟩ : ∃ m, n - k = m + 1 := ⟨n - k - 1, by omega⟩
  rw [hm, show n - (k + 1) = m by omega, List.replicate_succ, List.set_cons_zero, List.replicate_succ']
  simp
/-- What Tree's rows are. -/
structure TrSt (w : World) (g n : Nat) (box : Array Value) (H F : List Int) (W : World) : Prop where
  bel : Below g w W
  bx : Whole W g 24 box
  h : Whole W (g + 1) 3 (cellsI H)
  f : Whole W (g + 1 + 1) 3 (cellsI F)
  hl : H.length = n
  fl : F.length = n
theorem TrSt.setH {w W : World} {g n : Nat} {box : Array Value} {H F : List Int} (t : TrSt w g n box H F W) (i : Nat) (v : Int) : TrSt w g n box (H.set i v) F (W.setCell ⟨g + 1, i, none⟩ (.int .i64 v)) :=
  ⟨t.bel.setCell (p := ⟨g + 1, i, none⟩) (Nat.le_succ _) _, t.bx.far (a := ⟨g + 1, i, none⟩) (by show g ≠ g + 1; omega) _, by rw [← cellsI_set]; exact t.h.set i _, t.f.far (a := ⟨g + 1, i, none⟩) (by show g + 1 + 1 ≠ g + 1; omega) _, by rw [List.length_set]; exact t.hl, t.fl⟩
theorem TrSt.setF {w W : World} {g n : Nat} {box : Array Value} {H F : List Int} (t : TrSt w g n box H F W) (i : Nat) (v : Int) : TrSt w g n box H (F.set i v) (W.setCell ⟨g + 1 + 1, i, none⟩ (.int .i64 v)) :=
  ⟨t.bel.setCell (p := ⟨g + 1 + 1, i, none⟩) (by show g ≤ g + 1 + 1; omega) _, t.bx.far (a := ⟨g + 1 + 1, i, none⟩) (by show g ≠ g + 1 + 1; omega) _, t.h.far (a := ⟨g + 1 + 1, i, none⟩) (by show g + 1 ≠ g + 1 + 1; omega) _, by rw [← cellsI_set]; exact t.f.set i _, t.hl, by rw [List.length_set]; exact t.fl⟩
theorem TrSt.below {w W W' : World} {g n : Nat} {box : Array Value} {H F : List Int} (t : TrSt w g n box H F W) (hb : Below W.heap.size W W') : TrSt w g n box H F W' :=
  ⟨t.bel.trans (hb.mono (Nat.le_of_lt t.bx.lt)), t.bx.below hb t.bx.lt, t.h.below hb t.h.lt, t.f.below hb t.f.lt, t.hl, t.fl⟩
theorem TrSt.grown {w W W' : World} {g n qa : Nat} {box : Array Value} {H F : List Int} (t : TrSt w g n box H F W) (hg : W.grownBy W' (some qa)) (hq : g + 1 + 1 < qa) : TrSt w g n box H F W' :=
  ⟨t.bel.grown hg (Nat.le_of_lt t.bx.lt) (fun r hr => by injection hr with hr; omega), (hg.block g t.bx.lt (fun e => by injection e with e; omega)).trans t.bx, (hg.block (g + 1) t.h.lt (fun e => by injection e with e; omega)).trans t.h, (hg.block (g + 1 + 1) t.f.lt (fun e => by injection e with e; omega)).trans t.f, t.hl, t.fl⟩
theorem row_setK {w : World} {base n size b i : Nat} {e : TypeId} {v u : Value} {xs : List Value} (h : w.ownsRow base e size v n xs) (hne : v.ownBlock ≠ some b) : (w.setCell ⟨b, i, none⟩ u).ownsRow base e size v n xs := by
  obtain ⟨h1, h2⟩ := h
  refine ⟨h1, ?_⟩
  rcases h2 with h2 | ⟨g', cap, cur, hv, hb, hw, h4⟩
  · exact .inl h2
  · have : g' ≠ b := fun e => hne (by rw [hv, e]; rfl)
    exact .inr ⟨g', cap, cur, hv, hb, (Below.heap_setCell _ _ _ _ this).trans hw, h4⟩
/-- The cells of a queue. -/
def qv (Q : List Nat) : List Value := Q.map fun x => Value.int .i64 ((x : Nat) : Int)
theorem qv_at {Q : List Nat} {a : Nat} (h : a < Q.length) : (qv Q)[a]? = some (.int .i64 ((qAt Q a : Nat) : Int)) := by unfold qv qAt; simp [List.getElem?_eq_getElem h]
theorem qv_snoc (Q : List Nat) (x : Nat) : qv (Q ++ [x]) = qv Q ++ [.int .i64 ((x : Nat) : Int)] := by simp [qv]
end Go.Proofs.YtkmngbkghgelfaaGreat
/- The walks of the document's Hops and Reached (layer 9). -/
namespace Go.Proofs.YtkmngbkghgelfaaGreat
open Go.RowKit
set_option linter.unusedVariables false
theorem whole_rowK {w : World} {g base n cap : Nat} {t : TypeId} {cs : Array Value} (h : Whole w g t cs) (hc : cs.size = cap) (hn : n ≤ cap) (hm : cap ≤ 9223372036854775807) (hb : base ≤ g) : w.ownsRow base t 1 (.slice (some ⟨g, 0, none⟩) n cap) n (cs.toList.take n) := by
  refine ⟨?_, .inr ⟨g, cap, cs, rfl, hb, h, hn, hm, by rw [hc, Nat.mul_one], by rw [Nat.mul_one]⟩⟩
  rw [List.length_take, Nat.mul_one, Array.length_toList, hc]
  omega
def errG (b : Bool) : Int := if b then 0 else 1
/-- An answer that is a list of numbers, and an errno. -/
def IAns (w : World) (xs : List Int) (E : Int) (e : Ending) (w' : World) : Prop :=
  ∃ A c, e = .returned (.tuple #[.slice A xs.length c, .int .i64 E]) ∧ w'.ownsRow w.heap.size 3 1 (.slice A xs.length c) xs.length (xs.map (Value.int .i64)) ∧ Below w.heap.size w w'
theorem IAns.nil (w : World) (E : Int) {w' : World} (h : Below w.heap.size w w') : IAns w [] E (.returned (.tuple #[.slice none 0 0, .int .i64 E])) w' := ⟨none, 0, rfl, own_nil_row _ _ _, h⟩
/-- The first nodes that are reached. -/
noncomputable def reachK (G : List Pn) (s : Int) (k : Nat) : List Int := ((List.range k).filter fun i => decide (0 ≤ hopI G s.toNat i)).map fun (i : Nat) => (i : Int)
theorem reachK_yes {G : List Pn} {s : Int} {k : Nat} (h : 0 ≤ hopI G s.toNat k) : reachK G s (k + 1) = reachK G s k ++ [(k : Int)] := by
  unfold reachK
  rw [List.range_succ, List.filter_append, List.map_append]
  simp [h]
theorem reachK_no {G : List Pn} {s : Int} {k : Nat} (h : ¬ 0 ≤ hopI G s.toNat k) : reachK G s (k + 1) = reachK G s k := by
  unfold reachK
  rw [List.range_succ, List.filter_append, List.map_append]
  simp [h]
theorem reachK_len (G : List Pn) (s : Int) (k : Nat) : (reachK G s k).length ≤ k := by
  unfold reachK
  rw [List.length_map]
  have := List.length_filter_le (fun i => decide (0 ≤ hopI G s.toNat i)) (List.range k)
  simpa using this
end Go.Proofs.YtkmngbkghgelfaaGreat
