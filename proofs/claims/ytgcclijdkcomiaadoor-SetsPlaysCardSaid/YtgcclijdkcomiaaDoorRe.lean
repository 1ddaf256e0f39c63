/- The walk of the statement SetsPlays. -/
import Derived.Test.YtgcclijdkcomiaaDoorRd
import Derived.Test.YtgcclijdkcomiaaDoorAo
import Derived.Test.YtgcclijdkcomiaaDoorLd
import Derived.Test.YtgcclijdkcomiaaDoorLe
import Derived.Deep.RegionHeld3
import Derived.Deep.AppendLies
import Derived.Deep.LoopGhost
import Derived.ArgAppend
import Derived.Deep.RegionLaw
namespace Go.Proofs.YtgcclijdkcomiaaDoor
open Go.RowKit Go.Lib
set_option linter.unusedVariables false
set_option maxRecDepth 100000 in
theorem setsPlays_far (A : Option Addr) (c n : Nat) (m : Int) (w : World) (h : 500 < n) :
    Calls Tryd.prog 3 #[.int .i64 m, .slice A n c] w fun e w' => e = .returned (.bool true) ∧ Below w.heap.size w w' := by
  have z : (500 : Int) < (n : Int) := by omega
  go_enter Tryd.func3, Tryd.ntmps3
  go_wp2
  go_ret
  exact ⟨rfl, Below.refl _ _⟩
def InvV (w0 : World) (hv rv : Value) (zb bound : Nat) (f k : Nat → Bool) (w : World) : Prop := ∃ hp rp F G, hv = .pointer hp ∧ rv = .pointer rp ∧ Inv w0 hp rp zb bound F G f k w
theorem InvV.same {w0 w w' : World} {hv rv : Value} {zb bound : Nat} {f k : Nat → Bool} (i : InvV w0 hv rv zb bound f k w) (t : Turn [] w w') : InvV w0 hv rv zb bound f k w' := by
  obtain ⟨hp, rp, F, G, h1, h2, h3⟩ := i
  exact ⟨hp, rp, F, G, h1, h2, h3.same t⟩
theorem InvV.below {w0 w : World} {hv rv : Value} {zb bound : Nat} {f k : Nat → Bool} (i : InvV w0 hv rv zb bound f k w) : Below w0.heap.size w0 w := by
  obtain ⟨hp, rp, F, G, h1, h2, h3⟩ := i
  exact h3.bel
theorem InvV.stepT {w0 w w' : World} {hv rv : Value} {zb bound : Nat} {f k : Nat → Bool} (i : InvV w0 hv rv zb bound f k w) (t : Turn [] w w') : InvV w0 hv rv zb bound f k w' := i.same t
/-- Within a round: the state, and the op's own block. -/
def St (w0 : World) (hv rv : Value) (zb bound ob : Nat) (x y : Int) (f k : Nat → Bool) (w : World) : Prop := ∃ hp rp F G, hv = .pointer hp ∧ rv = .pointer rp ∧ Inv w0 hp rp zb bound F G f k w ∧ Whole w ob 34 #[.int .u8 x, .int .i64 y] ∧ ob ∉ F ++ G
section
variable {w0 w : World} {hv rv : Value} {zb bound ob : Nat} {x y : Int} {f k f' k' : Nat → Bool}
theorem St.cell (s : St w0 hv rv zb bound ob x y f k w) : w.cell? ⟨ob, 1, none⟩ = some (.int .i64 y) := by
  obtain ⟨hp, rp, F, G, h1, h2, i, h3, h4⟩ := s
  exact h3.cell 1
theorem St.inv (s : St w0 hv rv zb bound ob x y f k w) : InvV w0 hv rv zb bound f k w := by
  obtain ⟨hp, rp, F, G, h1, h2, i, h3, h4⟩ := s
  exact ⟨hp, rp, F, G, h1, h2, i⟩
theorem St.same {w' : World} (s : St w0 hv rv zb bound ob x y f k w) (t : Turn [] w w') : St w0 hv rv zb bound ob x y f k w' := by
  obtain ⟨hp, rp, F, G, h1, h2, i, h3, h4⟩ := s
  exact ⟨hp, rp, F, G, h1, h2, i.same t, h3.turn t (by simp), h4⟩
theorem St.start (i : InvV w0 hv rv zb bound f k w) : St w0 hv rv zb bound w.heap.size x y f k (w.alloc (.cells #[.int .u8 x, .int .i64 y] 34)) := by
  obtain ⟨hp, rp, F, G, h1, h2, i⟩ := i
  refine ⟨hp, rp, F, G, h1, h2, i.same ((Turn.refl [] w).alloc _), Whole.new w 34 _, fun h => ?_⟩
  rcases List.mem_append.1 h with h | h
  · exact absurd (i.h.lt _ h) (by omega)
  · exact absurd (i.r.lt _ h) (by omega)
theorem st_call {v : Value} {fid : FuncId} (args : Option Addr → Option Addr → Array Value) (h : ∀ hp rp F G, Inv w0 hp rp zb bound F G f k w → Calls Tryd.prog fid (args hp rp) w (Did w0 hp rp zb bound F G f' k' w v)) (s : St w0 hv rv zb bound ob x y f k w) :
    ∃ hp rp, hv = .pointer hp ∧ rv = .pointer rp ∧ Calls Tryd.prog fid (args hp rp) w fun e w' => e = .returned v ∧ St w0 hv rv zb bound ob x y f' k' w' ∧ w'.cell? ⟨ob, 1, none⟩ = some (.int .i64 y) := by
  obtain ⟨hp, rp, F, G, h1, h2, i, h3, h4⟩ := s
  refine ⟨hp, rp, h1, h2, (h hp rp F G i).mono ?_⟩
  rintro e w' ⟨a, b, t⟩
  have s' : St w0 hv rv zb bound ob x y f' k' w' := ⟨hp, rp, F, G, h1, h2, b, h3.turn t h4, h4⟩
  exact ⟨a, s', s'.cell⟩
theorem sAdd (s : St w0 hv rv zb bound ob x y f k w) : Calls Tryd.prog 10 #[hv, .int .i64 y] w fun e w' => e = .returned (.bool (inB bound y && !f y.toNat)) ∧ St w0 hv rv zb bound ob x y (plus bound f y) k w' ∧ w'.cell? ⟨ob, 1, none⟩ = some (.int .i64 y) := by
  obtain ⟨hp, rp, rfl, rfl, q⟩ := st_call (fun hp rp => #[.pointer hp, .int .i64 y]) (fun hp rp F G i => iAdd w i y) s
  exact q
theorem sAddR (s : St w0 hv rv zb bound ob x y f k w) : Calls Tryd.prog 11 #[rv, .int .i64 y] w fun e w' => e = .returned (.bool (inB bound y && !k y.toNat)) ∧ St w0 hv rv zb bound ob x y f (plus bound k y) w' ∧ w'.cell? ⟨ob, 1, none⟩ = some (.int .i64 y) := by
  obtain ⟨hp, rp, rfl, rfl, q⟩ := st_call (fun hp rp => #[.pointer rp, .int .i64 y]) (fun hp rp F G i => iAddR w i y) s
  exact q
theorem sDrop (s : St w0 hv rv zb bound ob x y f k w) : Calls Tryd.prog 12 #[hv, .int .i64 y] w fun e w' => e = .returned (.bool (inI bound f y)) ∧ St w0 hv rv zb bound ob x y (minus f y) k w' ∧ w'.cell? ⟨ob, 1, none⟩ = some (.int .i64 y) := by
  obtain ⟨hp, rp, rfl, rfl, q⟩ := st_call (fun hp rp => #[.pointer hp, .int .i64 y]) (fun hp rp F G i => iDrop w i y) s
  exact q
theorem sDropR (s : St w0 hv rv zb bound ob x y f k w) : Calls Tryd.prog 13 #[rv, .int .i64 y] w fun e w' => e = .returned (.bool (inI bound k y)) ∧ St w0 hv rv zb bound ob x y f (minus k y) w' ∧ w'.cell? ⟨ob, 1, none⟩ = some (.int .i64 y) := by
  obtain ⟨hp, rp, rfl, rfl, q⟩ := st_call (fun hp rp => #[.pointer rp, .int .i64 y]) (fun hp rp F G i => iDropR w i y) s
  exact q
theorem sHas (s : St w0 hv rv zb bound ob x y f k w) : Calls Tryd.prog 14 #[hv, .int .i64 y] w fun e w' => e = .returned (.bool (inI bound f y)) ∧ St w0 hv rv zb bound ob x y f k w' ∧ w'.cell? ⟨ob, 1, none⟩ = some (.int .i64 y) := by
  obtain ⟨hp, rp, rfl, rfl, q⟩ := st_call (fun hp rp => #[.pointer hp, .int .i64 y]) (fun hp rp F G i => iHas w i y) s
  exact q
theorem sHasR (s : St w0 hv rv zb bound ob x y f k w) : Calls Tryd.prog 15 #[rv, .int .i64 y] w fun e w' => e = .returned (.bool (inI bound k y)) ∧ St w0 hv rv zb bound ob x y f k w' ∧ w'.cell? ⟨ob, 1, none⟩ = some (.int .i64 y) := by
  obtain ⟨hp, rp, rfl, rfl, q⟩ := st_call (fun hp rp => #[.pointer rp, .int .i64 y]) (fun hp rp F G i => iHasR w i y) s
  exact q
theorem sNext (hy : y ≤ 9223372036854775807) (s : St w0 hv rv zb bound ob x y f k w) : Calls Tryd.prog 16 #[hv, .int .i64 y] w fun e w' => e = .returned (.int .i64 (nextF bound f y)) ∧ St w0 hv rv zb bound ob x y f k w' ∧ w'.cell? ⟨ob, 1, none⟩ = some (.int .i64 y) := by
  obtain ⟨hp, rp, rfl, rfl, q⟩ := st_call (fun hp rp => #[.pointer hp, .int .i64 y]) (fun hp rp F G i => iNext w i y hy) s
  exact q
theorem sNextR (hy : y ≤ 9223372036854775807) (s : St w0 hv rv zb bound ob x y f k w) : Calls Tryd.prog 17 #[rv, .int .i64 y] w fun e w' => e = .returned (.int .i64 (nextF bound k y)) ∧ St w0 hv rv zb bound ob x y f k w' ∧ w'.cell? ⟨ob, 1, none⟩ = some (.int .i64 y) := by
  obtain ⟨hp, rp, rfl, rfl, q⟩ := st_call (fun hp rp => #[.pointer rp, .int .i64 y]) (fun hp rp F G i => iNextR w i y hy) s
  exact q
theorem sAddZ (s : St w0 hv rv zb bound ob x y f k w) : Calls Tryd.prog 10 #[.pointer (some ⟨zb, 0, none⟩), .int .i64 y] w fun e w' => e = .returned (.bool false) ∧ St w0 hv rv zb bound ob x y f k w' ∧ w'.cell? ⟨ob, 1, none⟩ = some (.int .i64 y) := by
  obtain ⟨hp, rp, rfl, rfl, q⟩ := st_call (fun hp rp => #[.pointer (some ⟨zb, 0, none⟩), .int .i64 y]) (fun hp rp F G i => iAddZ w i y) s
  exact q
theorem sAddN (s : St w0 hv rv zb bound ob x y f k w) : Calls Tryd.prog 10 #[.pointer none, .int .i64 y] w fun e w' => e = .returned (.bool false) ∧ St w0 hv rv zb bound ob x y f k w' ∧ w'.cell? ⟨ob, 1, none⟩ = some (.int .i64 y) := by
  obtain ⟨hp, rp, rfl, rfl, q⟩ := st_call (fun hp rp => #[.pointer none, .int .i64 y]) (fun hp rp F G i => iAddN w i y) s
  exact q
theorem sDropZ (s : St w0 hv rv zb bound ob x y f k w) : Calls Tryd.prog 12 #[.pointer (some ⟨zb, 0, none⟩), .int .i64 y] w fun e w' => e = .returned (.bool false) ∧ St w0 hv rv zb bound ob x y f k w' ∧ w'.cell? ⟨ob, 1, none⟩ = some (.int .i64 y) := by
  obtain ⟨hp, rp, rfl, rfl, q⟩ := st_call (fun hp rp => #[.pointer (some ⟨zb, 0, none⟩), .int .i64 y]) (fun hp rp F G i => iDropZ w i y) s
  exact q
theorem sDropN (s : St w0 hv rv zb bound ob x y f k w) : Calls Tryd.prog 12 #[.pointer none, .int .i64 y] w fun e w' => e = .returned (.bool false) ∧ St w0 hv rv zb bound ob x y f k w' ∧ w'.cell? ⟨ob, 1, none⟩ = some (.int .i64 y) := by
  obtain ⟨hp, rp, rfl, rfl, q⟩ := st_call (fun hp rp => #[.pointer none, .int .i64 y]) (fun hp rp F G i => iDropN w i y) s
  exact q
theorem sHasZ (s : St w0 hv rv zb bound ob x y f k w) : Calls Tryd.prog 14 #[.pointer (some ⟨zb, 0, none⟩), .int .i64 y] w fun e w' => e = .returned (.bool false) ∧ St w0 hv rv zb bound ob x y f k w' ∧ w'.cell? ⟨ob, 1, none⟩ = some (.int .i64 y) := by
  obtain ⟨hp, rp, rfl, rfl, q⟩ := st_call (fun hp rp => #[.pointer (some ⟨zb, 0, none⟩), .int .i64 y]) (fun hp rp F G i => iHasZ w i y) s
  exact q
theorem sHasN (s : St w0 hv rv zb bound ob x y f k w) : Calls Tryd.prog 14 #[.pointer none, .int .i64 y] w fun e w' => e = .returned (.bool false) ∧ St w0 hv rv zb bound ob x y f k w' ∧ w'.cell? ⟨ob, 1, none⟩ = some (.int .i64 y) := by
  obtain ⟨hp, rp, rfl, rfl, q⟩ := st_call (fun hp rp => #[.pointer none, .int .i64 y]) (fun hp rp F G i => iHasN w i y) s
  exact q
theorem sNextZ (hy : y ≤ 9223372036854775807) (s : St w0 hv rv zb bound ob x y f k w) : Calls Tryd.prog 16 #[.pointer (some ⟨zb, 0, none⟩), .int .i64 y] w fun e w' => e = .returned (.int .i64 (-1)) ∧ St w0 hv rv zb bound ob x y f k w' ∧ w'.cell? ⟨ob, 1, none⟩ = some (.int .i64 y) := by
  obtain ⟨hp, rp, rfl, rfl, q⟩ := st_call (fun hp rp => #[.pointer (some ⟨zb, 0, none⟩), .int .i64 y]) (fun hp rp F G i => iNextZ w i y hy) s
  exact q
theorem sNextN (hy : y ≤ 9223372036854775807) (s : St w0 hv rv zb bound ob x y f k w) : Calls Tryd.prog 16 #[.pointer none, .int .i64 y] w fun e w' => e = .returned (.int .i64 (-1)) ∧ St w0 hv rv zb bound ob x y f k w' ∧ w'.cell? ⟨ob, 1, none⟩ = some (.int .i64 y) := by
  obtain ⟨hp, rp, rfl, rfl, q⟩ := st_call (fun hp rp => #[.pointer none, .int .i64 y]) (fun hp rp F G i => iNextN w i y hy) s
  exact q
end
/-- Behind the loop: the two lists that were answered stand. -/
structure StE (w0 : World) (hp rp : Option Addr) (zb bound : Nat) (F G : List Nat) (f : Nat → Bool) (L : List Nat) (B g1 g2 : Nat) (w : World) : Prop where
  i : Inv w0 hp rp zb bound F G f f w
  a : w.ownsRow B 3 1 (.slice (some ⟨g1, 0, none⟩) L.length L.length) L.length (nums L)
  b : w.ownsRow B 3 1 (.slice (some ⟨g2, 0, none⟩) L.length L.length) L.length (nums L)
  ne : g1 ≠ g2
  sz : B ≤ w.heap.size
  lt : ∀ x ∈ F ++ G, x < B
  zl : zb < B
  wl : w0.heap.size ≤ B
theorem own_ge {w : World} {B g n c : Nat} {l : List Value} (h : w.ownsRow B 3 1 (.slice (some ⟨g, 0, none⟩) n c) n l) : B ≤ g ∧ g < w.heap.size := h.lt g rfl
section
variable {w0 w w' : World} {hp rp : Option Addr} {zb bound : Nat} {F G : List Nat} {f : Nat → Bool} {L : List Nat} {B g1 g2 : Nat}
theorem StE.same (s : StE w0 hp rp zb bound F G f L B g1 g2 w) (t : Turn [] w w') : StE w0 hp rp zb bound F G f L B g1 g2 w' :=
  ⟨s.i.same t, own_turn s.a t (fun _ _ => by simp), own_turn s.b t (fun _ _ => by simp), s.ne, Nat.le_trans s.sz t.size, s.lt, s.zl, s.wl⟩
theorem StE.did {v : Value} {e : Ending} (s : StE w0 hp rp zb bound F G f L B g1 g2 w) (d : Did w0 hp rp zb bound F G f f w v e w') : e = .returned v ∧ StE w0 hp rp zb bound F G f L B g1 g2 w' := by
  obtain ⟨h1, h2, t⟩ := d
  refine ⟨h1, h2, own_turn s.a t (fun g hg hm => ?_), own_turn s.b t (fun g hg hm => ?_), s.ne, Nat.le_trans s.sz t.size, s.lt, s.zl, s.wl⟩
  · have := (s.a.lt g hg).1
    have := s.lt g hm
    omega
  · have := (s.b.lt g hg).1
    have := s.lt g hm
    omega
theorem StE.base (s : StE w0 hp rp zb bound F G f L B g1 g2 w) (h : Below B w w') : Inv w0 hp rp zb bound F G f f w' :=
  s.i.base h (fun x hx => s.lt x (List.mem_append_left _ hx)) (fun x hx => s.lt x (List.mem_append_right _ hx)) s.zl s.wl
end
theorem same_lists (g : Nat) (S : Option Addr) (c d : Nat) (L : List Nat) (hl : L.length ≤ 2048) (w : World) (b : Nat) (o : w.ownsRow b 3 1 (.slice (some ⟨g, 0, none⟩) L.length c) L.length (nums L)) (rd : Rd .i64 w w.heap.size S (L.map Int.ofNat)) :
    Calls Tryd.prog 19 #[.slice (some ⟨g, 0, none⟩) L.length c, .slice S L.length d] w fun e w' => e = .returned (.bool true) ∧ ∃ nq, w' = w.drewN nq := by
  have q := sameInts_any (some ⟨g, 0, none⟩) S c d (L.map Int.ofNat) w w.heap.size (own_rd o) rd (by rw [List.length_map]; omega)
  rw [List.length_map] at q
  exact q
theorem listF_le (b : Nat) (f : Nat → Bool) : (listF b f).length ≤ b := by
  have := List.length_filter_le f (List.range b)
  rw [List.length_range] at this
  exact this
set_option maxRecDepth 100000 in
set_option maxHeartbeats 4000000 in
theorem setsPlays_main (A : Option Addr) (c : Nat) (n : Int) (ops : List (Int × Int)) (w : World) (hx : RdO w w.heap.size A ops) (ok : ∀ x ∈ ops, OpOk x) (hl : ops.length ≤ 500) (hT : Tab w) (bound : Nat) (en : Int) (bn : Bool) (hbd : bound ≤ 2048)
    (hh : ∀ w, Calls Tryd.prog 8 #[.int .i64 n] w (GNew bound en bn w)) (hr : ∀ w, Calls Tryd.prog 9 #[.int .i64 n] w (RNew bound en bn w)) :
    Calls Tryd.prog 3 #[.int .i64 n, .slice A ops.length c] w fun e w' => e = .returned (.bool true) ∧ Below w.heap.size w w' := by
  have z : decide ((ops.length : Int) > 500) = false := decide_eq_false (by omega)
  have z' : ¬ (500 : Int) < (ops.length : Int) := by omega
  have HX := Lib.hid hx
  have OK := Lib.hid ok
  have HH := Lib.hid hh
  have HR := Lib.hid hr
  have HT := Lib.hid hT
  clear hx ok hh hr hT
  go_enter Tryd.func3, Tryd.ntmps3
  go_wp2_with fail
  refine (HH.out w).mono ?_
  rintro e w1 ⟨hp, F, rfl, h1, h2, t1, q2⟩
  have E5 : ∀ s W, Sem.run Tryd.prog (eqGuard .eql 23 s (.const (.pointer none)) (.pointer hp) (.pointer none)) W = .ok () W := fun s W => eg23 s hp W
  obtain ⟨hv, ehv⟩ : ∃ hv, Value.pointer hp = hv := ⟨_, rfl⟩
  have EH := Lib.hid ehv
  rw [ehv] at q2 E5 ⊢
  have H1 := Lib.hid (⟨h1, h2, t1⟩ : _ ∧ _ ∧ _)
  clear ehv h1 h2 t1
  go_wp2_with fail
  refine (HR.out w1).mono ?_
  rintro e w2 ⟨rp, G, rfl, r1, r2, t2, q3⟩
  have E6 : ∀ s W, Sem.run Tryd.prog (eqGuard .eql 27 s (.const (.pointer none)) (.pointer rp) (.pointer none)) W = .ok () W := fun s W => eg27 s rp W
  obtain ⟨rv, erv⟩ : ∃ rv, Value.pointer rp = rv := ⟨_, rfl⟩
  rw [erv] at q3 E6 ⊢
  have HI : Hid (InvV w hv rv w2.heap.size bound f0 f0 (w2.alloc (.cells #[.slice none 0 0, .int .i64 0] 32))) :=
    ⟨hp, rp, F, G, EH.out.symm, erv.symm, inv_new w w1 w2 hp rp F G bound HT.out H1.out.1 H1.out.2.1 H1.out.2.2 r1 r2 t2⟩
  have E3 : (en != en) = false := by simp
  have E4 : (bn != bn) = false := by cases bn <;> rfl
  clear HH HR H1 r1 r2 t2 erv EH
  go_wp2
  generalize w2.alloc (.cells #[.slice none 0 0, .int .i64 0] 32) = w3 at HI ⊢
  generalize w2.heap.size = zb at HI ⊢
  go_loopg [11] ops.length (fun g1 s wr => ∃ (i : Nat) (f : Nat → Bool), s = .int .i64 i ∧ i ≤ ops.length ∧ ops.length - i ≤ g1 ∧ Hid (InvV w hv rv zb bound f f wr))
  case atStart => exact ⟨0, f0, rfl, by omega, by omega, HI⟩
  case round =>
    clear HI
    obtain ⟨i, f, rfl, hi, hg1, HM⟩ := hrel
    by_cases hlt : i < ops.length
    · obtain ⟨b, off, x, y, rfl, hb, hc0, hc1, hop⟩ := HX.out.at_ hlt
      have okx : Hid (OpOk (x, y)) := OK.out _ (List.mem_of_getElem? hop)
      have z3 : (i : Int) < (ops.length : Int) := by omega
      have kc0 : wr.cell? ⟨b, off + i * 2, none⟩ = some (.int .u8 x) := (HM.out.below.cell (p := ⟨b, _, none⟩) hb).trans hc0
      have kc1 : wr.cell? ⟨b, off + i * 2 + 1, none⟩ = some (.int .i64 y) := (HM.out.below.cell (p := ⟨b, _, none⟩) hb).trans hc1
      clear hc0 hc1 hop hb
      have OKY : Hid (y ≤ 9223372036854775807) := (i64_of_wf okx.out.2).2
      have HS : Hid (St w hv rv zb bound wr.heap.size x y f f (wr.alloc (.cells #[.int .u8 x, .int .i64 y] 34))) := St.start HM.out
      clear okx HM
      rcases Decidable.em (x = 0) with hx0 | hx0
      · have d0 : (x == 0) = true := by simp [hx0]
        clear hx0
        go_wp2_with fail
        generalize wr.alloc (.cells #[.int .u8 x, .int .i64 y] 34) = wq at HS ⊢
        generalize wr.heap.size = ob at HS ⊢
        obtain ⟨tk, etk⟩ : ∃ tk, (inB bound y && !f y.toNat) = tk := ⟨_, rfl⟩
        obtain ⟨p, ep⟩ : ∃ p, plus bound f y = p := ⟨_, rfl⟩
        have PH : Hid (∀ W, St w hv rv zb bound ob x y f f W → Calls Tryd.prog 10 #[hv, .int .i64 y] W fun e w' => e = .returned (.bool tk) ∧ St w hv rv zb bound ob x y p f w' ∧ w'.cell? ⟨ob, 1, none⟩ = some (.int .i64 y)) := fun W s => by have q := sAdd s; rw [etk, ep] at q; exact q
        have PR : Hid (∀ W, St w hv rv zb bound ob x y p f W → Calls Tryd.prog 11 #[rv, .int .i64 y] W fun e w' => e = .returned (.bool tk) ∧ St w hv rv zb bound ob x y p p w' ∧ w'.cell? ⟨ob, 1, none⟩ = some (.int .i64 y)) := fun W s => by have q := sAddR s; rw [etk, ep] at q; exact q
        have PZ : Hid (∀ W, St w hv rv zb bound ob x y p p W → Calls Tryd.prog 10 #[.pointer (some ⟨zb, 0, none⟩), .int .i64 y] W fun e w' => e = .returned (.bool false) ∧ St w hv rv zb bound ob x y p p w' ∧ w'.cell? ⟨ob, 1, none⟩ = some (.int .i64 y)) := fun W s => by have q := sAddZ s; exact q
        have PN : Hid (∀ W, St w hv rv zb bound ob x y p p W → Calls Tryd.prog 10 #[.pointer none, .int .i64 y] W fun e w' => e = .returned (.bool false) ∧ St w hv rv zb bound ob x y p p w' ∧ w'.cell? ⟨ob, 1, none⟩ = some (.int .i64 y)) := fun W s => by have q := sAddN s; exact q
        have ha0 : St w hv rv zb bound ob x y f f wq.drew := HS.out.same (Turn.refl [] wq).drew
        have ka0 : wq.drew.cell? ⟨ob, 1, none⟩ = some (.int .i64 y) := ha0.cell
        have BB : (tk != tk) = false := by cases tk <;> rfl
        clear etk ep HS
        go_wp2_with fail
        go_region_held3 (fun w' => w'.cell? ⟨ob, 1, none⟩ = some (.int .i64 y))
          (first | exact (by with_reducible assumption))
          (first
            | (go_at_call 10; (with_reducible refine (PH.out _ (by with_reducible assumption)).mono ?_); rintro e w4 ⟨rfl, ha1, ka1⟩)
            | (go_at_call 11; (with_reducible refine (PR.out _ (by with_reducible assumption)).mono ?_); rintro e w5 ⟨rfl, ha2, ka2⟩)
            | (go_at_call 10; (with_reducible refine (PZ.out _ (by with_reducible assumption)).mono ?_); rintro e w6 ⟨rfl, ha3, ka3⟩)
            | (go_at_call 10; (with_reducible refine (PN.out _ (by with_reducible assumption)).mono ?_); rintro e w7 ⟨rfl, ha4, ka4⟩))
        have HS := Lib.hid ha4
        clear PH PR PZ PN ha0 ka0 ha1 ka1 ha2 ka2 ha3 ka3 ha4 ka4 BB
        generalize p = g at HS
        obtain ⟨hb1, ehb1⟩ : ∃ hb1, inI bound g y = hb1 := ⟨_, rfl⟩
        obtain ⟨nx, enx⟩ : ∃ nx, nextF bound g y = nx := ⟨_, rfl⟩
        have QA : Hid (∀ W, St w hv rv zb bound ob x y g g W → Calls Tryd.prog 14 #[hv, .int .i64 y] W fun e w' => e = .returned (.bool hb1) ∧ St w hv rv zb bound ob x y g g w' ∧ w'.cell? ⟨ob, 1, none⟩ = some (.int .i64 y)) := fun W s => by have q := sHas s; rw [ehb1] at q; exact q
        have QB : Hid (∀ W, St w hv rv zb bound ob x y g g W → Calls Tryd.prog 15 #[rv, .int .i64 y] W fun e w' => e = .returned (.bool hb1) ∧ St w hv rv zb bound ob x y g g w' ∧ w'.cell? ⟨ob, 1, none⟩ = some (.int .i64 y)) := fun W s => by have q := sHasR s; rw [ehb1] at q; exact q
        have QC : Hid (∀ W, St w hv rv zb bound ob x y g g W → Calls Tryd.prog 16 #[hv, .int .i64 y] W fun e w' => e = .returned (.int .i64 nx) ∧ St w hv rv zb bound ob x y g g w' ∧ w'.cell? ⟨ob, 1, none⟩ = some (.int .i64 y)) := fun W s => by have q := sNext OKY.out s; rw [enx] at q; exact q
        have QD : Hid (∀ W, St w hv rv zb bound ob x y g g W → Calls Tryd.prog 17 #[rv, .int .i64 y] W fun e w' => e = .returned (.int .i64 nx) ∧ St w hv rv zb bound ob x y g g w' ∧ w'.cell? ⟨ob, 1, none⟩ = some (.int .i64 y)) := fun W s => by have q := sNextR OKY.out s; rw [enx] at q; exact q
        have QE : Hid (∀ W, St w hv rv zb bound ob x y g g W → Calls Tryd.prog 14 #[.pointer (some ⟨zb, 0, none⟩), .int .i64 y] W fun e w' => e = .returned (.bool false) ∧ St w hv rv zb bound ob x y g g w' ∧ w'.cell? ⟨ob, 1, none⟩ = some (.int .i64 y)) := fun W s => by have q := sHasZ s; exact q
        have QF : Hid (∀ W, St w hv rv zb bound ob x y g g W → Calls Tryd.prog 14 #[.pointer none, .int .i64 y] W fun e w' => e = .returned (.bool false) ∧ St w hv rv zb bound ob x y g g w' ∧ w'.cell? ⟨ob, 1, none⟩ = some (.int .i64 y)) := fun W s => by have q := sHasN s; exact q
        have QG : Hid (∀ W, St w hv rv zb bound ob x y g g W → Calls Tryd.prog 16 #[.pointer (some ⟨zb, 0, none⟩), .int .i64 y] W fun e w' => e = .returned (.int .i64 (-1)) ∧ St w hv rv zb bound ob x y g g w' ∧ w'.cell? ⟨ob, 1, none⟩ = some (.int .i64 y)) := fun W s => by have q := sNextZ OKY.out s; exact q
        have QH : Hid (∀ W, St w hv rv zb bound ob x y g g W → Calls Tryd.prog 16 #[.pointer none, .int .i64 y] W fun e w' => e = .returned (.int .i64 (-1)) ∧ St w hv rv zb bound ob x y g g w' ∧ w'.cell? ⟨ob, 1, none⟩ = some (.int .i64 y)) := fun W s => by have q := sNextN OKY.out s; exact q
        have ha0 : St w hv rv zb bound ob x y g g w7.drew := HS.out.same (Turn.refl [] w7).drew
        have ka0 : w7.drew.cell? ⟨ob, 1, none⟩ = some (.int .i64 y) := ha0.cell
        have B1 : (hb1 != hb1) = false := by cases hb1 <;> rfl
        have B2 : (nx != nx) = false := by simp
        clear ehb1 enx HS
        go_wp2_with fail
        go_region_held3 (fun w' => w'.cell? ⟨ob, 1, none⟩ = some (.int .i64 y))
          (first | exact (by with_reducible assumption))
          (first
            | (go_at_call 14; (with_reducible refine (QA.out _ (by with_reducible assumption)).mono ?_); rintro e w20 ⟨rfl, ha1, ka1⟩)
            | (go_at_call 15; (with_reducible refine (QB.out _ (by with_reducible assumption)).mono ?_); rintro e w21 ⟨rfl, ha2, ka2⟩)
            | (go_at_call 16; (with_reducible refine (QC.out _ (by with_reducible assumption)).mono ?_); rintro e w22 ⟨rfl, ha3, ka3⟩)
            | (go_at_call 17; (with_reducible refine (QD.out _ (by with_reducible assumption)).mono ?_); rintro e w23 ⟨rfl, ha4, ka4⟩)
            | (go_at_call 14; (with_reducible refine (QE.out _ (by with_reducible assumption)).mono ?_); rintro e w24 ⟨rfl, ha5, ka5⟩)
            | (go_at_call 14; (with_reducible refine (QF.out _ (by with_reducible assumption)).mono ?_); rintro e w25 ⟨rfl, ha6, ka6⟩)
            | (go_at_call 16; (with_reducible refine (QG.out _ (by with_reducible assumption)).mono ?_); rintro e w26 ⟨rfl, ha7, ka7⟩)
            | (go_at_call 16; (with_reducible refine (QH.out _ (by with_reducible assumption)).mono ?_); rintro e w27 ⟨rfl, ha8, ka8⟩))
        have HI := Lib.hid ha8.inv
        clear QA QB QC QD QE QF QG QH ha0 ka0 ha1 ka1 ha2 ka2 ha3 ka3 ha4 ka4 ha5 ka5 ha6 ka6 ha7 ka7 ha8 ka8 B1 B2
        go_wp2
        go_roundg (ops.length - (i + 1))
        case measure => omega
        case rel => exact ⟨i + 1, g, rfl, by omega, by omega, HI⟩
      · rcases Decidable.em (x = 1) with hx1 | hx1
        · have d0 : (x == 0) = false := by simp [hx0]
          have d1 : (x == 1) = true := by simp [hx1]
          clear hx0 hx1
          go_wp2_with fail
          generalize wr.alloc (.cells #[.int .u8 x, .int .i64 y] 34) = wq at HS ⊢
          generalize wr.heap.size = ob at HS ⊢
          obtain ⟨tk, etk⟩ : ∃ tk, (inI bound f y) = tk := ⟨_, rfl⟩
          obtain ⟨p, ep⟩ : ∃ p, minus f y = p := ⟨_, rfl⟩
          have PH : Hid (∀ W, St w hv rv zb bound ob x y f f W → Calls Tryd.prog 12 #[hv, .int .i64 y] W fun e w' => e = .returned (.bool tk) ∧ St w hv rv zb bound ob x y p f w' ∧ w'.cell? ⟨ob, 1, none⟩ = some (.int .i64 y)) := fun W s => by have q := sDrop s; rw [etk, ep] at q; exact q
          have PR : Hid (∀ W, St w hv rv zb bound ob x y p f W → Calls Tryd.prog 13 #[rv, .int .i64 y] W fun e w' => e = .returned (.bool tk) ∧ St w hv rv zb bound ob x y p p w' ∧ w'.cell? ⟨ob, 1, none⟩ = some (.int .i64 y)) := fun W s => by have q := sDropR s; rw [etk, ep] at q; exact q
          have PZ : Hid (∀ W, St w hv rv zb bound ob x y p p W → Calls Tryd.prog 12 #[.pointer (some ⟨zb, 0, none⟩), .int .i64 y] W fun e w' => e = .returned (.bool false) ∧ St w hv rv zb bound ob x y p p w' ∧ w'.cell? ⟨ob, 1, none⟩ = some (.int .i64 y)) := fun W s => by have q := sDropZ s; exact q
          have PN : Hid (∀ W, St w hv rv zb bound ob x y p p W → Calls Tryd.prog 12 #[.pointer none, .int .i64 y] W fun e w' => e = .returned (.bool false) ∧ St w hv rv zb bound ob x y p p w' ∧ w'.cell? ⟨ob, 1, none⟩ = some (.int .i64 y)) := fun W s => by have q := sDropN s; exact q
          have ha0 : St w hv rv zb bound ob x y f f wq.drew := HS.out.same (Turn.refl [] wq).drew
          have ka0 : wq.drew.cell? ⟨ob, 1, none⟩ = some (.int .i64 y) := ha0.cell
          have BB : (tk != tk) = false := by cases tk <;> rfl
          clear etk ep HS
          go_wp2_with fail
          go_region_held3 (fun w' => w'.cell? ⟨ob, 1, none⟩ = some (.int .i64 y))
            (first | exact (by with_reducible assumption))
            (first
              | (go_at_call 12; (with_reducible refine (PH.out _ (by with_reducible assumption)).mono ?_); rintro e w4 ⟨rfl, ha1, ka1⟩)
              | (go_at_call 13; (with_reducible refine (PR.out _ (by with_reducible assumption)).mono ?_); rintro e w5 ⟨rfl, ha2, ka2⟩)
              | (go_at_call 12; (with_reducible refine (PZ.out _ (by with_reducible assumption)).mono ?_); rintro e w6 ⟨rfl, ha3, ka3⟩)
              | (go_at_call 12; (with_reducible refine (PN.out _ (by with_reducible assumption)).mono ?_); rintro e w7 ⟨rfl, ha4, ka4⟩))
          have HS := Lib.hid ha4
          clear PH PR PZ PN ha0 ka0 ha1 ka1 ha2 ka2 ha3 ka3 ha4 ka4 BB
          generalize p = g at HS
          obtain ⟨hb1, ehb1⟩ : ∃ hb1, inI bound g y = hb1 := ⟨_, rfl⟩
          obtain ⟨nx, enx⟩ : ∃ nx, nextF bound g y = nx := ⟨_, rfl⟩
          have QA : Hid (∀ W, St w hv rv zb bound ob x y g g W → Calls Tryd.prog 14 #[hv, .int .i64 y] W fun e w' => e = .returned (.bool hb1) ∧ St w hv rv zb bound ob x y g g w' ∧ w'.cell? ⟨ob, 1, none⟩ = some (.int .i64 y)) := fun W s => by have q := sHas s; rw [ehb1] at q; exact q
          have QB : Hid (∀ W, St w hv rv zb bound ob x y g g W → Calls Tryd.prog 15 #[rv, .int .i64 y] W fun e w' => e = .returned (.bool hb1) ∧ St w hv rv zb bound ob x y g g w' ∧ w'.cell? ⟨ob, 1, none⟩ = some (.int .i64 y)) := fun W s => by have q := sHasR s; rw [ehb1] at q; exact q
          have QC : Hid (∀ W, St w hv rv zb bound ob x y g g W → Calls Tryd.prog 16 #[hv, .int .i64 y] W fun e w' => e = .returned (.int .i64 nx) ∧ St w hv rv zb bound ob x y g g w' ∧ w'.cell? ⟨ob, 1, none⟩ = some (.int .i64 y)) := fun W s => by have q := sNext OKY.out s; rw [enx] at q; exact q
          have QD : Hid (∀ W, St w hv rv zb bound ob x y g g W → Calls Tryd.prog 17 #[rv, .int .i64 y] W fun e w' => e = .returned (.int .i64 nx) ∧ St w hv rv zb bound ob x y g g w' ∧ w'.cell? ⟨ob, 1, none⟩ = some (.int .i64 y)) := fun W s => by have q := sNextR OKY.out s; rw [enx] at q; exact q
          have QE : Hid (∀ W, St w hv rv zb bound ob x y g g W → Calls Tryd.prog 14 #[.pointer (some ⟨zb, 0, none⟩), .int .i64 y] W fun e w' => e = .returned (.bool false) ∧ St w hv rv zb bound ob x y g g w' ∧ w'.cell? ⟨ob, 1, none⟩ = some (.int .i64 y)) := fun W s => by have q := sHasZ s; exact q
          have QF : Hid (∀ W, St w hv rv zb bound ob x y g g W → Calls Tryd.prog 14 #[.pointer none, .int .i64 y] W fun e w' => e = .returned (.bool false) ∧ St w hv rv zb bound ob x y g g w' ∧ w'.cell? ⟨ob, 1, none⟩ = some (.int .i64 y)) := fun W s => by have q := sHasN s; exact q
          have QG : Hid (∀ W, St w hv rv zb bound ob x y g g W → Calls Tryd.prog 16 #[.pointer (some ⟨zb, 0, none⟩), .int .i64 y] W fun e w' => e = .returned (.int .i64 (-1)) ∧ St w hv rv zb bound ob x y g g w' ∧ w'.cell? ⟨ob, 1, none⟩ = some (.int .i64 y)) := fun W s => by have q := sNextZ OKY.out s; exact q
          have QH : Hid (∀ W, St w hv rv zb bound ob x y g g W → Calls Tryd.prog 16 #[.pointer none, .int .i64 y] W fun e w' => e = .returned (.int .i64 (-1)) ∧ St w hv rv zb bound ob x y g g w' ∧ w'.cell? ⟨ob, 1, none⟩ = some (.int .i64 y)) := fun W s => by have q := sNextN OKY.out s; exact q
          have ha0 : St w hv rv zb bound ob x y g g w7.drew := HS.out.same (Turn.refl [] w7).drew
          have ka0 : w7.drew.cell? ⟨ob, 1, none⟩ = some (.int .i64 y) := ha0.cell
          have B1 : (hb1 != hb1) = false := by cases hb1 <;> rfl
          have B2 : (nx != nx) = false := by simp
          clear ehb1 enx HS
          go_wp2_with fail
          go_region_held3 (fun w' => w'.cell? ⟨ob, 1, none⟩ = some (.int .i64 y))
            (first | exact (by with_reducible assumption))
            (first
              | (go_at_call 14; (with_reducible refine (QA.out _ (by with_reducible assumption)).mono ?_); rintro e w20 ⟨rfl, ha1, ka1⟩)
              | (go_at_call 15; (with_reducible refine (QB.out _ (by with_reducible assumption)).mono ?_); rintro e w21 ⟨rfl, ha2, ka2⟩)
              | (go_at_call 16; (with_reducible refine (QC.out _ (by with_reducible assumption)).mono ?_); rintro e w22 ⟨rfl, ha3, ka3⟩)
              | (go_at_call 17; (with_reducible refine (QD.out _ (by with_reducible assumption)).mono ?_); rintro e w23 ⟨rfl, ha4, ka4⟩)
              | (go_at_call 14; (with_reducible refine (QE.out _ (by with_reducible assumption)).mono ?_); rintro e w24 ⟨rfl, ha5, ka5⟩)
              | (go_at_call 14; (with_reducible refine (QF.out _ (by with_reducible assumption)).mono ?_); rintro e w25 ⟨rfl, ha6, ka6⟩)
              | (go_at_call 16; (with_reducible refine (QG.out _ (by with_reducible assumption)).mono ?_); rintro e w26 ⟨rfl, ha7, ka7⟩)
              | (go_at_call 16; (with_reducible refine (QH.out _ (by with_reducible assumption)).mono ?_); rintro e w27 ⟨rfl, ha8, ka8⟩))
          have HI := Lib.hid ha8.inv
          clear QA QB QC QD QE QF QG QH ha0 ka0 ha1 ka1 ha2 ka2 ha3 ka3 ha4 ka4 ha5 ka5 ha6 ka6 ha7 ka7 ha8 ka8 B1 B2
          go_wp2
          go_roundg (ops.length - (i + 1))
          case measure => omega
          case rel => exact ⟨i + 1, g, rfl, by omega, by omega, HI⟩
        · have d0 : (x == 0) = false := by simp [hx0]
          have d1 : (x == 1) = false := by simp [hx1]
          clear hx0 hx1
          go_wp2_with fail
          generalize wr.alloc (.cells #[.int .u8 x, .int .i64 y] 34) = wq at HS ⊢
          generalize wr.heap.size = ob at HS ⊢
          generalize f = g at HS
          obtain ⟨hb1, ehb1⟩ : ∃ hb1, inI bound g y = hb1 := ⟨_, rfl⟩
          obtain ⟨nx, enx⟩ : ∃ nx, nextF bound g y = nx := ⟨_, rfl⟩
          have QA : Hid (∀ W, St w hv rv zb bound ob x y g g W → Calls Tryd.prog 14 #[hv, .int .i64 y] W fun e w' => e = .returned (.bool hb1) ∧ St w hv rv zb bound ob x y g g w' ∧ w'.cell? ⟨ob, 1, none⟩ = some (.int .i64 y)) := fun W s => by have q := sHas s; rw [ehb1] at q; exact q
          have QB : Hid (∀ W, St w hv rv zb bound ob x y g g W → Calls Tryd.prog 15 #[rv, .int .i64 y] W fun e w' => e = .returned (.bool hb1) ∧ St w hv rv zb bound ob x y g g w' ∧ w'.cell? ⟨ob, 1, none⟩ = some (.int .i64 y)) := fun W s => by have q := sHasR s; rw [ehb1] at q; exact q
          have QC : Hid (∀ W, St w hv rv zb bound ob x y g g W → Calls Tryd.prog 16 #[hv, .int .i64 y] W fun e w' => e = .returned (.int .i64 nx) ∧ St w hv rv zb bound ob x y g g w' ∧ w'.cell? ⟨ob, 1, none⟩ = some (.int .i64 y)) := fun W s => by have q := sNext OKY.out s; rw [enx] at q; exact q
          have QD : Hid (∀ W, St w hv rv zb bound ob x y g g W → Calls Tryd.prog 17 #[rv, .int .i64 y] W fun e w' => e = .returned (.int .i64 nx) ∧ St w hv rv zb bound ob x y g g w' ∧ w'.cell? ⟨ob, 1, none⟩ = some (.int .i64 y)) := fun W s => by have q := sNextR OKY.out s; rw [enx] at q; exact q
          have QE : Hid (∀ W, St w hv rv zb bound ob x y g g W → Calls Tryd.prog 14 #[.pointer (some ⟨zb, 0, none⟩), .int .i64 y] W fun e w' => e = .returned (.bool false) ∧ St w hv rv zb bound ob x y g g w' ∧ w'.cell? ⟨ob, 1, none⟩ = some (.int .i64 y)) := fun W s => by have q := sHasZ s; exact q
          have QF : Hid (∀ W, St w hv rv zb bound ob x y g g W → Calls Tryd.prog 14 #[.pointer none, .int .i64 y] W fun e w' => e = .returned (.bool false) ∧ St w hv rv zb bound ob x y g g w' ∧ w'.cell? ⟨ob, 1, none⟩ = some (.int .i64 y)) := fun W s => by have q := sHasN s; exact q
          have QG : Hid (∀ W, St w hv rv zb bound ob x y g g W → Calls Tryd.prog 16 #[.pointer (some ⟨zb, 0, none⟩), .int .i64 y] W fun e w' => e = .returned (.int .i64 (-1)) ∧ St w hv rv zb bound ob x y g g w' ∧ w'.cell? ⟨ob, 1, none⟩ = some (.int .i64 y)) := fun W s => by have q := sNextZ OKY.out s; exact q
          have QH : Hid (∀ W, St w hv rv zb bound ob x y g g W → Calls Tryd.prog 16 #[.pointer none, .int .i64 y] W fun e w' => e = .returned (.int .i64 (-1)) ∧ St w hv rv zb bound ob x y g g w' ∧ w'.cell? ⟨ob, 1, none⟩ = some (.int .i64 y)) := fun W s => by have q := sNextN OKY.out s; exact q
          have ha0 : St w hv rv zb bound ob x y g g wq.drew := HS.out.same (Turn.refl [] wq).drew
          have ka0 : wq.drew.cell? ⟨ob, 1, none⟩ = some (.int .i64 y) := ha0.cell
          have B1 : (hb1 != hb1) = false := by cases hb1 <;> rfl
          have B2 : (nx != nx) = false := by simp
          clear ehb1 enx HS
          go_wp2_with fail
          go_region_held3 (fun w' => w'.cell? ⟨ob, 1, none⟩ = some (.int .i64 y))
            (first | exact (by with_reducible assumption))
            (first
              | (go_at_call 14; (with_reducible refine (QA.out _ (by with_reducible assumption)).mono ?_); rintro e w20 ⟨rfl, ha1, ka1⟩)
              | (go_at_call 15; (with_reducible refine (QB.out _ (by with_reducible assumption)).mono ?_); rintro e w21 ⟨rfl, ha2, ka2⟩)
              | (go_at_call 16; (with_reducible refine (QC.out _ (by with_reducible assumption)).mono ?_); rintro e w22 ⟨rfl, ha3, ka3⟩)
              | (go_at_call 17; (with_reducible refine (QD.out _ (by with_reducible assumption)).mono ?_); rintro e w23 ⟨rfl, ha4, ka4⟩)
              | (go_at_call 14; (with_reducible refine (QE.out _ (by with_reducible assumption)).mono ?_); rintro e w24 ⟨rfl, ha5, ka5⟩)
              | (go_at_call 14; (with_reducible refine (QF.out _ (by with_reducible assumption)).mono ?_); rintro e w25 ⟨rfl, ha6, ka6⟩)
              | (go_at_call 16; (with_reducible refine (QG.out _ (by with_reducible assumption)).mono ?_); rintro e w26 ⟨rfl, ha7, ka7⟩)
              | (go_at_call 16; (with_reducible refine (QH.out _ (by with_reducible assumption)).mono ?_); rintro e w27 ⟨rfl, ha8, ka8⟩))
          have HI := Lib.hid ha8.inv
          clear QA QB QC QD QE QF QG QH ha0 ka0 ha1 ka1 ha2 ka2 ha3 ka3 ha4 ka4 ha5 ka5 ha6 ka6 ha7 ka7 ha8 ka8 B1 B2
          go_wp2
          go_roundg (ops.length - (i + 1))
          case measure => omega
          case rel => exact ⟨i + 1, g, rfl, by omega, by omega, HI⟩
    · skip
      obtain ⟨hp', rp', F', G', rfl, rfl, hm⟩ := HM.out
      have z3 : ¬ (i : Int) < (ops.length : Int) := by omega
      clear HM HX OK q2 q3 E5 E6
      have hlen : (listF bound f).length ≤ 2048 := Nat.le_trans (listF_le bound f) hbd
      obtain ⟨L, hL⟩ : ∃ L, listF bound f = L := ⟨_, rfl⟩
      rw [hL] at hlen
      have CA : Hid (∀ W, Inv w hp' rp' zb bound F' G' f f W → Calls Tryd.prog 18 #[.pointer hp'] W fun e W' => AllYes L W e W' ∧ Inv w hp' rp' zb bound F' G' f f W') := fun W i => by have q := iAll W i; rw [hL] at q; exact q
      have CB : Hid (∀ W, Inv w hp' rp' zb bound F' G' f f W → Calls Tryd.prog 20 #[.pointer rp'] W fun e W' => RAllYes L W e W' ∧ Inv w hp' rp' zb bound F' G' f f W') := fun W i => by have q := iAllR W i; rw [hL] at q; exact q
      have CC : Hid (∀ W, Inv w hp' rp' zb bound F' G' f f W → Calls Tryd.prog 21 #[.pointer hp'] W (Did w hp' rp' zb bound F' G' f f W (.int .i64 (L.length : Nat)))) := fun W i => by have q := iLen W i; rw [hL] at q; exact q
      have CD : Hid (∀ W, Inv w hp' rp' zb bound F' G' f f W → Calls Tryd.prog 22 #[.pointer rp'] W (Did w hp' rp' zb bound F' G' f f W (.int .i64 (L.length : Nat)))) := fun W i => by have q := iLenR W i; rw [hL] at q; exact q
      have CE : Hid (∀ W, Inv w hp' rp' zb bound F' G' f f W → Calls Tryd.prog 21 #[.pointer (some ⟨zb, 0, none⟩)] W (Did w hp' rp' zb bound F' G' f f W (.int .i64 0))) := fun W i => by have q := iLenZ W i; exact q
      have CF : Hid (∀ W, Inv w hp' rp' zb bound F' G' f f W → Calls Tryd.prog 21 #[.pointer none] W (Did w hp' rp' zb bound F' G' f f W (.int .i64 0))) := fun W i => by have q := iLenN W i; exact q
      have CG : Hid (∀ W, Inv w hp' rp' zb bound F' G' f f W → Calls Tryd.prog 18 #[.pointer (some ⟨zb, 0, none⟩)] W fun e W' => AllYes [] W e W' ∧ Inv w hp' rp' zb bound F' G' f f W') := fun W i => iAllZ W i
      have CH : Hid (∀ W, Inv w hp' rp' zb bound F' G' f f W → Calls Tryd.prog 18 #[.pointer none] W fun e W' => AllYes [] W e W' ∧ Inv w hp' rp' zb bound F' G' f f W') := fun W i => iAllN W i
      clear hL
      have HF := Lib.hid (⟨hm.h.lt, hm.r.lt, hm.z.lt, hm.bel.size⟩ : _ ∧ _ ∧ _ ∧ _)
      have HI := Lib.hid hm
      clear hm
      go_wp2_with fail
      refine (CA.out _ HI.out).mono ?_
      rintro e w4 ⟨⟨g1, rfl, o1, b4⟩, i4⟩
      have HO := Lib.hid (⟨i4, o1, b4.size⟩ : _ ∧ _ ∧ _)
      clear HI o1 b4 i4
      go_wp2_with fail
      refine (CA.out _ HO.out.1).mono ?_
      rintro e w5 ⟨⟨g2, rfl, o2, b5⟩, i5⟩
      have HS : Hid (StE w hp' rp' zb bound F' G' f L wr.heap.size g1 g2 w5) := by
        have l1 := own_ge HO.out.2.1
        have l2 := own_ge o2
        have l3 := HO.out.2.2
        have l4 := b5.size
        refine ⟨i5, own_turn HO.out.2.1 (Turn.of_below b5) (fun _ _ => by simp), own_rebase o2 (fun g hg => ?_), by omega, by omega, fun x hx => ?_, HF.out.2.2.1, HF.out.2.2.2⟩
        · have := (o2.lt g hg).1
          omega
        · rcases List.mem_append.1 hx with h | h
          · exact HF.out.1 x h
          · exact HF.out.2.1 x h
      clear HO o2 b5 i5
      go_wp2_with fail
      refine (CB.out _ HS.out.i).mono ?_
      rintro e w6 ⟨⟨Sa, ca, rfl, rd, tt⟩, ii⟩
      have HS := Lib.hid (HS.out.same tt)
      have HE := Lib.hid (same_lists _ Sa L.length ca L hlen w6 _ HS.out.a rd)
      clear rd tt ii
      go_wp2_with fail
      refine HE.out.mono ?_
      rintro e w7 ⟨rfl, nq, rfl⟩
      have HS := Lib.hid (HS.out.same ((Turn.refl [] w6).drewN nq))
      clear HE
      generalize w6.drewN nq = w7 at HS ⊢
      go_wp2_with fail
      refine (CB.out _ HS.out.i).mono ?_
      rintro e w8 ⟨⟨Sb, cb, rfl, rd, tt⟩, ii⟩
      have HS := Lib.hid (HS.out.same tt)
      have HE := Lib.hid (same_lists _ Sb L.length cb L hlen w8 _ HS.out.b rd)
      clear rd tt ii
      go_wp2_with fail
      refine HE.out.mono ?_
      rintro e w9 ⟨rfl, nq, rfl⟩
      have HS := Lib.hid (HS.out.same ((Turn.refl [] w8).drewN nq))
      clear HE
      generalize w8.drewN nq = w9 at HS ⊢
      have LL : ((L.length : Int) != (L.length : Int)) = false := by simp
      go_wp2_with fail
      refine (CC.out _ HS.out.i).mono ?_
      intro e w10 dd
      obtain ⟨rfl, ss⟩ := HS.out.did dd
      have HS := Lib.hid ss
      clear dd ss
      go_wp2_with fail
      refine (CD.out _ HS.out.i).mono ?_
      intro e w11 dd
      obtain ⟨rfl, ss⟩ := HS.out.did dd
      have HS := Lib.hid ss
      clear dd ss
      go_wp2_with fail
      refine (CE.out _ HS.out.i).mono ?_
      intro e w12 dd
      obtain ⟨rfl, ss⟩ := HS.out.did dd
      have HS := Lib.hid ss
      clear dd ss
      go_wp2_with fail
      refine (CF.out _ HS.out.i).mono ?_
      intro e w13 dd
      obtain ⟨rfl, ss⟩ := HS.out.did dd
      have HS := Lib.hid ss
      clear dd ss
      go_wp2_with fail
      refine (CG.out _ HS.out.i).mono ?_
      rintro e w14 ⟨⟨gz, rfl, oz, bz⟩, iz⟩
      have HS := Lib.hid (HS.out.same (Turn.of_below bz))
      clear oz bz iz
      go_wp2_with fail
      refine (CH.out _ HS.out.i).mono ?_
      rintro e w15 ⟨⟨gz, rfl, oz, bz⟩, iz⟩
      have HS := Lib.hid (HS.out.same (Turn.of_below bz))
      clear oz bz iz
      clear CC CD CE CF CG CH LL
      go_wp2_with fail
      have hbk0 : wr.heap.size ≤ w15.heap.size := HS.out.sz
      have hB0 := book_new w15
      have HS := Lib.hid (HS.out.same ((Turn.refl [] w15).alloc (.cells #[.int .i64 0, .slice none 0 0, .slice none 0 0, .slice none 0 0, .slice none 0 0, .slice none 0 0, .slice none 0 0, .slice none 0 0, .slice none 0 0, .slice none 0 0, .slice none 0 0, .slice none 0 0, .slice none 0 0] 54)))
      generalize w15.alloc (.cells #[.int .i64 0, .slice none 0 0, .slice none 0 0, .slice none 0 0, .slice none 0 0, .slice none 0 0, .slice none 0 0, .slice none 0 0, .slice none 0 0, .slice none 0 0, .slice none 0 0, .slice none 0 0, .slice none 0 0] 54) = w16 at HS hB0 ⊢
      generalize w15.heap.size = bk at hB0 hbk0 ⊢
      have K0 : Bk.KIn w16 wr.heap.size 3 78 1 [] Bk.mkInt 0 (svNil 2) := Bk.KIn.nil _ _ _ _ _ _ _
      have HK1 := Lib.hid (kept_ints bk wr.heap.size 0 (some ⟨g1, 0, none⟩) L.length L.length svNil [] _ w16 (by omega) HS.out.sz hbk0 hB0 K0 HS.out.a (fun e' he => by simp at he) (by omega) (by simp))
      have HBK := Lib.hid hbk0
      clear K0 hB0 hbk0
      refine HK1.out.mono ?_
      rintro e w17 ⟨rfl, sv1, hsv1, k1, K1, f1, loc1, fr1⟩
      have OB1 := Bk.own_frm2 HS.out.b f1 (by decide) (by decide)
      have HK2 := Lib.hid (kept_ints bk wr.heap.size 1 (some ⟨g2, 0, none⟩) L.length L.length sv1 _ _ w17 (by omega) (Nat.le_trans HS.out.sz f1.below.size) HBK.out k1 K1 OB1 (fun e' he => by
        simp only [List.nil_append, List.mem_singleton] at he
        subst he
        exact .inr (fun e => HS.out.ne (by injection e))) (by omega) (by simp))
      have HT1 := Lib.hid (⟨f1.below, hsv1⟩ : _ ∧ _)
      clear HK1 f1 hsv1 k1 K1 loc1 fr1 OB1
      dsimp only
      go_wp2_with fail
      refine HK2.out.mono ?_
      rintro e w18 ⟨rfl, sv2, hsv2, k2, K2, f2, loc2, fr2⟩
      have SV : ∀ j, j ≠ 2 → sv2 j = svNil j := fun j hj => (hsv2 j hj).trans (HT1.out.2 j hj)
      have BK2 := HT1.out.1.trans f2.below
      have AP := Lib.hid (Bk.apart_any (Nat.le_trans HS.out.sz BK2.size) k2 K2 (SV 1 (by decide)) (SV 3 (by decide)) (SV 4 (by decide)) (SV 5 (by decide)) (SV 6 (by decide)) (SV 7 (by decide)) (SV 8 (by decide)) (SV 9 (by decide)) (SV 10 (by decide)) (SV 11 (by decide)) (SV 12 (by decide)))
      have HB2 := Lib.hid BK2
      clear HK2 HT1 SV BK2 k2 K2 f2 loc2 fr2 hsv2
      dsimp only
      go_wp2_with fail
      refine AP.out.mono ?_
      rintro e w19 ⟨rfl, b19⟩
      have HI := Lib.hid (HS.out.base (HB2.out.trans b19))
      clear AP HS HB2 HBK HF b19
      dsimp only
      go_wp2_with fail
      refine (CA.out _ HI.out).mono ?_
      rintro e w20 ⟨⟨g3, rfl, o3, b3⟩, i3⟩
      have HJ := Lib.hid (⟨i3, o3⟩ : _ ∧ _)
      clear HI o3 b3 i3
      go_wp2_with fail
      refine (CB.out _ HJ.out.1).mono ?_
      rintro e w21 ⟨⟨Sc, cc, rfl, rd, tt⟩, ii⟩
      have HE := Lib.hid (same_lists _ Sc L.length cc L hlen w21 _ (own_turn HJ.out.2 tt (fun _ _ => by simp)) rd)
      have HK := Lib.hid ii
      clear rd tt ii HJ
      go_wp2_with fail
      refine HE.out.mono ?_
      rintro e w22 ⟨rfl, nq, rfl⟩
      have HZ := Lib.hid (HK.out.same ((Turn.refl [] w21).drewN nq)).bel
      clear HE HK
      go_wp2
      go_ret
      exact ⟨rfl, HZ.out⟩
theorem setsPlays_any (A : Option Addr) (c : Nat) (n : Int) (ops : List (Int × Int)) (w : World) (hx : RdO w w.heap.size A ops) (ok : ∀ x ∈ ops, OpOk x) (hT : Tab w) :
    Calls Tryd.prog 3 #[.int .i64 n, .slice A ops.length c] w fun e w' => e = .returned (.bool true) ∧ Below w.heap.size w w' := by
  rcases Nat.lt_or_ge 500 ops.length with h | h
  · exact setsPlays_far A c _ n w h
  · obtain ⟨bound, en, bn, hb, h1, h2⟩ := new_both n
    exact setsPlays_main A c n ops w hx ok h hT bound en bn hb h1 h2
end Go.Proofs.YtgcclijdkcomiaaDoor
