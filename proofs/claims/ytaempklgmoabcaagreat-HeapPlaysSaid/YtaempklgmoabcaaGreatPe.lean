/- The state of HeapPlays: two heaps that keep the same, one that is idle, an empty book. -/
import Derived.Test.YtaempklgmoabcaaGreatPd
import Derived.Test.YtaempklgmoabcaaGreatAo
import Derived.Test.YtaempklgmoabcaaGreatBa
namespace Go.Proofs.YtaempklgmoabcaaGreat
open Go.Shelf Go.RowKit Go.Lib
open Go.Sort hiding Below
set_option linter.unusedVariables false
/-- An empty book. -/
def svNil : Nat → Value := fun _ => .slice none 0 0
theorem book_new (w : World) : Bk.BookAt (w.alloc (.cells #[.int .i64 0, .slice none 0 0, .slice none 0 0, .slice none 0 0, .slice none 0 0, .slice none 0 0, .slice none 0 0, .slice none 0 0, .slice none 0 0, .slice none 0 0, .slice none 0 0, .slice none 0 0, .slice none 0 0] 50)) w.heap.size ((0 : Nat) : Int) svNil := heap_alloc_new w _
theorem book_turn {A : List Nat} {w w' : World} {bk : Nat} {n : Int} {sv : Nat → Value} (h : Bk.BookAt w bk n sv) (k : Turn A w w') (hn : bk ∉ A) : Bk.BookAt w' bk n sv := (k.block bk h.hb.lt hn).trans h
structure Inv (w0 : World) (hv rv : Value) (zb bk most : Nat) (F G : List Nat) (ys zs : HL) (w : World) : Prop where
  h : HG w hv F most ys
  r : RG w rv G most zs
  z : HG w (.pointer (some ⟨zb, 0, none⟩)) [zb] 0 []
  k : Bk.BookAt w bk ((0 : Nat) : Int) svNil
  fg : ∀ f ∈ F, f ∉ G
  zf : zb ∉ F
  zg : zb ∉ G
  bf : bk ∉ F
  bg : bk ∉ G
  zk : zb ≠ bk
  nf : ∀ f ∈ F, w0.heap.size ≤ f
  ng : ∀ f ∈ G, w0.heap.size ≤ f
  nz : w0.heap.size ≤ zb
  nb : w0.heap.size ≤ bk
  t : Turn [] w0 w
theorem Inv.same {w0 w w' : World} {hv rv : Value} {zb bk most : Nat} {F G : List Nat} {ys zs : HL} (i : Inv w0 hv rv zb bk most F G ys zs w) (t : Turn [] w w') : Inv w0 hv rv zb bk most F G ys zs w' :=
  ⟨i.h.turn t (fun _ _ => by simp), i.r.turn t (fun _ _ => by simp), i.z.turn t (fun _ _ => by simp), book_turn i.k t (by simp), i.fg, i.zf, i.zg, i.bf, i.bg, i.zk, i.nf, i.ng, i.nz, i.nb, i.t.trans t (fun _ h => by simp at h)⟩
theorem Inv.ltz {w0 w : World} {hv rv : Value} {zb bk most : Nat} {F G : List Nat} {ys zs : HL} (i : Inv w0 hv rv zb bk most F G ys zs w) : zb < w.heap.size := i.z.lt zb (by simp)
theorem Inv.ltb {w0 w : World} {hv rv : Value} {zb bk most : Nat} {F G : List Nat} {ys zs : HL} (i : Inv w0 hv rv zb bk most F G ys zs w) : bk < w.heap.size := i.k.hb.lt
theorem Inv.stepH {w0 w w' : World} {hv rv : Value} {zb bk most : Nat} {F F' G : List Nat} {ys ys' zs : HL} (i : Inv w0 hv rv zb bk most F G ys zs w) (hh : HG w' hv F' most ys') (t : Turn F w w') (n : ∀ f ∈ F', f ∈ F ∨ w.heap.size ≤ f) : Inv w0 hv rv zb bk most F' G ys' zs w' := by
  have hz := i.ltz
  have hb := i.ltb
  have hs := i.t.size
  refine ⟨hh, i.r.turn t (fun f hf h => i.fg f h hf), i.z.turn t (fun f hf => by simp only [List.mem_singleton] at hf; subst hf; exact i.zf), book_turn i.k t i.bf, fun f hf hg => ?_, fun hf => ?_, i.zg, fun hf => ?_, i.bg, i.zk, fun f hf => ?_, i.ng, i.nz, i.nb, i.t.trans t (fun f hf => .inr (i.nf f hf))⟩
  · rcases n f hf with h | h
    · exact i.fg f h hg
    · have := i.r.lt f hg; omega
  · rcases n _ hf with h | h
    · exact i.zf h
    · omega
  · rcases n _ hf with h | h
    · exact i.bf h
    · omega
  · rcases n f hf with h | h
    · exact i.nf f h
    · omega
theorem Inv.stepR {w0 w w' : World} {hv rv : Value} {zb bk most : Nat} {F G G' : List Nat} {ys zs zs' : HL} (i : Inv w0 hv rv zb bk most F G ys zs w) (hr : RG w' rv G' most zs') (t : Turn G w w') (n : ∀ f ∈ G', f ∈ G ∨ w.heap.size ≤ f) : Inv w0 hv rv zb bk most F G' ys zs' w' := by
  have hz := i.ltz
  have hb := i.ltb
  have hs := i.t.size
  refine ⟨i.h.turn t i.fg, hr, i.z.turn t (fun f hf => by simp only [List.mem_singleton] at hf; subst hf; exact i.zg), book_turn i.k t i.bg, fun f hf hg => ?_, i.zf, fun hf => ?_, i.bf, fun hf => ?_, i.zk, i.nf, fun f hf => ?_, i.nz, i.nb, i.t.trans t (fun f hf => .inr (i.ng f hf))⟩
  · rcases n f hg with h | h
    · exact i.fg f hf h
    · have := i.h.lt f hf; omega
  · rcases n _ hf with h | h
    · exact i.zg h
    · omega
  · rcases n _ hf with h | h
    · exact i.bg h
    · omega
  · rcases n f hf with h | h
    · exact i.ng f h
    · omega
theorem hg_nil (w : World) : HG w (.pointer none) [] 0 [] := .inl ⟨.inl ⟨rfl, rfl⟩, rfl, rfl⟩
/-- Of two heaps in any state: each call, and what it leaves of both. -/
def InvE (w0 : World) (hv rv : Value) (zb bk most : Nat) (ys zs : HL) (w : World) : Prop := ∃ F G, Inv w0 hv rv zb bk most F G ys zs w
theorem InvE.same {w0 w w' : World} {hv rv : Value} {zb bk most : Nat} {ys zs : HL} (i : InvE w0 hv rv zb bk most ys zs w) (t : Turn [] w w') : InvE w0 hv rv zb bk most ys zs w' := by
  obtain ⟨F, G, i⟩ := i
  exact ⟨F, G, i.same t⟩
theorem InvE.t {w0 w : World} {hv rv : Value} {zb bk most : Nat} {ys zs : HL} (i : InvE w0 hv rv zb bk most ys zs w) : Turn [] w0 w := by
  obtain ⟨F, G, i⟩ := i
  exact i.t
theorem InvE.below {w0 w : World} {hv rv : Value} {zb bk most : Nat} {ys zs : HL} (i : InvE w0 hv rv zb bk most ys zs w) : Below w0.heap.size w0 w := i.t.below (fun a ha => by simp at ha) (Nat.le_refl _)
/-- Push of both, of the idle ones. -/
theorem iPushH {w0 : World} {hv rv : Value} {zb bk most : Nat} {ys zs : HL} (x y : Int) (w : World) (i : InvE w0 hv rv zb bk most ys zs w) (hx : HitOk (x, y)) :
    Calls Tryz.prog 8 #[hv, .agg #[.int .u64 x, .int .i64 y]] w fun e w' => e = .returned (.bool (tookG most ys (x, y))) ∧ InvE w0 hv rv zb bk most (pushG most ys (x, y)) zs w' := by
  obtain ⟨F, G, i⟩ := i
  refine (gPush hv F most ys x y w i.h hx).mono ?_
  rintro e w' ⟨h1, F', h2, h3, h4⟩
  exact ⟨h1, F', G, i.stepH h2 h3 h4⟩
theorem iPushR {w0 : World} {hv rv : Value} {zb bk most : Nat} {ys zs : HL} (x y : Int) (w : World) (i : InvE w0 hv rv zb bk most ys zs w) :
    Calls Tryz.prog 9 #[rv, .agg #[.int .u64 x, .int .i64 y]] w fun e w' => e = .returned (.bool (tookG most zs (x, y))) ∧ InvE w0 hv rv zb bk most ys (pushG most zs (x, y)) w' := by
  obtain ⟨F, G, i⟩ := i
  refine (rPush rv G most zs x y w i.r).mono ?_
  rintro e w' ⟨h1, G', h2, h3, h4⟩
  exact ⟨h1, F, G', i.stepR h2 h3 h4⟩
theorem iPushZ {w0 : World} {hv rv : Value} {zb bk most : Nat} {ys zs : HL} (x y : Int) (w : World) (i : InvE w0 hv rv zb bk most ys zs w) :
    Calls Tryz.prog 8 #[.pointer (some ⟨zb, 0, none⟩), .agg #[.int .u64 x, .int .i64 y]] w fun e w' => e = .returned (.bool false) ∧ InvE w0 hv rv zb bk most ys zs w' := by
  obtain ⟨F, G, i⟩ := i
  rcases i.z with ⟨h, _⟩ | ⟨b, e, h⟩
  · exact (idle_push x y h).mono fun e w' hh => ⟨hh.1, F, G, i.same hh.2⟩
  · exact absurd h.facts.2.2.2.2.1 (by omega)
theorem iPushN {w0 : World} {hv rv : Value} {zb bk most : Nat} {ys zs : HL} (x y : Int) (w : World) (i : InvE w0 hv rv zb bk most ys zs w) :
    Calls Tryz.prog 8 #[.pointer none, .agg #[.int .u64 x, .int .i64 y]] w fun e w' => e = .returned (.bool false) ∧ InvE w0 hv rv zb bk most ys zs w' := by
  obtain ⟨F, G, i⟩ := i
  exact (idle_push x y (w := w) (.inl ⟨rfl, rfl⟩)).mono fun e w' hh => ⟨hh.1, F, G, i.same hh.2⟩
/-- What is made by New, and whether it is nothing. -/
def GNew (most : Nat) (en : Int) (bn : Bool) (w : World) (e : Ending) (w' : World) : Prop :=
  ∃ hv F, e = .returned (.tuple #[hv, .int .i64 en]) ∧ HG w' hv F most [] ∧ (∀ f ∈ F, w.heap.size ≤ f) ∧ Turn [] w w' ∧ (∀ W, Sem.run Tryz.prog (binOp .eql 23 hv (.pointer none)) W = .ok (.bool bn) W) ∧ ∀ s W, Sem.run Tryz.prog (eqGuard .eql 23 s (.const (.pointer none)) hv (.pointer none)) W = .ok () W
def RNew (most : Nat) (en : Int) (bn : Bool) (w : World) (e : Ending) (w' : World) : Prop :=
  ∃ rv G, e = .returned (.tuple #[rv, .int .i64 en]) ∧ RG w' rv G most [] ∧ (∀ f ∈ G, w.heap.size ≤ f) ∧ Turn [] w w' ∧ (∀ W, Sem.run Tryz.prog (binOp .eql 27 rv (.pointer none)) W = .ok (.bool bn) W) ∧ ∀ s W, Sem.run Tryz.prog (eqGuard .eql 27 s (.const (.pointer none)) rv (.pointer none)) W = .ok () W
theorem eq_no23 (W : World) : Sem.run Tryz.prog (binOp .eql 23 (.pointer none) (.pointer none)) W = .ok (.bool true) W := by
  have u := Tryz.underlying23
  go_simp
theorem eq_yes23 (a : Addr) (W : World) : Sem.run Tryz.prog (binOp .eql 23 (.pointer (some a)) (.pointer none)) W = .ok (.bool false) W := by
  have u := Tryz.underlying23
  go_simp
theorem eq_no27 (W : World) : Sem.run Tryz.prog (binOp .eql 27 (.pointer none) (.pointer none)) W = .ok (.bool true) W := by
  have u := Tryz.underlying27
  go_simp
theorem eq_yes27 (a : Addr) (W : World) : Sem.run Tryz.prog (binOp .eql 27 (.pointer (some a)) (.pointer none)) W = .ok (.bool false) W := by
  have u := Tryz.underlying27
  go_simp
theorem eg23 (s : Operand) (p : Option Addr) (W : World) : Sem.run Tryz.prog (eqGuard .eql 23 s (.const (.pointer none)) (.pointer p) (.pointer none)) W = .ok () W := by
  have u := Tryz.underlying23
  unfold eqGuard
  go_simp
theorem eg27 (s : Operand) (p : Option Addr) (W : World) : Sem.run Tryz.prog (eqGuard .eql 27 s (.const (.pointer none)) (.pointer p) (.pointer none)) W = .ok () W := by
  have u := Tryz.underlying27
  unfold eqGuard
  go_simp
theorem new_both (n : Int) : ∃ most en bn, (∀ w, Calls Tryz.prog 4 #[.int .i64 n] w (GNew most en bn w)) ∧ ∀ w, Calls Tryz.prog 5 #[.int .i64 n] w (RNew most en bn w) := by
  by_cases h : n < 1 ∨ 256 < n
  · refine ⟨0, 1, true, fun w => (hNew_no n w h).mono ?_, fun w => (rNew_no n w h).mono ?_⟩
    · rintro e w' ⟨rfl, rfl⟩
      exact ⟨_, [], rfl, hg_nil w', fun f hf => by simp at hf, Turn.refl _ _, eq_no23, fun s W => eg23 s _ W⟩
    · rintro e w' ⟨rfl, rfl⟩
      exact ⟨_, [], rfl, .inl ⟨rfl, rfl, rfl, rfl⟩, fun f hf => by simp at hf, Turn.refl _ _, eq_no27, fun s W => eg27 s _ W⟩
  · obtain ⟨k, rfl⟩ : ∃ k : Nat, n = k := ⟨n.toNat, by omega⟩
    refine ⟨k, 0, false, fun w => (hNew_yes k w (by omega) (by omega)).mono ?_, fun w => (rNew_yes k w (by omega) (by omega)).mono ?_⟩
    · rintro e w' ⟨b, F, rfl, h1, h2, h3⟩
      exact ⟨_, F, rfl, .inr ⟨b, rfl, h1⟩, h2, h3, eq_yes23 _, fun s W => eg23 s _ W⟩
    · rintro e w' ⟨b, G, rfl, h1, h2, h3⟩
      exact ⟨_, G, rfl, h1, h2, h3, eq_yes27 _, fun s W => eg27 s _ W⟩
/-- Behind Apart: from B on the world may have turned. -/
theorem turn_from {B : Nat} {w w' : World} (h : Below B w w') : Turn ((List.range w.heap.size).filter (B ≤ ·)) w w' :=
  ⟨h.os, h.tape, h.output, h.size, fun k hk hn => h.block k (by
    rcases Nat.lt_or_ge k B with h1 | h1
    · exact h1
    · exact absurd (List.mem_filter.2 ⟨List.mem_range.2 hk, by simpa using h1⟩) hn)⟩
theorem not_from {B n f : Nat} (h : f < B) : f ∉ (List.range n).filter (B ≤ ·) := fun hm => by
  have := (List.mem_filter.1 hm).2
  simp at this
  omega
theorem own_rebase {w : World} {base base' e size n : Nat} {v : Value} {xs : List Value} (h : w.ownsRow base e size v n xs) (hb : ∀ g, v.ownBlock = some g → base' ≤ g) : w.ownsRow base' e size v n xs := by
  refine ⟨h.1, ?_⟩
  rcases h.2 with h1 | ⟨g, cap, cur, rfl, h2, r⟩
  · exact .inl h1
  · exact .inr ⟨g, cap, cur, rfl, hb g (by simp [Value.ownBlock]), r⟩
theorem kin_rebase {w : World} {base base' : Nat} {t T : TypeId} {s : Nat} {es : List Bk.Ent} {mk : Nat → List Value} {sv : Value} (h : Bk.KIn w base t T s es mk 0 sv) (he : ∀ e ∈ es, ∀ g, e.blk = some g → base' ≤ g) (hr : ∀ g, sv.ownBlock = some g → base' ≤ g) : Bk.KIn w base' t T s es mk 0 sv :=
  ⟨⟨fun j e hj => by
    obtain ⟨xs, h1, h2⟩ := h.lists.own j e hj
    exact ⟨xs, own_rebase h1 (fun g hg => he e (List.mem_of_getElem? hj) g hg), h2⟩, h.lists.apart⟩, by
    rcases h.row with h1 | ⟨b, c, h1, h2⟩
    · exact .inl h1
    · exact .inr ⟨b, c, h1, own_rebase h2 hr⟩, h.num, h.len⟩
end Go.Proofs.YtaempklgmoabcaaGreat
