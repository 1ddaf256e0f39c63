/- How SetsPlays begins: both New's; lists of the call's own under a greater base. -/
import Derived.Test.YtgcclijdkcomiaaDoorRc
import Derived.Test.YtgcclijdkcomiaaDoorBa
namespace Go.Proofs.YtgcclijdkcomiaaDoor
open Go.RowKit
set_option linter.unusedVariables false
theorem eq_no23 (W : World) : Sem.run Tryd.prog (binOp .eql 23 (.pointer none) (.pointer none)) W = .ok (.bool true) W := by
  have u := Tryd.underlying23
  go_simp
theorem eq_yes23 (a : Addr) (W : World) : Sem.run Tryd.prog (binOp .eql 23 (.pointer (some a)) (.pointer none)) W = .ok (.bool false) W := by
  have u := Tryd.underlying23
  go_simp
theorem eq_no27 (W : World) : Sem.run Tryd.prog (binOp .eql 27 (.pointer none) (.pointer none)) W = .ok (.bool true) W := by
  have u := Tryd.underlying27
  go_simp
theorem eq_yes27 (a : Addr) (W : World) : Sem.run Tryd.prog (binOp .eql 27 (.pointer (some a)) (.pointer none)) W = .ok (.bool false) W := by
  have u := Tryd.underlying27
  go_simp
theorem eg23 (s : Operand) (p : Option Addr) (W : World) : Sem.run Tryd.prog (eqGuard .eql 23 s (.const (.pointer none)) (.pointer p) (.pointer none)) W = .ok () W := by
  have u := Tryd.underlying23
  unfold eqGuard
  go_simp
theorem eg27 (s : Operand) (p : Option Addr) (W : World) : Sem.run Tryd.prog (eqGuard .eql 27 s (.const (.pointer none)) (.pointer p) (.pointer none)) W = .ok () W := by
  have u := Tryd.underlying27
  unfold eqGuard
  go_simp
def GNew (bound : Nat) (en : Int) (bn : Bool) (w : World) (e : Ending) (w' : World) : Prop :=
  ∃ hp F, e = .returned (.tuple #[.pointer hp, .int .i64 en]) ∧ GS w' hp F bound f0 ∧ (∀ x ∈ F, w.heap.size ≤ x ∧ x < w'.heap.size) ∧ Turn [] w w' ∧ (∀ W, Sem.run Tryd.prog (binOp .eql 23 (.pointer hp) (.pointer none)) W = .ok (.bool bn) W)
def RNew (bound : Nat) (en : Int) (bn : Bool) (w : World) (e : Ending) (w' : World) : Prop :=
  ∃ rp G, e = .returned (.tuple #[.pointer rp, .int .i64 en]) ∧ RS w' rp G bound f0 ∧ (∀ x ∈ G, w.heap.size ≤ x ∧ x < w'.heap.size) ∧ Turn [] w w' ∧ (∀ W, Sem.run Tryd.prog (binOp .eql 27 (.pointer rp) (.pointer none)) W = .ok (.bool bn) W)
theorem new_both (n : Int) : ∃ bound en bn, bound ≤ 2048 ∧ (∀ w, Calls Tryd.prog 8 #[.int .i64 n] w (GNew bound en bn w)) ∧ ∀ w, Calls Tryd.prog 9 #[.int .i64 n] w (RNew bound en bn w) := by
  by_cases h : n < 0 ∨ 2048 < n
  · refine ⟨0, 1, true, by omega, fun w => (new_no n h w).mono ?_, fun w => (rNew_no n h w).mono ?_⟩
    · rintro e w' ⟨rfl, rfl⟩
      exact ⟨_, [], rfl, .inl ⟨rfl, rfl, rfl, fun _ => rfl⟩, fun f hf => by simp at hf, Turn.refl _ _, eq_no23⟩
    · rintro e w' ⟨rfl, rfl⟩
      exact ⟨_, [], rfl, .inl ⟨rfl, rfl, rfl, fun _ => rfl⟩, fun f hf => by simp at hf, Turn.refl _ _, eq_no27⟩
  · obtain ⟨k, rfl⟩ : ∃ k : Nat, n = k := ⟨n.toNat, by omega⟩
    refine ⟨k, 0, false, by omega, fun w => (new_yes k (by omega) w).mono ?_, fun w => (rNew_yes k (by omega) w).mono ?_⟩
    · rintro e w' ⟨b, g, ws, rfl, h1, h2, h3, h4, h5⟩
      exact ⟨_, [b, g], rfl, .inr ⟨b, g, rfl, rfl, ws, h1, h2⟩, fun x hx => by
        simp only [List.mem_cons, List.not_mem_nil, or_false] at hx
        rcases hx with rfl | rfl
        · exact ⟨h3, h1.blk.lt⟩
        · exact ⟨h4, h1.row.lt⟩, h5, eq_yes23 _⟩
    · rintro e w' ⟨b, g, rfl, h1, h3, h4, h5⟩
      exact ⟨_, [b, g], rfl, .inr ⟨b, g, rfl, rfl, h1⟩, fun x hx => by
        simp only [List.mem_cons, List.not_mem_nil, or_false] at hx
        rcases hx with rfl | rfl
        · exact ⟨h3, h1.blk.lt⟩
        · exact ⟨h4, h1.row.lt⟩, h5, eq_yes27 _⟩
theorem own_rebase {w : World} {base base' e size n : Nat} {v : Value} {xs : List Value} (h : w.ownsRow base e size v n xs) (hb : ∀ g, v.ownBlock = some g → base' ≤ g) : w.ownsRow base' e size v n xs := by
  refine ⟨h.1, ?_⟩
  rcases h.2 with h1 | ⟨g, cap, cur, rfl, h2, r⟩
  · exact .inl h1
  · exact .inr ⟨g, cap, cur, rfl, hb g (by simp [Value.ownBlock]), r⟩
/-- The beginning: the state, with an idle set. -/
theorem inv_new (w w1 w2 : World) (hp rp : Option Addr) (F G : List Nat) (bound : Nat) (hT : Tab w) (h1 : GS w1 hp F bound f0) (hF : ∀ x ∈ F, w.heap.size ≤ x ∧ x < w1.heap.size) (t1 : Turn [] w w1) (h2 : RS w2 rp G bound f0) (hG : ∀ x ∈ G, w1.heap.size ≤ x ∧ x < w2.heap.size) (t2 : Turn [] w1 w2) :
    Inv w hp rp w2.heap.size bound F G f0 f0 (w2.alloc (.cells #[.slice none 0 0, .int .i64 0] 32)) := by
  have t3 : Turn [] w2 (w2.alloc (.cells #[.slice none 0 0, .int .i64 0] 32)) := (Turn.refl _ _).alloc _
  have t12 : Turn [] w w2 := t1.trans t2 (by simp)
  have t13 : Turn [] w (w2.alloc (.cells #[.slice none 0 0, .int .i64 0] 32)) := t12.trans t3 (by simp)
  have s1 := t1.size
  have s2 := t2.size
  exact ⟨(h1.turn t2 (fun _ _ => by simp)).turn t3 (fun _ _ => by simp), h2.turn t3 (fun _ _ => by simp), Whole.new w2 32 _, fun x hx hg => by have := hF x hx; have := hG x hg; omega, fun h => by have := hF _ h; omega, fun h => by have := hG _ h; omega,
    fun x hx => (hF x hx).1, fun x hx => by have := (hG x hx).1; omega, by omega, t13.below (by simp) (Nat.le_refl _), hT.turn t13 hT.pos (by simp), hT.pos⟩
theorem kept_ints (bk base n : Nat) (A : Option Addr) (len cap : Nat) (sv : Nat → Value) (es : List Bk.Ent) (xs : List Value) (w : World) (hn : n < 1000000) (hb : base ≤ w.heap.size) (hbb : base ≤ bk) (hk : Bk.BookAt w bk n sv)
    (hK : Bk.KIn w base 3 78 1 es Bk.mkInt 0 (sv 2)) (hx : w.ownsRow base 3 1 (.slice A len cap) len xs) (hap : ∀ e' ∈ es, e'.blk = none ∨ e'.blk ≠ (Value.slice A len cap).ownBlock) (hlen : len ≤ 10000000) (hes : es.length < 1000000) :
    Calls Tryd.prog 23 #[.pointer (some ⟨bk, 0, none⟩), .slice A len cap] w (Bk.Kept 2 78 3 1 Bk.mkInt w bk base n sv (es ++ [⟨A, len, cap, n + 1⟩])) := by
  have H := Lib.hid (Bk.keepInt_any bk base n A len cap sv es xs w hn hb hbb hk hK hx hap hlen hes)
  clear hk hK hx hap
  go_enter Tryd.func23, Tryd.ntmps23
  go_wp2_with fail
  refine H.out.mono ?_
  rintro e w' ⟨rfl, h⟩
  go_wp2
  go_end0
  exact ⟨rfl, h⟩
def svNil : Nat → Value := fun _ => .slice none 0 0
theorem book_new (w : World) : Bk.BookAt (w.alloc (.cells #[.int .i64 0, .slice none 0 0, .slice none 0 0, .slice none 0 0, .slice none 0 0, .slice none 0 0, .slice none 0 0, .slice none 0 0, .slice none 0 0, .slice none 0 0, .slice none 0 0, .slice none 0 0, .slice none 0 0] 54)) w.heap.size ((0 : Nat) : Int) svNil := heap_alloc_new w _
theorem Inv.base {w0 w w' : World} {hp rp : Option Addr} {zb bound : Nat} {F G : List Nat} {f k : Nat → Bool} (i : Inv w0 hp rp zb bound F G f k w) {B : Nat} (hB : Below B w w') (hF : ∀ x ∈ F, x < B) (hG : ∀ x ∈ G, x < B) (hz : zb < B) (h0 : w0.heap.size ≤ B) : Inv w0 hp rp zb bound F G f k w' := by
  have t : Turn ((List.range w.heap.size).filter (B ≤ ·)) w w' := ⟨hB.os, hB.tape, hB.output, hB.size, fun k hk hn => hB.block k (by
    rcases Nat.lt_or_ge k B with h1 | h1
    · exact h1
    · exact absurd (List.mem_filter.2 ⟨List.mem_range.2 hk, by simpa using h1⟩) hn)⟩
  have nm : ∀ x, x < B → x ∉ (List.range w.heap.size).filter (B ≤ ·) := fun x hx hm => by
    have := (List.mem_filter.1 hm).2
    simp at this
    omega
  exact ⟨i.h.turn t (fun x hx => nm x (hF x hx)), i.r.turn t (fun x hx => nm x (hG x hx)), i.z.turn t (nm _ hz), i.fg, i.zf, i.zg, i.nf, i.ng, i.nz, i.bel.trans (hB.mono h0), i.tab.turn t i.tab.pos (nm 0 (by have := i.pos; omega)), i.pos⟩
theorem GS.lt {w : World} {p : Option Addr} {F : List Nat} {bound : Nat} {f : Nat → Bool} (h : GS w p F bound f) : ∀ x ∈ F, x < w.heap.size := by
  rcases h with ⟨_, rfl, _⟩ | ⟨b, g, _, rfl, h3⟩
  · simp
  · intro x hx
    simp only [List.mem_cons, List.not_mem_nil, or_false] at hx
    rcases hx with rfl | rfl
    · exact h3.le.2.2.1
    · exact h3.le.2.2.2.1
theorem RS.lt {w : World} {p : Option Addr} {F : List Nat} {bound : Nat} {f : Nat → Bool} (h : RS w p F bound f) : ∀ x ∈ F, x < w.heap.size := by
  rcases h with ⟨_, rfl, _⟩ | ⟨b, g, _, rfl, h3⟩
  · simp
  · intro x hx
    simp only [List.mem_cons, List.not_mem_nil, or_false] at hx
    rcases hx with rfl | rfl
    · exact h3.blk.lt
    · exact h3.row.lt
end Go.Proofs.YtgcclijdkcomiaaDoor
