/- The state of SetsPlays: a set and the document's, or neither; one that is idle. Each call, and what it leaves of all. -/
import Derived.Test.YtgcclijdkcomiaaDoorRb
namespace Go.Proofs.YtgcclijdkcomiaaDoor
open Go.RowKit
set_option linter.unusedVariables false
theorem inB0 (n : Int) : inB 0 n = false := by
  unfold inB
  by_cases h : 0 ≤ n
  · have : ¬ n < ((0 : Nat) : Int) := by omega
    simp only [this, decide_false, Bool.and_false]
  · simp [h]
/-- A set that New answered, or none. -/
def GS (w : World) (p : Option Addr) (F : List Nat) (bound : Nat) (f : Nat → Bool) : Prop := (p = none ∧ F = [] ∧ bound = 0 ∧ ∀ m, f m = false) ∨ ∃ b g, p = some ⟨b, 0, none⟩ ∧ F = [b, g] ∧ SetIs w b g bound f
def RS (w : World) (p : Option Addr) (F : List Nat) (bound : Nat) (f : Nat → Bool) : Prop := (p = none ∧ F = [] ∧ bound = 0 ∧ ∀ m, f m = false) ∨ ∃ b g, p = some ⟨b, 0, none⟩ ∧ F = [b, g] ∧ RefAt w b g bound f
theorem GS.turn {w w' : World} {p : Option Addr} {F A : List Nat} {bound : Nat} {f : Nat → Bool} (h : GS w p F bound f) (k : Turn A w w') (hd : ∀ x ∈ F, x ∉ A) : GS w' p F bound f := by
  rcases h with h | ⟨b, g, h1, rfl, h3⟩
  · exact .inl h
  · exact .inr ⟨b, g, h1, rfl, h3.turn k (hd b (by simp)) (hd g (by simp))⟩
theorem RS.turn {w w' : World} {p : Option Addr} {F A : List Nat} {bound : Nat} {f : Nat → Bool} (h : RS w p F bound f) (k : Turn A w w') (hd : ∀ x ∈ F, x ∉ A) : RS w' p F bound f := by
  rcases h with h | ⟨b, g, h1, rfl, h3⟩
  · exact .inl h
  · exact .inr ⟨b, g, h1, rfl, h3.turn k (hd b (by simp)) (hd g (by simp))⟩
structure Inv (w0 : World) (hp rp : Option Addr) (zb bound : Nat) (F G : List Nat) (f k : Nat → Bool) (w : World) : Prop where
  h : GS w hp F bound f
  r : RS w rp G bound k
  z : Whole w zb 32 #[.slice none 0 0, .int .i64 0]
  fg : ∀ x ∈ F, x ∉ G
  zf : zb ∉ F
  zg : zb ∉ G
  nf : ∀ x ∈ F, w0.heap.size ≤ x
  ng : ∀ x ∈ G, w0.heap.size ≤ x
  nz : w0.heap.size ≤ zb
  bel : Below w0.heap.size w0 w
  tab : Tab w
  pos : 0 < w0.heap.size
section
variable {w0 w w' : World} {hp rp : Option Addr} {zb bound : Nat} {F G : List Nat} {f k f' k' : Nat → Bool}
theorem Inv.same (i : Inv w0 hp rp zb bound F G f k w) (t : Turn [] w w') : Inv w0 hp rp zb bound F G f k w' :=
  ⟨i.h.turn t (fun _ _ => by simp), i.r.turn t (fun _ _ => by simp), i.z.turn t (by simp), i.fg, i.zf, i.zg, i.nf, i.ng, i.nz, i.bel.trans (t.below (by simp) i.bel.size), i.tab.turn t i.tab.pos (by simp), i.pos⟩
theorem Inv.stepH (i : Inv w0 hp rp zb bound F G f k w) (h : GS w' hp F bound f') (t : Turn F w w') : Inv w0 hp rp zb bound F G f' k w' :=
  ⟨h, i.r.turn t (fun x hx hf => i.fg x hf hx), i.z.turn t i.zf, i.fg, i.zf, i.zg, i.nf, i.ng, i.nz, i.bel.trans (t.below i.nf i.bel.size), i.tab.turn t i.tab.pos (fun h0 => by have := i.nf 0 h0; have := i.pos; omega), i.pos⟩
theorem Inv.stepR (i : Inv w0 hp rp zb bound F G f k w) (r : RS w' rp G bound k') (t : Turn G w w') : Inv w0 hp rp zb bound F G f k' w' :=
  ⟨i.h.turn t i.fg, r, i.z.turn t i.zg, i.fg, i.zf, i.zg, i.nf, i.ng, i.nz, i.bel.trans (t.below i.ng i.bel.size), i.tab.turn t i.tab.pos (fun h0 => by have := i.ng 0 h0; have := i.pos; omega), i.pos⟩
theorem Inv.congrH (i : Inv w0 hp rp zb bound F G f k w) (e : ∀ m, f m = f' m) : Inv w0 hp rp zb bound F G f' k w := by
  have : f = f' := funext e
  rw [← this]; exact i
theorem Inv.congrR (i : Inv w0 hp rp zb bound F G f k w) (e : ∀ m, k m = k' m) : Inv w0 hp rp zb bound F G f k' w := by
  have : k = k' := funext e
  rw [← this]; exact i
theorem Inv.zr (i : Inv w0 hp rp zb bound F G f k w) : SetR w zb none 0 [] :=
  ⟨i.z.cell 0, i.z.cell 1, fun h => by simp at h, ⟨rfl, by omega, fun x h => by simp at h, fun n _ => by simp [has]⟩⟩
end
/-- Behind a call of the state: what it answers, the state, what else may have turned. -/
def Did (w0 : World) (hp rp : Option Addr) (zb bound : Nat) (F G : List Nat) (f k : Nat → Bool) (w : World) (v : Value) (e : Ending) (w' : World) : Prop := e = .returned v ∧ Inv w0 hp rp zb bound F G f k w' ∧ Turn (F ++ G) w w'
section
variable {w0 : World} {hp rp : Option Addr} {zb bound : Nat} {F G : List Nat} {f k : Nat → Bool} (w : World) (i : Inv w0 hp rp zb bound F G f k w)
include i
theorem did_same {e : Ending} {w' : World} {v : Value} (h1 : e = .returned v) (t : Turn [] w w') : Did w0 hp rp zb bound F G f k w v e w' := ⟨h1, i.same t, t.more (by simp)⟩
omit i in
theorem plus_zero (f : Nat → Bool) (n : Int) (m : Nat) : f m = plus 0 f n m := by unfold plus; rw [inB0]; simp
omit i in
theorem minus_none {f : Nat → Bool} (h : ∀ m, f m = false) (n : Int) (m : Nat) : f m = minus f n m := by unfold minus; rw [h]; rfl
theorem iAdd (n : Int) : Calls Tryd.prog 10 #[.pointer hp, .int .i64 n] w (Did w0 hp rp zb bound F G (plus bound f n) k w (.bool (inB bound n && !f n.toNat))) := by
  rcases i.h with ⟨h1, h2, h3, h4⟩ | ⟨b, g, h1, h2, h3⟩
  · subst h1 h3
    have e : (inB 0 n && !f n.toNat) = false := by rw [inB0]; rfl
    rw [e]
    refine (add_none n w).mono fun e w' ⟨a, b⟩ => ?_
    subst b
    exact ⟨a, i.congrH (fun m => plus_zero f n m), (Turn.refl _ _)⟩
  · subst h1 h2
    exact (add_any b g bound f n w h3).mono fun e w' ⟨a, s, t⟩ => ⟨a, i.stepH (.inr ⟨b, g, rfl, rfl, s⟩) (t.more (by simp)), t.more (by simp)⟩
theorem iAddR (n : Int) : Calls Tryd.prog 11 #[.pointer rp, .int .i64 n] w (Did w0 hp rp zb bound F G f (plus bound k n) w (.bool (inB bound n && !k n.toNat))) := by
  rcases i.r with ⟨h1, h2, h3, h4⟩ | ⟨b, g, h1, h2, h3⟩
  · subst h1 h3
    have e : (inB 0 n && !k n.toNat) = false := by rw [inB0]; rfl
    rw [e]
    refine (rAdd_none n w).mono fun e w' ⟨a, b⟩ => ?_
    subst b
    exact ⟨a, i.congrR (fun m => plus_zero k n m), (Turn.refl _ _)⟩
  · subst h1 h2
    exact (rAdd_any b g bound k n w h3).mono fun e w' ⟨a, s, t⟩ => ⟨a, i.stepR (.inr ⟨b, g, rfl, rfl, s⟩) (t.more (by simp)), t.more (by simp)⟩
theorem iDrop (n : Int) : Calls Tryd.prog 12 #[.pointer hp, .int .i64 n] w (Did w0 hp rp zb bound F G (minus f n) k w (.bool (inI bound f n))) := by
  rcases i.h with ⟨h1, h2, h3, h4⟩ | ⟨b, g, h1, h2, h3⟩
  · subst h1 h3
    have e : inI 0 f n = false := by unfold inI; rw [inB0]; rfl
    rw [e]
    refine (drop_none n w).mono fun e w' ⟨a, m, b⟩ => ?_
    subst b
    exact ⟨a, (i.same ((Turn.refl _ _).drewN m)).congrH (fun m => minus_none h4 n m), (Turn.refl _ _).drewN m⟩
  · subst h1 h2
    exact (drop_any b g bound f n w h3).mono fun e w' ⟨a, s, t⟩ => ⟨a, i.stepH (.inr ⟨b, g, rfl, rfl, s⟩) (t.more (by simp)), t.more (by simp)⟩
theorem iDropR (n : Int) : Calls Tryd.prog 13 #[.pointer rp, .int .i64 n] w (Did w0 hp rp zb bound F G f (minus k n) w (.bool (inI bound k n))) := by
  rcases i.r with ⟨h1, h2, h3, h4⟩ | ⟨b, g, h1, h2, h3⟩
  · subst h1 h3
    have e : inI 0 k n = false := by unfold inI; rw [inB0]; rfl
    rw [e]
    refine (rDrop_none n w).mono fun e w' ⟨a, b⟩ => ?_
    subst b
    exact ⟨a, i.congrR (fun m => minus_none h4 n m), Turn.refl _ _⟩
  · subst h1 h2
    exact (rDrop_any b g bound k n w h3).mono fun e w' ⟨a, s, t⟩ => ⟨a, i.stepR (.inr ⟨b, g, rfl, rfl, s⟩) (t.more (by simp)), t.more (by simp)⟩
theorem iHas (n : Int) : Calls Tryd.prog 14 #[.pointer hp, .int .i64 n] w (Did w0 hp rp zb bound F G f k w (.bool (inI bound f n))) := by
  rcases i.h with ⟨h1, h2, h3, h4⟩ | ⟨b, g, h1, h2, h3⟩
  · subst h1 h3
    have e : inI 0 f n = false := by unfold inI; rw [inB0]; rfl
    rw [e]
    exact (hasNone n w).mono fun e w' ⟨a, m, b⟩ => did_same w i a (by rw [b]; exact (Turn.refl _ _).drewN m)
  · subst h1 h2
    exact (hasF_any b g bound f n w h3).mono fun e w' ⟨a, m, b⟩ => did_same w i a (by rw [b]; exact (Turn.refl _ _).drewN m)
theorem iHasR (n : Int) : Calls Tryd.prog 15 #[.pointer rp, .int .i64 n] w (Did w0 hp rp zb bound F G f k w (.bool (inI bound k n))) := by
  rcases i.r with ⟨h1, h2, h3, h4⟩ | ⟨b, g, h1, h2, h3⟩
  · subst h1 h3
    have e : inI 0 k n = false := by unfold inI; rw [inB0]; rfl
    rw [e]
    exact (rHas_none n w).mono fun e w' ⟨a, b⟩ => did_same w i a (by rw [← b]; exact Turn.refl _ _)
  · subst h1 h2
    exact (rHas_any b g bound k n w h3).mono fun e w' ⟨a, b⟩ => did_same w i a (by rw [← b]; exact Turn.refl _ _)
theorem iNext (n : Int) (hn : n ≤ 9223372036854775807) : Calls Tryd.prog 16 #[.pointer hp, .int .i64 n] w (Did w0 hp rp zb bound F G f k w (.int .i64 (nextF bound f n))) := by
  rcases i.h with ⟨h1, h2, h3, h4⟩ | ⟨b, g, h1, h2, h3⟩
  · subst h1 h3
    exact (next_none n hn w i.tab).mono fun e w' ⟨a, b⟩ => did_same w i a (Turn.of_below b)
  · subst h1 h2
    exact (next_any b g bound f n hn w h3 i.tab).mono fun e w' ⟨a, b⟩ => did_same w i a (Turn.of_below b)
theorem iNextR (n : Int) (hn : n ≤ 9223372036854775807) : Calls Tryd.prog 17 #[.pointer rp, .int .i64 n] w (Did w0 hp rp zb bound F G f k w (.int .i64 (nextF bound k n))) := by
  rcases i.r with ⟨h1, h2, h3, h4⟩ | ⟨b, g, h1, h2, h3⟩
  · subst h1 h3
    exact (rNext_none n hn w).mono fun e w' ⟨a, b⟩ => did_same w i a (by rw [← b]; exact Turn.refl _ _)
  · subst h1 h2
    exact (rNext_any b g bound k n hn w h3).mono fun e w' ⟨a, b⟩ => did_same w i a (by rw [← b]; exact Turn.refl _ _)
omit i in
theorem zadd (n : Int) (w1 : World) (h : SetR w1 zb none 0 []) : Calls Tryd.prog 10 #[.pointer (some ⟨zb, 0, none⟩), .int .i64 n] w1 fun e w' => e = .returned (.bool false) ∧ w1 = w' := by
  have H := takes_any zb 0 n w1 h.c1
  rw [inB0] at H
  have H := Lib.hid H
  clear h
  go_enter Tryd.func10, Tryd.ntmps10
  go_wp2_with fail
  refine H.out.mono ?_
  rintro e w1 ⟨rfl, rfl⟩
  go_wp2
  go_ret
  exact ⟨rfl, rfl⟩
theorem iAddZ (n : Int) : Calls Tryd.prog 10 #[.pointer (some ⟨zb, 0, none⟩), .int .i64 n] w (Did w0 hp rp zb bound F G f k w (.bool false)) :=
  (zadd n w i.zr).mono fun e w' ⟨a, b⟩ => did_same w i a (by rw [← b]; exact Turn.refl _ _)
theorem iAddN (n : Int) : Calls Tryd.prog 10 #[.pointer none, .int .i64 n] w (Did w0 hp rp zb bound F G f k w (.bool false)) :=
  (add_none n w).mono fun e w' ⟨a, b⟩ => did_same w i a (by rw [← b]; exact Turn.refl _ _)
theorem iDropZ (n : Int) : Calls Tryd.prog 12 #[.pointer (some ⟨zb, 0, none⟩), .int .i64 n] w (Did w0 hp rp zb bound F G f k w (.bool false)) :=
  (drop_no zb none 0 [] n w i.zr (by unfold hasI; rw [inB0]; rfl)).mono fun e w' ⟨a, m, b⟩ => did_same w i a (by rw [b]; exact (Turn.refl _ _).drewN m)
theorem iDropN (n : Int) : Calls Tryd.prog 12 #[.pointer none, .int .i64 n] w (Did w0 hp rp zb bound F G f k w (.bool false)) :=
  (drop_none n w).mono fun e w' ⟨a, m, b⟩ => did_same w i a (by rw [b]; exact (Turn.refl _ _).drewN m)
theorem iHasZ (n : Int) : Calls Tryd.prog 14 #[.pointer (some ⟨zb, 0, none⟩), .int .i64 n] w (Did w0 hp rp zb bound F G f k w (.bool false)) :=
  (has_no zb 0 n w i.zr.c1 (inB0 n)).mono fun e w' ⟨a, m, b⟩ => did_same w i a (by rw [b]; exact (Turn.refl _ _).drewN m)
theorem iHasN (n : Int) : Calls Tryd.prog 14 #[.pointer none, .int .i64 n] w (Did w0 hp rp zb bound F G f k w (.bool false)) :=
  (hasNone n w).mono fun e w' ⟨a, m, b⟩ => did_same w i a (by rw [b]; exact (Turn.refl _ _).drewN m)
theorem iNextZ (n : Int) (hn : n ≤ 9223372036854775807) : Calls Tryd.prog 16 #[.pointer (some ⟨zb, 0, none⟩), .int .i64 n] w (Did w0 hp rp zb bound F G f k w (.int .i64 (-1))) :=
  (next_empty zb none 0 n hn w i.zr i.tab).mono fun e w' ⟨a, b⟩ => did_same w i a (Turn.of_below b)
theorem iNextN (n : Int) (hn : n ≤ 9223372036854775807) : Calls Tryd.prog 16 #[.pointer none, .int .i64 n] w (Did w0 hp rp zb bound F G f k w (.int .i64 (-1))) :=
  (next_none n hn w i.tab).mono fun e w' ⟨a, b⟩ => did_same w i a (Turn.of_below b)
theorem iLen : Calls Tryd.prog 21 #[.pointer hp] w (Did w0 hp rp zb bound F G f k w (.int .i64 ((listF bound f).length : Nat))) := by
  rcases i.h with ⟨h1, h2, h3, h4⟩ | ⟨b, g, h1, h2, h3⟩
  · subst h1 h3
    exact (len_none w).mono fun e w' ⟨a, m, b⟩ => did_same w i a (by rw [b]; exact (Turn.refl _ _).drewN m)
  · subst h1 h2
    exact (lenF_any b g bound f w h3).mono fun e w' ⟨a, m, b⟩ => did_same w i a (by rw [b]; exact (Turn.refl _ _).drewN m)
theorem iLenR : Calls Tryd.prog 22 #[.pointer rp] w (Did w0 hp rp zb bound F G f k w (.int .i64 ((listF bound k).length : Nat))) := by
  rcases i.r with ⟨h1, h2, h3, h4⟩ | ⟨b, g, h1, h2, h3⟩
  · subst h1 h3
    exact (rLen_none w).mono fun e w' ⟨a, t⟩ => did_same w i a t
  · subst h1 h2
    exact (rLen_any b g bound k w h3).mono fun e w' ⟨a, t⟩ => did_same w i a t
theorem iLenZ : Calls Tryd.prog 21 #[.pointer (some ⟨zb, 0, none⟩)] w (Did w0 hp rp zb bound F G f k w (.int .i64 0)) :=
  (len_any zb none 0 [] w i.zr).mono fun e w' ⟨a, m, b⟩ => did_same w i a (by rw [b]; exact (Turn.refl _ _).drewN m)
theorem iLenN : Calls Tryd.prog 21 #[.pointer none] w (Did w0 hp rp zb bound F G f k w (.int .i64 0)) :=
  (len_none w).mono fun e w' ⟨a, m, b⟩ => did_same w i a (by rw [b]; exact (Turn.refl _ _).drewN m)
theorem iAll : Calls Tryd.prog 18 #[.pointer hp] w fun e w' => AllYes (listF bound f) w e w' ∧ Inv w0 hp rp zb bound F G f k w' := by
  rcases i.h with ⟨h1, h2, h3, h4⟩ | ⟨b, g, h1, h2, h3⟩
  · subst h1 h3
    refine (all_none w i.tab).mono fun e w' h => ⟨h, ?_⟩
    obtain ⟨g, _, _, hb⟩ := h
    exact i.same (Turn.of_below hb)
  · subst h1 h2
    refine (all_any b g bound f w h3 i.tab).mono fun e w' h => ⟨h, ?_⟩
    obtain ⟨g, _, _, hb⟩ := h
    exact i.same (Turn.of_below hb)
theorem iAllR : Calls Tryd.prog 20 #[.pointer rp] w fun e w' => RAllYes (listF bound k) w e w' ∧ Inv w0 hp rp zb bound F G f k w' := by
  rcases i.r with ⟨h1, h2, h3, h4⟩ | ⟨b, g, h1, h2, h3⟩
  · subst h1 h3
    refine (rAll_none w).mono fun e w' h => ⟨h, ?_⟩
    obtain ⟨g, _, _, _, hb⟩ := h
    exact i.same hb
  · subst h1 h2
    refine (rAll_any b g bound k w h3).mono fun e w' h => ⟨h, ?_⟩
    obtain ⟨g, _, _, _, hb⟩ := h
    exact i.same hb
theorem iAllZ : Calls Tryd.prog 18 #[.pointer (some ⟨zb, 0, none⟩)] w fun e w' => AllYes [] w e w' ∧ Inv w0 hp rp zb bound F G f k w' := by
  refine (all_empty zb none 0 w i.zr i.tab).mono fun e w' h => ⟨h, ?_⟩
  obtain ⟨g, _, _, hb⟩ := h
  exact i.same (Turn.of_below hb)
theorem iAllN : Calls Tryd.prog 18 #[.pointer none] w fun e w' => AllYes [] w e w' ∧ Inv w0 hp rp zb bound F G f k w' := by
  refine (all_none w i.tab).mono fun e w' h => ⟨h, ?_⟩
  obtain ⟨g, _, _, hb⟩ := h
  exact i.same (Turn.of_below hb)
end
end Go.Proofs.YtgcclijdkcomiaaDoor
