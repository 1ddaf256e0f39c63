/- A set of the call's own: one word for all that a walk carries; the walks of alive and of. -/
import Derived.Test.YtgcclijdkcomiaaDoorSl
namespace Go.Proofs.YtgcclijdkcomiaaDoor
open Go.RowKit
set_option linter.unusedVariables false

/-- A set (blocks b, g) of the call's own, which began at w0; the table stands. -/
structure Live (w0 w : World) (b g bound : Nat) (f : Nat → Bool) : Prop where
  bel : Below w0.heap.size w0 w
  set : SetIs w b g bound f
  hb : w0.heap.size ≤ b
  hg : w0.heap.size ≤ g
  tab : Tab w
theorem Live.congr {w0 w : World} {b g bound : Nat} {f k : Nat → Bool} (h : Live w0 w b g bound f) (e : ∀ m, f m = k m) : Live w0 w b g bound k := ⟨h.bel, h.set.congr e, h.hb, h.hg, h.tab⟩
theorem Live.ofTurn {w0 w w' : World} {b g bound : Nat} {f f' : Nat → Bool} (h : Live w0 w b g bound f) (h0 : 0 < w0.heap.size) (t : Turn [g] w w') (s : SetIs w' b g bound f') : Live w0 w' b g bound f' :=
  ⟨h.bel.trans (t.below (by simpa using h.hg) h.bel.size), s, h.hb, h.hg, h.tab.turn t h.tab.pos (by have := h.hg; simp; omega)⟩
theorem Live.turn0 {w0 w w' : World} {b g bound : Nat} {f : Nat → Bool} (h : Live w0 w b g bound f) (t : Turn [] w w') : Live w0 w' b g bound f :=
  ⟨h.bel.trans (t.below (by simp) h.bel.size), h.set.turn t (by simp) (by simp), h.hb, h.hg, h.tab.turn t h.tab.pos (by simp)⟩
theorem Live.drewN {w0 w : World} {b g bound : Nat} {f : Nat → Bool} (h : Live w0 w b g bound f) (k : Nat) : Live w0 (w.drewN k) b g bound f := h.turn0 ((Turn.refl _ _).drewN k)
theorem Live.below {w0 w w' : World} {b g bound : Nat} {f : Nat → Bool} (h : Live w0 w b g bound f) (k : Below w.heap.size w w') : Live w0 w' b g bound f := h.turn0 (Turn.of_below k)

theorem newL (n : Nat) (hn : n ≤ 2048) (w0 w : World) (hb : Below w0.heap.size w0 w) (hT : Tab w) :
    Calls Tryd.prog 8 #[.int .i64 n] w fun e w' => ∃ b g, e = .returned (.tuple #[.pointer (some ⟨b, 0, none⟩), .int .i64 0]) ∧ Live w0 w' b g n (fun _ => false) ∧ Turn [] w w' ∧ w.heap.size ≤ b ∧ w.heap.size ≤ g :=
  (new_yes n hn w).mono fun e w' ⟨b, g, ws, h1, h2, h3, h4, h5, h6⟩ => ⟨b, g, h1, ⟨hb.trans (h6.below (by simp) hb.size), ⟨ws, h2, h3⟩, Nat.le_trans hb.size h4, Nat.le_trans hb.size h5, hT.turn h6 hT.pos (by simp)⟩, h6, h4, h5⟩
section
variable {w0 w : World} {b g bound : Nat} {f : Nat → Bool} (h : Live w0 w b g bound f) (h0 : 0 < w0.heap.size)
include h h0
theorem addL (n : Int) (r : Bool) (hr : (inB bound n && !f n.toNat) = r) : Calls Tryd.prog 10 #[.pointer (some ⟨b, 0, none⟩), .int .i64 n] w fun e w' => e = .returned (.bool r) ∧ Live w0 w' b g bound (plus bound f n) ∧ Turn [g] w w' := by
  subst hr
  exact (add_any b g bound f n w h.set).mono fun e w' ⟨h1, h2, h3⟩ => ⟨h1, h.ofTurn h0 h3 h2, h3⟩
theorem dropL (n : Int) (r : Bool) (hr : inI bound f n = r) : Calls Tryd.prog 12 #[.pointer (some ⟨b, 0, none⟩), .int .i64 n] w fun e w' => e = .returned (.bool r) ∧ Live w0 w' b g bound (minus f n) ∧ Turn [g] w w' := by
  subst hr
  exact (drop_any b g bound f n w h.set).mono fun e w' ⟨h1, h2, h3⟩ => ⟨h1, h.ofTurn h0 h3 h2, h3⟩
omit h0
theorem hasL (n : Int) (r : Bool) (hr : inI bound f n = r) : Calls Tryd.prog 14 #[.pointer (some ⟨b, 0, none⟩), .int .i64 n] w fun e w' => e = .returned (.bool r) ∧ Live w0 w' b g bound f ∧ Turn [] w w' := by
  subst hr
  exact (hasF_any b g bound f n w h.set).mono fun e w' ⟨h1, k, h2⟩ => ⟨h1, by rw [h2]; exact h.drewN k, by rw [h2]; exact (Turn.refl _ _).drewN k⟩
theorem lenL (n : Nat) (hr : (listF bound f).length = n) : Calls Tryd.prog 21 #[.pointer (some ⟨b, 0, none⟩)] w fun e w' => e = .returned (.int .i64 (n : Nat)) ∧ Live w0 w' b g bound f ∧ Turn [] w w' := by
  subst hr
  exact (lenF_any b g bound f w h.set).mono fun e w' ⟨h1, k, h2⟩ => ⟨h1, by rw [h2]; exact h.drewN k, by rw [h2]; exact (Turn.refl _ _).drewN k⟩
theorem nextL (n : Int) (hn : n ≤ 9223372036854775807) (r : Int) (hr : nextF bound f n = r) : Calls Tryd.prog 16 #[.pointer (some ⟨b, 0, none⟩), .int .i64 n] w fun e w' => e = .returned (.int .i64 r) ∧ Live w0 w' b g bound f ∧ Turn [] w w' := by
  subst hr
  exact (next_any b g bound f n hn w h.set h.tab).mono fun e w' ⟨h1, h2⟩ => ⟨h1, h.below h2, Turn.of_below h2⟩
theorem allL (l : List Nat) (hl : listF bound f = l) : Calls Tryd.prog 18 #[.pointer (some ⟨b, 0, none⟩)] w fun e w' => ∃ G, e = .returned (.slice (some ⟨G, 0, none⟩) l.length l.length) ∧ w'.ownsRow w.heap.size 3 1 (.slice (some ⟨G, 0, none⟩) l.length l.length) l.length (nums l) ∧ Live w0 w' b g bound f ∧ Turn [] w w' := by
  subst hl
  exact (all_any b g bound f w h.set h.tab).mono fun e w' ⟨G, h1, h2, h3⟩ => ⟨G, h1, h2, h.below h3, Turn.of_below h3⟩
end

def f0 : Nat → Bool := fun _ => false
def f1 : Nat → Bool := plus 70 (plus 70 (plus 70 (plus 70 f0 69) 69) 3) 70
set_option maxRecDepth 100000 in
set_option maxHeartbeats 1000000 in
theorem alive_any (w : World) (hT : Tab w) : Calls Tryd.prog 25 #[] w fun e w' => e = .returned (.bool true) ∧ Below w.heap.size w w' := by
  have h0 := Lib.hid hT.pos
  have HN := Lib.hid (newL 70 (by omega) w w (Below.refl _ _) hT)
  clear hT
  go_enter Tryd.func25, Tryd.ntmps25
  go_wp2_with fail
  refine HN.out.mono ?_
  rintro e w1 ⟨b, g, rfl, L, _⟩
  have H := Lib.hid (addL L h0.out 69 true (by decide))
  clear L
  go_wp2_with fail
  refine H.out.mono ?_
  rintro e w1 ⟨rfl, L, _⟩
  have H := Lib.hid (addL L h0.out 69 false (by decide))
  clear L
  go_wp2_with fail
  refine H.out.mono ?_
  rintro e w1 ⟨rfl, L, _⟩
  have H := Lib.hid (addL L h0.out 3 true (by decide))
  clear L
  go_wp2_with fail
  refine H.out.mono ?_
  rintro e w1 ⟨rfl, L, _⟩
  have H := Lib.hid (addL L h0.out 70 false (by decide))
  clear L
  go_wp2_with fail
  refine H.out.mono ?_
  rintro e w1 ⟨rfl, L, _⟩
  have L := Lib.hid (show Live w w1 b g 70 f1 from L)
  go_wp2_with fail
  refine (new_no 2049 (by omega) w1).mono ?_
  rintro e w1 ⟨rfl, rfl⟩
  have H := Lib.hid (lenL L.out 2 (by decide +kernel))
  clear L
  go_wp2_with fail
  refine H.out.mono ?_
  rintro e w1 ⟨rfl, L, _⟩
  have H := Lib.hid (nextL L 4 (by omega) 69 (by decide +kernel))
  clear L
  go_wp2_with fail
  refine H.out.mono ?_
  rintro e w1 ⟨rfl, L, _⟩
  have H := Lib.hid (nextL L (-5) (by omega) 3 (by decide +kernel))
  clear L
  go_wp2_with fail
  refine H.out.mono ?_
  rintro e w1 ⟨rfl, L, _⟩
  have H := Lib.hid (nextL L 70 (by omega) (-1) (by decide +kernel))
  clear L
  go_wp2_with fail
  refine H.out.mono ?_
  rintro e w1 ⟨rfl, L, _⟩
  have H := Lib.hid (hasL L 3 true (by decide +kernel))
  clear L
  go_wp2_with fail
  refine H.out.mono ?_
  rintro e w1 ⟨rfl, L, _⟩
  have L := Lib.hid L
  go_wp2
  go_ret
  exact ⟨rfl, L.out.bel⟩
end Go.Proofs.YtgcclijdkcomiaaDoor
