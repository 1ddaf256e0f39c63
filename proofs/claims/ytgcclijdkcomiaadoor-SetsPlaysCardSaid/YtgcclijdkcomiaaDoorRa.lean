/- The document's set, as a list of what is in it: what it is in memory; the walks of its calls. -/
import Derived.Test.YtgcclijdkcomiaaDoorLf
namespace Go.Proofs.YtgcclijdkcomiaaDoor
open Go.RowKit
set_option linter.unusedVariables false
def boolsOf (bound : Nat) (f : Nat → Bool) : Array Value := ((List.range bound).map fun i => Value.bool (f i)).toArray
/-- The document's set in block b, its list in block g. -/
structure RefAt (w : World) (b g bound : Nat) (f : Nat → Bool) : Prop where
  blk : Whole w b 66 #[.slice (some ⟨g, 0, none⟩) bound bound]
  row : Whole w g 4 (boolsOf bound f)
  ne : b ≠ g
  le : bound ≤ 2048
  out : ∀ m, bound ≤ m → f m = false
theorem RefAt.turn {F : List Nat} {w w' : World} {b g bound : Nat} {f : Nat → Bool} (h : RefAt w b g bound f) (k : Turn F w w') (hb : b ∉ F) (hg : g ∉ F) : RefAt w' b g bound f := ⟨h.blk.turn k hb, h.row.turn k hg, h.ne, h.le, h.out⟩
theorem bools_cell {w : World} {g bound : Nat} {f : Nat → Bool} (h : Whole w g 4 (boolsOf bound f)) {i : Nat} (hi : i < bound) : w.cell? ⟨g, i, none⟩ = some (.bool (f i)) := by
  rw [h.cell]
  simp [boolsOf, hi]
theorem bools_set (bound n : Nat) (f k : Nat → Bool) (r : Bool) (h : ∀ m, k m = if m = n then r else f m) : (boolsOf bound f).setIfInBounds n (.bool r) = boolsOf bound k := by
  unfold boolsOf
  rw [List.setIfInBounds_toArray]
  congr 1
  apply List.ext_getElem
  · simp
  · intro i h1 h2
    simp only [List.getElem_set, List.getElem_map, List.getElem_range]
    rw [h]
    by_cases e : n = i
    · subst e; simp
    · have : ¬ i = n := fun e' => e e'.symm
      simp [e, this]
theorem RefAt.set {w : World} {b g bound n : Nat} {f k : Nat → Bool} (h : RefAt w b g bound f) (r : Bool) (hk : ∀ m, k m = if m = n then r else f m) (hn : n < bound) : RefAt (w.setCell ⟨g, n, none⟩ (.bool r)) b g bound k := by
  refine ⟨h.blk.far (a := ⟨g, n, none⟩) h.ne _, ?_, h.ne, h.le, fun m hm => by rw [hk, if_neg (by omega)]; exact h.out m hm⟩
  have := h.row.set n (.bool r)
  rw [bools_set bound n f k r hk] at this
  exact this
theorem one_any (b bound : Nat) (A : Option Addr) (n : Int) (w : World) (hc : w.cell? ⟨b, 0, none⟩ = some (.slice A bound bound)) (hb : bound ≤ 2048) :
    Calls Tryd.prog 29 #[.pointer (some ⟨b, 0, none⟩), .int .i64 n] w fun e w' => e = .returned (.bool (inB bound n)) ∧ w = w' := by
  by_cases h0 : 0 ≤ n
  · by_cases h1 : n < (bound : Int)
    · have e : inB bound n = true := by simp [inB, h0, h1]
      rw [e]
      clear e
      go_enter Tryd.func29, Tryd.ntmps29
      go_wp2
      go_ret
      exact ⟨rfl, rfl⟩
    · have e : inB bound n = false := by simp [inB]; omega
      rw [e]
      clear e
      have h1' : decide (n < (bound : Int)) = false := by simpa using h1
      go_enter Tryd.func29, Tryd.ntmps29
      go_wp2
      go_ret
      exact ⟨rfl, rfl⟩
  · have e : inB bound n = false := by simp [inB]; omega
    rw [e]
    clear e
    have h0' : decide (0 ≤ n) = false := by simpa using h0
    go_enter Tryd.func29, Tryd.ntmps29
    go_wp2
    go_ret
    exact ⟨rfl, rfl⟩
theorem one_none (n : Int) (w : World) : Calls Tryd.prog 29 #[.pointer none, .int .i64 n] w fun e w' => e = .returned (.bool false) ∧ w = w' := by
  go_enter Tryd.func29, Tryd.ntmps29
  go_wp2
  go_ret
  exact ⟨rfl, rfl⟩
theorem rHas_none (n : Int) (w : World) : Calls Tryd.prog 15 #[.pointer none, .int .i64 n] w fun e w' => e = .returned (.bool false) ∧ w = w' := by
  have H := Lib.hid (one_none n w)
  go_enter Tryd.func15, Tryd.ntmps15
  go_wp2_with fail
  refine H.out.mono ?_
  rintro e w1 ⟨rfl, rfl⟩
  go_wp2
  go_ret
  exact ⟨rfl, rfl⟩
theorem rAdd_none (n : Int) (w : World) : Calls Tryd.prog 11 #[.pointer none, .int .i64 n] w fun e w' => e = .returned (.bool false) ∧ w = w' := by
  have H := Lib.hid (one_none n w)
  go_enter Tryd.func11, Tryd.ntmps11
  go_wp2_with fail
  refine H.out.mono ?_
  rintro e w1 ⟨rfl, rfl⟩
  go_wp2
  go_ret
  exact ⟨rfl, rfl⟩
theorem rDrop_none (n : Int) (w : World) : Calls Tryd.prog 13 #[.pointer none, .int .i64 n] w fun e w' => e = .returned (.bool false) ∧ w = w' := by
  have H := Lib.hid (rHas_none n w)
  go_enter Tryd.func13, Tryd.ntmps13
  go_wp2_with fail
  refine H.out.mono ?_
  rintro e w1 ⟨rfl, rfl⟩
  go_wp2
  go_ret
  exact ⟨rfl, rfl⟩
theorem rHas_any (b g bound : Nat) (f : Nat → Bool) (n : Int) (w : World) (h : RefAt w b g bound f) :
    Calls Tryd.prog 15 #[.pointer (some ⟨b, 0, none⟩), .int .i64 n] w fun e w' => e = .returned (.bool (inI bound f n)) ∧ w = w' := by
  have c0 := h.blk.cell 0
  have H1 := one_any b bound _ n w c0 h.le
  by_cases hb : inB bound n = true
  · have h2 : 0 ≤ n ∧ n < bound := by simpa [inB] using hb
    obtain ⟨k, rfl⟩ : ∃ k : Nat, n = k := ⟨n.toNat, by omega⟩
    have hk : k < bound := by omega
    have c1 := bools_cell h.row hk
    have e : inI bound f (k : Int) = f k := by unfold inI; rw [hb, Bool.true_and, Int.toNat_natCast]
    rw [hb] at H1
    rw [e]
    have H := Lib.hid H1
    clear H1 hb e h h2
    have hkk : (k : Int) < (bound : Int) := by omega
    go_enter Tryd.func15, Tryd.ntmps15
    go_wp2_with fail
    refine H.out.mono ?_
    rintro e w1 ⟨rfl, rfl⟩
    go_wp2
    go_ret
    exact ⟨rfl, rfl⟩
  · have hb' : inB bound n = false := by simpa using hb
    have e : inI bound f n = false := by unfold inI; rw [hb']; rfl
    rw [hb'] at H1
    rw [e]
    have H := Lib.hid H1
    clear H1 hb hb' e h
    go_enter Tryd.func15, Tryd.ntmps15
    go_wp2_with fail
    refine H.out.mono ?_
    rintro e w1 ⟨rfl, rfl⟩
    go_wp2
    go_ret
    exact ⟨rfl, rfl⟩
def RTurned (g b bound : Nat) (w : World) (r : Bool) (f : Nat → Bool) (e : Ending) (w' : World) : Prop := e = .returned (.bool r) ∧ RefAt w' b g bound f ∧ Turn [g] w w'
theorem RefAt.congr {w : World} {b g bound : Nat} {f k : Nat → Bool} (h : RefAt w b g bound f) (e : ∀ m, f m = k m) : RefAt w b g bound k := by
  have : f = k := funext e
  rw [← this]; exact h
set_option maxRecDepth 100000 in
theorem rAdd_any (b g bound : Nat) (f : Nat → Bool) (n : Int) (w : World) (h : RefAt w b g bound f) :
    Calls Tryd.prog 11 #[.pointer (some ⟨b, 0, none⟩), .int .i64 n] w (RTurned g b bound w (inB bound n && !f n.toNat) (plus bound f n)) := by
  have c0 := h.blk.cell 0
  have H1 := one_any b bound _ n w c0 h.le
  by_cases hb : inB bound n = true
  · have h2 : 0 ≤ n ∧ n < bound := by simpa [inB] using hb
    obtain ⟨k, rfl⟩ : ∃ k : Nat, n = k := ⟨n.toNat, by omega⟩
    have hk : k < bound := by omega
    have c1 := bools_cell h.row hk
    have fz := h.row.frozen k
    have hp : ∀ m, plus bound f (k : Int) m = if m = k then true else f m := fun m => by
      unfold plus; rw [hb, Bool.true_and]
      by_cases e : m = k
      · subst e; simp
      · have : ¬ ((m : Int) = (k : Int)) := by omega
        simp [e, this]
    rw [hb] at H1
    rw [hb, Bool.true_and, Int.toNat_natCast]
    have H := Lib.hid H1
    have HH := Lib.hid h
    have HP := Lib.hid hp
    have hkk : (k : Int) < (bound : Int) := by omega
    clear H1 hb h h2 hp
    cases hf : f k
    · rw [hf] at c1
      have HF := Lib.hid hf
      clear hf
      go_enter Tryd.func11, Tryd.ntmps11
      go_wp2_with fail
      refine H.out.mono ?_
      rintro e w1 ⟨rfl, rfl⟩
      go_wp2
      go_ret
      exact ⟨rfl, HH.out.set true HP.out hk, (Turn.refl _ _).setCell (.inl (by simp)) _⟩
    · rw [hf] at c1
      have HF := Lib.hid hf
      clear hf
      go_enter Tryd.func11, Tryd.ntmps11
      go_wp2_with fail
      refine H.out.mono ?_
      rintro e w1 ⟨rfl, rfl⟩
      go_wp2
      go_ret
      refine ⟨rfl, HH.out.congr fun m => ?_, Turn.refl _ _⟩
      rw [HP.out]
      by_cases e : m = k
      · subst e; simp [HF.out]
      · simp [e]
  · have hb' : inB bound n = false := by simpa using hb
    rw [hb'] at H1
    have hp : ∀ m, f m = plus bound f n m := fun m => by unfold plus; rw [hb']; simp
    rw [hb', Bool.false_and]
    have H := Lib.hid H1
    have HH := Lib.hid (h.congr hp)
    clear H1 hb hb' h hp
    go_enter Tryd.func11, Tryd.ntmps11
    go_wp2_with fail
    refine H.out.mono ?_
    rintro e w1 ⟨rfl, rfl⟩
    go_wp2
    go_ret
    exact ⟨rfl, HH.out, Turn.refl _ _⟩
set_option maxRecDepth 100000 in
theorem rDrop_any (b g bound : Nat) (f : Nat → Bool) (n : Int) (w : World) (h : RefAt w b g bound f) :
    Calls Tryd.prog 13 #[.pointer (some ⟨b, 0, none⟩), .int .i64 n] w (RTurned g b bound w (inI bound f n) (minus f n)) := by
  have c0 := h.blk.cell 0
  have H1 := rHas_any b g bound f n w h
  cases hi : inI bound f n
  · have hp : ∀ m, f m = minus f n m := fun m => by
      unfold minus
      by_cases e : (m : Int) = n
      · subst e
        have hf : f m = false := by
          unfold inI at hi
          by_cases hm : m < bound
          · have : inB bound (m : Int) = true := by simp [inB]; omega
            rw [this] at hi
            simpa using hi
          · exact h.out m (by omega)
        simp [hf]
      · simp [e]
    rw [hi] at H1
    have H := Lib.hid H1
    have HH := Lib.hid (h.congr hp)
    clear H1 hi h hp
    go_enter Tryd.func13, Tryd.ntmps13
    go_wp2_with fail
    refine H.out.mono ?_
    rintro e w1 ⟨rfl, rfl⟩
    go_wp2
    go_ret
    exact ⟨rfl, HH.out, Turn.refl _ _⟩
  · have h2 : (0 ≤ n ∧ n < bound) ∧ f n.toNat = true := by simpa [inI, inB] using hi
    obtain ⟨k, rfl⟩ : ∃ k : Nat, n = k := ⟨n.toNat, by omega⟩
    have hk : k < bound := by omega
    have c1 := bools_cell h.row hk
    have fz := h.row.frozen k
    have hp : ∀ m, minus f (k : Int) m = if m = k then false else f m := fun m => by
      unfold minus
      by_cases e : m = k
      · subst e; simp
      · have : ¬ ((m : Int) = (k : Int)) := by omega
        simp [e, this]
    rw [hi] at H1
    have H := Lib.hid H1
    have HH := Lib.hid h
    have HP := Lib.hid hp
    have hkk : (k : Int) < (bound : Int) := by omega
    clear H1 hi h h2 hp
    go_enter Tryd.func13, Tryd.ntmps13
    go_wp2_with fail
    refine H.out.mono ?_
    rintro e w1 ⟨rfl, rfl⟩
    go_wp2
    go_ret
    exact ⟨rfl, HH.out.set false HP.out hk, (Turn.refl _ _).setCell (.inl (by simp)) _⟩
end Go.Proofs.YtgcclijdkcomiaaDoor
