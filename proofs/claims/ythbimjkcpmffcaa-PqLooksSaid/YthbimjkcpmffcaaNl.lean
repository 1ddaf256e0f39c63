/- Words on lists of vectors as arguments and answers, and the statements' own helpers on them. -/
import Derived.Test.YthbimjkcpmffcaaNa
import Derived.Test.YthbimjkcpmffcaaNo
import Derived.Test.YthbimjkcpmffcaaNp
import Derived.Test.YthbimjkcpmffcaaNi
import Derived.Test.YthbimjkcpmffcaaNj
namespace Go.Proofs.Ythbimjkcpmffcaa
open Go.RowKit
set_option linter.unusedVariables false
def errE (b : Bool) : Int := if b then 0 else 1
def nearA (ms : List (List Int)) (v : List Int) : Int := if mayM ms [v] then ((nearestI ms v : Nat) : Int) else 0
def costA (ms vs : List (List Int)) : Int := if mayM ms vs then costL ms vs else 0
def stepA (ms vs : List (List Int)) : List (List Int) := if mayM ms vs then stepL ms vs else []
/-- A list of vectors as an argument. -/
structure VArg (w : World) (A : Option Addr) (L : List Vc) : Prop where
  rd : RdV w w.heap.size A L
  len : L.length ≤ 1048576
  vec : ∀ v ∈ vecs L, v.length ≤ 1048576
  b8 : B8 (vecs L)
theorem VArg.below {w w' : World} {A : Option Addr} {L : List Vc} (h : VArg w A L) (hb : Below w.heap.size w w') : VArg w' A L := ⟨(h.rd.below hb).more hb.size, h.len, h.vec, h.b8⟩
/-- A vector as an argument. -/
structure NArg (w : World) (B : Option Addr) (v : List Int) : Prop where
  rd : Rd .i8 w w.heap.size B v
  len : v.length ≤ 1048576
  b8 : ∀ x ∈ v, -128 ≤ x ∧ x ≤ 127
theorem NArg.below {w w' : World} {B : Option Addr} {v : List Int} (h : NArg w B v) (hb : Below w.heap.size w w') : NArg w' B v := ⟨(h.rd.below hb).more hb.size, h.len, h.b8⟩
/-- One vector in a row of its own. -/
theorem one_rd {w : World} {B : Option Addr} {d : Nat} {v : List Int} (t : TypeId) (h : Rd .i8 w w.heap.size B v) : RdV (w.alloc (.cells #[.slice B v.length d] t)) (w.heap.size + 1) (some ⟨w.heap.size, 0, none⟩) [(B, d, v)] := fun _ => by
  refine ⟨w.heap.size, 0, rfl, by omega, fun i hi => ?_⟩
  obtain rfl : i = 0 := by simpa using hi
  refine ⟨(Whole.new w t #[.slice B v.length d]).cell 0, ?_⟩
  exact (h.below ((Below.refl _ w).alloc (Nat.le_refl _) _)).more (by omega)
theorem far_bd {xs ys : List Int} (hx : xs.length ≤ 64) (bx : ∀ x ∈ xs, -128 ≤ x ∧ x ≤ 127) (bY : ∀ x ∈ ys, -128 ≤ x ∧ x ≤ 127) : 0 ≤ far xs ys ∧ far xs ys ≤ 4161600 := by
  have h := farL_bd (xs.zip ys) (zip_bd bx bY)
  have hl : (xs.zip ys).length ≤ 64 := by rw [List.length_zip]; omega
  unfold far
  omega
/-- The vectors of a list lie apart. -/
def ApartL (L : List Vc) : Prop := L.Pairwise fun x y => (Value.slice x.1 x.2.2.length x.2.1).ownBlock = none ∨ (Value.slice x.1 x.2.2.length x.2.1).ownBlock ≠ (Value.slice y.1 y.2.2.length y.2.1).ownBlock
/-- An answer that is a list of vectors, and an errno. -/
def VAns (w : World) (ws : List (List Int)) (E : Int) (e : Ending) (w' : World) : Prop :=
  ∃ A c L, e = .returned (.tuple #[.slice A (L : List Vc).length c, .int .i64 E]) ∧ OwnV w' w.heap.size A c L ∧ ApartL L ∧ vecs L = ws ∧ Below w.heap.size w w'
def mayTB (vs : List (List Int)) (k r : Int) : Bool := decide (mayB vs = true ∧ 1 ≤ k ∧ k ≤ 64 ∧ k ≤ vs.length ∧ 0 ≤ r ∧ r ≤ 100)
theorem mayTB_yes {vs : List (List Int)} {k r : Int} (h : mayTB vs k r = true) : mayT vs k r := by simpa [mayTB, mayT] using h
theorem mayTB_no {vs : List (List Int)} {k r : Int} (h : mayTB vs k r = false) : ¬ mayT vs k r := by simpa [mayTB, mayT] using h
def trainA (vs : List (List Int)) (k r : Int) (s : Nat) : List (List Int) := if mayTB vs k r then stepsL vs r.toNat (firstL vs s k.toNat) else []
theorem argOf {w : World} {base : Nat} {A : Option Addr} {c : Nat} {L : List Vc} {ws : List (List Int)} (o : OwnV w base A c L) (v : vecs L = ws) (h : ws.length ≤ 2048) (hv : ∀ v ∈ ws, v.length ≤ 64) (b : B8 ws) : VArg w A L :=
  ⟨o.rd, by rw [← vecs_len, v]; omega, fun u hu => by rw [v] at hu; have := hv u hu; omega, by rw [v]; exact b⟩
/-- Lists of vectors that were handed in. -/
structure Given (w : World) (A : Option Addr) (L : List Vc) : Prop where
  rd : RdV w w.heap.size A L
  len : L.length ≤ 140737488355328
  vec : ∀ v ∈ vecs L, v.length ≤ 140737488355328
  b8 : B8 (vecs L)
theorem Given.below {w w' : World} {A : Option Addr} {L : List Vc} (h : Given w A L) (hb : Below w.heap.size w w') : Given w' A L := ⟨(h.rd.below hb).more hb.size, h.len, h.vec, h.b8⟩
theorem Given.arg {w : World} {A : Option Addr} {L : List Vc} (h : Given w A L) (s : Small L) : VArg w A L := ⟨h.rd, by have := s.len; omega, fun v hv => by have := s.vec hv; omega, h.b8⟩
theorem Given.garg {w : World} {A : Option Addr} {c : Nat} {L : List Vc} {g i : Nat} (h : Given w A L) (hc : w.cell? ⟨g, i, none⟩ = some (.slice A L.length c)) : GArg w w.heap.size g i (A, c, L) := ⟨hc, h.rd, h.len, h.vec⟩
theorem left_arg {w : World} {g : Nat} {T : List Vc} {A : Option Addr} {c : Nat} {L : List Vc} (hT : TwinV w g g 2 T) (hv : vecs T = vecs L) (hx : Given w A L) (hr : RoomOk L) (s : Small L) :
    Calls Try.prog 42 #[.slice (some ⟨g, 0, none⟩) L.length (L.length + 2), .slice A L.length c] w fun e w' => e = .returned (.bool true) ∧ Below w.heap.size w w' :=
  (leftVecs_any g g T A c L _ rfl w hT hv hx.rd hr s.len (fun v h => s.vec h)).mono fun e w' ⟨h1, nq, h2⟩ => ⟨h1, by rw [h2]; exact below_drewN (Below.refl _ _) nq⟩
theorem twin_arg {w : World} {A : Option Addr} {c : Nat} {L : List Vc} (hx : Given w A L) (s : Small L) :
    Calls Try.prog 36 #[.slice A L.length c] w fun e w' => e = .returned (.slice (some ⟨w.heap.size, 0, none⟩) L.length (L.length + 2)) ∧ (∃ T, TwinV w' w.heap.size w.heap.size 2 T ∧ vecs T = vecs L ∧ T.length = L.length) ∧ Below w.heap.size w w' :=
  (twinVecs_any A c L _ rfl w hx.rd s.len (fun v h => s.vec h)).mono fun e w' ⟨h1, ⟨T, h2, h3⟩, h4⟩ => ⟨h1, ⟨T, h2, h3, by rw [← vecs_len, h3, vecs_len]⟩, h4⟩
end Go.Proofs.Ythbimjkcpmffcaa
