/- What is asked of layer 8's calls of the program; what is handed in. -/
import Derived.Test.YthbimjkcpmffcaaGreatPj
import Derived.Test.YthbimjkcpmffcaaGreatRu
import Derived.Test.YthbimjkcpmffcaaGreatRb
import Derived.Test.YthbimjkcpmffcaaGreatBy
namespace Go.Proofs.YthbimjkcpmffcaaGreat
open Go.RowKit
set_option linter.unusedVariables false
/-- A vector that was handed in. -/
structure GivenV (w : World) (B : Option Addr) (d : Nat) (v : List Int) : Prop where
  rd : Rd .i8 w w.heap.size B v
  len : v.length ≤ 140737488355328
  room : v.length ≤ d ∧ d ≤ 9223372036854775807
  b8 : ∀ x ∈ v, -128 ≤ x ∧ x ≤ 127
theorem GivenV.below {w w' : World} {B : Option Addr} {d : Nat} {v : List Int} (h : GivenV w B d v) (hb : Below w.heap.size w w') : GivenV w' B d v := ⟨(h.rd.below hb).more hb.size, h.len, h.room, h.b8⟩
theorem GivenV.arg {w : World} {B : Option Addr} {d : Nat} {v : List Int} (h : GivenV w B d v) (hl : v.length ≤ 1048576) : NArg w B v := ⟨h.rd, hl, h.b8⟩
/-- A code that was handed in. -/
structure GivenC (w : World) (B : Option Addr) (d : Nat) (v : List Int) : Prop where
  rd : Rd .u8 w w.heap.size B v
  len : v.length ≤ 140737488351232
  room : v.length ≤ d ∧ d ≤ 9223372036854775807
  u8 : ∀ x ∈ v, 0 ≤ x ∧ x ≤ 255
theorem GivenC.below {w w' : World} {B : Option Addr} {d : Nat} {v : List Int} (h : GivenC w B d v) (hb : Below w.heap.size w w') : GivenC w' B d v := ⟨(h.rd.below hb).more hb.size, h.len, h.room, h.u8⟩
theorem GivenC.arg {w : World} {B : Option Addr} {d : Nat} {v : List Int} (h : GivenC w B d v) (hl : v.length ≤ 1048576) : CArg w B v := ⟨h.rd, hl, h.u8⟩
/-- A table that was handed in. -/
structure GivenT (w : World) (A : Option Addr) (T : List Vc) : Prop where
  rd : RdT w w.heap.size A T
  len : T.length ≤ 140737488355328
  each : ∀ v ∈ vecs T, v.length ≤ 140737488355328
  room : RoomOk T
theorem GivenT.below {w w' : World} {A : Option Addr} {T : List Vc} (h : GivenT w A T) (hb : Below w.heap.size w w') : GivenT w' A T := ⟨(h.rd.below hb).more hb.size, h.len, h.each, h.room⟩
theorem beyond_one (n : Nat) (hn : n ≤ 140737488355328) (w : World) : Calls Tryz.prog 6 #[.slice (some ⟨w.heap.size, 0, none⟩) 1 1] (w.alloc (.cells #[.int .i64 (n : Int)] 3)) fun e w' => e = .returned (.bool (bey [(n : Int)])) ∧ (w.alloc (.cells #[.int .i64 (n : Int)] 3)) = w' :=
  beyond_any (some ⟨w.heap.size, 0, none⟩) 1 [(n : Int)] 1 rfl (w.alloc (.cells #[.int .i64 (n : Int)] 3)) (w.heap.size + 1) (rd_one w .i64 3 n) (fun x hx => by simp at hx; omega) (by simp)
theorem bey_one {n : Nat} (h : bey [(n : Int)] = false) : n ≤ 1048576 := by unfold bey at h; simp at h; omega
theorem beyond_two (n m : Nat) (hn : n ≤ 140737488355328) (hm : m ≤ 140737488355328) (w : World) : Calls Tryz.prog 6 #[.slice (some ⟨w.heap.size, 0, none⟩) 2 2] (w.alloc (.cells #[.int .i64 (n : Int), .int .i64 (m : Int)] 3)) fun e w' => e = .returned (.bool (bey [(n : Int), (m : Int)])) ∧ w.alloc (.cells #[.int .i64 (n : Int), .int .i64 (m : Int)] 3) = w' :=
  beyond_any (some ⟨w.heap.size, 0, none⟩) 2 [(n : Int), (m : Int)] 2 rfl _ (w.heap.size + 1) (rd_newF w .i64 3 [(n : Int), (m : Int)] (0, 0)) (by simp; omega) (by simp)
theorem bey_two {n m : Nat} (h : bey [(n : Int), (m : Int)] = false) : n ≤ 1048576 ∧ m ≤ 1048576 := by unfold bey at h; simp at h; omega
theorem mark_rdK {w : World} {base g n c : Nat} {k : IntKind} {e : TypeId} {xs : List Int} (h : w.ownsRow base e 1 (.slice (some ⟨g, 0, none⟩) (n + 1) c) (n + 1) ((xs ++ [77]).map (Value.int k))) : Rd k w w.heap.size (some ⟨g, 0, none⟩) (xs ++ [77]) := by
  obtain ⟨A, c', hv, _, _, hrd, _⟩ := own_slice h
  injection hv with q1 q2 q3
  rw [q1]; exact hrd
theorem unmark_rd {w : World} {B : Nat} {k : IntKind} {A : Option Addr} {xs : List Int} (h : Rd k w B A (xs ++ [77])) : Rd k w B A xs := by
  have := h.take xs.length
  rwa [List.take_left' rfl] at this
/-- A twin of a code, of a vector: its own memory, with the mark behind it. -/
def MarkRow (w : World) (base g : Nat) (k : IntKind) (e : TypeId) (xs : List Int) : Prop := w.ownsRow base e 1 (.slice (some ⟨g, 0, none⟩) (xs.length + 1) (xs.length + 1)) (xs.length + 1) ((xs ++ [77]).map (Value.int k))
theorem MarkRow.below {w w' : World} {base g : Nat} {k : IntKind} {e : TypeId} {xs : List Int} (h : MarkRow w base g k e xs) (hb : Below w.heap.size w w') : MarkRow w' base g k e xs := own_below h hb
theorem MarkRow.rd {w : World} {base g : Nat} {k : IntKind} {e : TypeId} {xs : List Int} (h : MarkRow w base g k e xs) : Rd k w w.heap.size (some ⟨g, 0, none⟩) (xs ++ [77]) := mark_rdK h
theorem MarkRow.own {w : World} {base g : Nat} {k : IntKind} {e : TypeId} {xs : List Int} (h : MarkRow w base g k e xs) : w.ownsRow base e 1 (.slice (some ⟨g, 0, none⟩) xs.length (xs.length + 1)) xs.length (xs.map (Value.int k)) := by
  have h3 := own_shrink (n := xs.length + 1) (c := xs.length) (Nat.le_succ _) h
  rw [Nat.mul_one, ← List.map_take, List.take_left' rfl] at h3
  exact h3
/-- An answer that is a table, and an errno. -/
def TAns (w : World) (ws : List (List Int)) (E : Int) (e : Ending) (w' : World) : Prop :=
  ∃ A c L, e = .returned (.tuple #[.slice A (L : List Vc).length c, .int .i64 E]) ∧ OwnT w' w.heap.size A c L ∧ ApartL L ∧ vecs L = ws ∧ Below w.heap.size w w'
/-- An answer that is a book, and an errno. -/
def BAns (w : World) (n : Int) (ps : List (List (List Int))) (E : Int) (e : Ending) (w' : World) : Prop :=
  ∃ A c L, e = .returned (.tuple #[.agg #[.int .i64 n, .slice A (L : List Pc).length c], .int .i64 E]) ∧ OwnP w' w.heap.size A c L ∧ ApartP L ∧ words L = ps ∧ Below w.heap.size w w'
def PqCheckSpec : Prop := ∀ (P : Int) (A : Option Addr) (c : Nat) (L : List Pc) (d : Int) (w : World), PArg w A L →
  Calls Tryz.prog 15 #[.agg #[.int .i64 P, .slice A L.length c], .int .i64 d] w fun e w' => e = .returned (.bool (bookB P (words L) d)) ∧ Below w.heap.size w w'
def PqEncodeSpec : Prop := ∀ (P : Int) (A : Option Addr) (c : Nat) (L : List Pc) (B : Option Addr) (d : Nat) (v : List Int) (w : World), PArg w A L → NArg w B v → v.length ≤ d →
  Calls Tryz.prog 9 #[.agg #[.int .i64 P, .slice A L.length c], .slice B v.length d] w (NAns w .u8 5 (encA P (words L) v) (errE (bookB P (words L) v.length)))
def PqTableSpec : Prop := ∀ (P : Int) (A : Option Addr) (c : Nat) (L : List Pc) (B : Option Addr) (d : Nat) (v : List Int) (w : World), PArg w A L → NArg w B v → v.length ≤ d →
  Calls Tryz.prog 10 #[.agg #[.int .i64 P, .slice A L.length c], .slice B v.length d] w (TAns w (tabA P (words L) v) (errE (bookB P (words L) v.length)))
def PqTrainSpec : Prop := ∀ (A : Option Addr) (c : Nat) (L : List Vc) (n k r : Int) (s : Nat) (w : World), VArg w A L → RoomOk L → s < 18446744073709551616 →
  Calls Tryz.prog 26 #[.slice A L.length c, .int .i64 n, .int .i64 k, .int .i64 r, .int .u64 s] w (BAns w (partsA (vecs L) n k r) (bookA (vecs L) n k r s) (errE (mayP (vecs L) n k r)))
end Go.Proofs.YthbimjkcpmffcaaGreat
