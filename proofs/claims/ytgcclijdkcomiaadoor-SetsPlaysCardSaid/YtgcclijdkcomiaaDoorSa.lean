/- The walks of math/bits.TrailingZeros64 and OnesCount64, and of the small functions of package sets: takes, bit, wordsFrom. -/
import Derived.Test.YtgcclijdkcomiaaDoorProg
import Derived.Test.YtgcclijdkcomiaaDoorSp
import Derived.Test.YtgcclijdkcomiaaDoorTn
import Derived.Shelf.Spec.TrailingZeros
import Derived.Deep.QuietTactic
import Derived.BigQuiet
namespace Go.Proofs.YtgcclijdkcomiaaDoor
open Go.RowKit
set_option linter.unusedVariables false

/-- The table of math/bits stands in its variable. -/
def Tab (w : World) : Prop := ∀ j, j < 64 → w.cell? ⟨0, j, none⟩ = some (.int .u8 ((Lib.deBruijn64tab.getD j 0 : Nat) : Int))
theorem Tab.below {B : Nat} {w w' : World} (h : Tab w) (hb : Below B w w') (hB : 0 < B) : Tab w' := fun j hj => (hb.cell (p := ⟨0, j, none⟩) hB).trans (h j hj)
theorem Tab.turn {F : List Nat} {w w' : World} (h : Tab w) (hb : Turn F w w') (h0 : 0 < w.heap.size) (hF : 0 ∉ F) : Tab w' := fun j hj => (hb.cell (p := ⟨0, j, none⟩) h0 hF).trans (h j hj)
theorem Tab.pos {w : World} (h : Tab w) : 0 < w.heap.size := by
  have := h 0 (by omega)
  rcases Nat.eq_zero_or_pos w.heap.size with h0 | h0
  · simp [World.cell?, h0] at this
  · exact h0

set_option maxHeartbeats 1000000 in
theorem tz_core (x k idx : Nat) (w : World) (hx0 : ((x : Int) == 0) = false)
    (key : IntKind.u64.wrap (bits BinOp.and IntKind.u64 (x : Int) (IntKind.u64.wrap (-(x : Int))) * 285870213051353865) / 288230376151711744 = (idx : Int))
    (hi : idx < 64) (hk : k < 64) (hcell : w.cell? ⟨0, idx, none⟩ = some (.int .u8 k)) :
    Calls Tryd.prog 97 #[.int .u64 x] w fun e w' => e = .returned (.int .i64 k) ∧ w' = w := by
  go_enter Tryd.func97, Tryd.ntmps97
  go_wp2_with (simp only [key])
  go_ret
  exact ⟨rfl, rfl⟩
/-- The place of the lowest one of a word that is not 0. -/
theorem tz_any (x : Nat) (hx0 : x ≠ 0) (hx : x < 18446744073709551616) (w : World) (hT : Tab w) :
    Calls Tryd.prog 97 #[.int .u64 x] w fun e w' => e = .returned (.int .i64 (Lib.ctz 64 x : Nat)) ∧ w = w' := by
  obtain ⟨hlow, hk⟩ := Lib.lowest_bit 64 x hx0 hx
  obtain ⟨hi, htab⟩ := Lib.deBruijn64_at _ hk
  have hcell := hT _ hi
  rw [htab] at hcell
  exact (tz_core x _ _ w (by simp; omega) (tz64_key x _ hx hx0 hlow) hi hk hcell).mono fun e w' ⟨h1, h2⟩ => ⟨h1, h2.symm⟩

theorem i64_and_127 (a : Nat) (ha : a < 9223372036854775808) : bits .and .i64 (a : Int) 127 = ((a % 128 : Nat) : Int) := by
  have h1 : (BitVec.ofInt 64 (a : Int)).toNat = a := by
    rw [BitVec.ofInt_natCast, BitVec.toNat_ofNat]; exact Nat.mod_eq_of_lt (by omega)
  have h2 : (BitVec.ofInt 64 (127 : Int)).toNat = 127 := by decide
  have h3 : a &&& 127 = a % 128 := Nat.and_two_pow_sub_one_eq_mod a 7
  show IntKind.i64.wrap ((BitVec.ofInt 64 (a : Int) &&& BitVec.ofInt 64 (127 : Int)).toNat : Int) = _
  rw [BitVec.toNat_and, h1, h2, h3]
  simp [IntKind.wrap, IntKind.bits, IntKind.signed]
  omega
theorem wrap_small (n : Nat) (h : n < 18446744073709551616) : IntKind.u64.wrap (n : Int) = (n : Int) := by rw [IntKind.wrap_u64]; omega
theorem wrap_div (a d c : Nat) (h : a + a / d = c) (hc : c < 18446744073709551616) : IntKind.u64.wrap ((a : Int) + (a : Int) / (d : Int)) = (c : Int) := by
  rw [← Int.natCast_ediv, ← Int.natCast_add, h]
  exact wrap_small c hc
theorem wrap_ands (a d m c : Nat) (ha : a < 18446744073709551616) (hm : m < 18446744073709551616) (h : (a / d &&& m) + (a &&& m) = c) (hc : c < 18446744073709551616) :
    IntKind.u64.wrap (bits BinOp.and IntKind.u64 ((a : Int) / (d : Int)) (m : Int) + bits BinOp.and IntKind.u64 (a : Int) (m : Int)) = (c : Int) := by
  have hd : a / d < 18446744073709551616 := Nat.lt_of_le_of_lt (Nat.div_le_self _ _) ha
  rw [← Int.natCast_ediv, bits_and_u64_nat _ _ hd hm, bits_and_u64_nat _ _ ha hm, ← Int.natCast_add, h]
  exact wrap_small c hc
theorem and_sum (a d m c : Nat) (hm : m < 18446744073709551616) (h : (a / d + a) &&& m = c) (ha : a / d + a < 18446744073709551616) :
    bits BinOp.and IntKind.u64 ((a : Int) / (d : Int) + (a : Int)) (m : Int) = (c : Int) := by
  rw [← Int.natCast_ediv, ← Int.natCast_add, bits_and_u64_nat _ _ ha hm, h]
theorem wrap64_small (n : Nat) (h : n < 9223372036854775808) : wrap64 (n : Int) = (n : Int) := by simp [wrap64]; omega
set_option maxHeartbeats 1000000 in
/-- How many ones a word has. -/
theorem ones_any (x : Nat) (hx : x < 18446744073709551616) (w : World) :
    Calls Tryd.prog 32 #[.int .u64 x] w fun e w' => e = .returned (.int .i64 ((bitsOf x).length : Nat)) ∧ w = w' := by
  obtain ⟨x1, x2, x3, x4, x5, x6, h1, h2, h3, h4, h5, h6, h7, g1, g2, g3, g4, g5, g6, g7⟩ := ones_ok x hx
  have E1 : IntKind.u64.wrap (bits BinOp.and IntKind.u64 ((x : Int) / 2) 6148914691236517205 + bits BinOp.and IntKind.u64 (x : Int) 6148914691236517205) = (x1 : Int) := wrap_ands x 2 6148914691236517205 x1 hx (by decide) h1 g1
  have E2 : IntKind.u64.wrap (bits BinOp.and IntKind.u64 ((x1 : Int) / 4) 3689348814741910323 + bits BinOp.and IntKind.u64 (x1 : Int) 3689348814741910323) = (x2 : Int) := wrap_ands x1 4 3689348814741910323 x2 g1 (by decide) h2 g2
  have E3 : bits BinOp.and IntKind.u64 ((x2 : Int) / 16 + (x2 : Int)) 1085102592571150095 = (x3 : Int) := and_sum x2 16 1085102592571150095 x3 (by decide) h3 g3
  have E4 : IntKind.u64.wrap ((x3 : Int) + (x3 : Int) / 256) = (x4 : Int) := wrap_div x3 256 x4 h4 g5
  have E5 : IntKind.u64.wrap ((x4 : Int) + (x4 : Int) / 65536) = (x5 : Int) := wrap_div x4 65536 x5 h5 g6
  have E6 : IntKind.u64.wrap ((x5 : Int) + (x5 : Int) / 4294967296) = (x6 : Int) := wrap_div x5 4294967296 x6 h6 (Nat.lt_trans g7 (by decide))
  have E7 := wrap64_small x6 g7
  have E8 := i64_and_127 x6 g7
  rw [h7] at E8
  clear h1 h2 h3 h4 h5 h6 h7
  have G1 : (x1 : Int) ≤ 18446744073709551615 := by omega
  have G2 : (x2 : Int) / 16 + (x2 : Int) ≤ 18446744073709551615 := by omega
  clear g1 g2 g3 g4 g5 g6 g7
  go_enter Tryd.func32, Tryd.ntmps32
  go_wp2
  go_ret
  refine ⟨?_, rfl⟩
  simp only [E7]
  rfl
end Go.Proofs.YtgcclijdkcomiaaDoor
