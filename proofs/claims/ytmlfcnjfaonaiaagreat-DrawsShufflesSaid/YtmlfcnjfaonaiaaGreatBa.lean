/- The Book of the statements: Apart, where the kinds Int may have lists. -/
import Derived.Test.YtmlfcnjfaonaiaaGreatBInt
import Derived.Test.YtmlfcnjfaonaiaaGreatBn
namespace Go.Proofs.YtmlfcnjfaonaiaaGreat
open Go.RowKit
set_option linter.unusedVariables false
set_option linter.unusedSimpArgs false
namespace Bk
set_option maxRecDepth 100000 in
set_option maxHeartbeats 4000000 in
/-- Apart answers true where the lists that a book keeps are the call's own, and apart. -/
theorem apart_any {w : World} {bk base : Nat} {n : Int} {sv : Nat → Value} {esInt : List Ent} (hb : base ≤ w.heap.size) (hk : BookAt w bk n sv) (hInt : KIn w base 3 66 1 esInt mkInt 0 (sv 2)) (z1 : sv 1 = .slice none 0 0) (z3 : sv 3 = .slice none 0 0) (z4 : sv 4 = .slice none 0 0) (z5 : sv 5 = .slice none 0 0) (z6 : sv 6 = .slice none 0 0) (z7 : sv 7 = .slice none 0 0) (z8 : sv 8 = .slice none 0 0) (z9 : sv 9 = .slice none 0 0) (z10 : sv 10 = .slice none 0 0) (z11 : sv 11 = .slice none 0 0) (z12 : sv 12 = .slice none 0 0) :
    Calls Tryz.prog 10 #[.pointer (some ⟨bk, 0, none⟩)] w fun e w' => e = .returned (.bool true) ∧ Below base w w' := by
  have ZZ : Hid (∀ W, BookAt W bk n sv → W.cell? ⟨bk, 1, none⟩ = some (.slice none 0 0) ∧ W.cell? ⟨bk, 3, none⟩ = some (.slice none 0 0) ∧ W.cell? ⟨bk, 4, none⟩ = some (.slice none 0 0) ∧ W.cell? ⟨bk, 5, none⟩ = some (.slice none 0 0) ∧ W.cell? ⟨bk, 6, none⟩ = some (.slice none 0 0) ∧ W.cell? ⟨bk, 7, none⟩ = some (.slice none 0 0) ∧ W.cell? ⟨bk, 8, none⟩ = some (.slice none 0 0) ∧ W.cell? ⟨bk, 9, none⟩ = some (.slice none 0 0) ∧ W.cell? ⟨bk, 10, none⟩ = some (.slice none 0 0) ∧ W.cell? ⟨bk, 11, none⟩ = some (.slice none 0 0) ∧ W.cell? ⟨bk, 12, none⟩ = some (.slice none 0 0)) := fun W h => ⟨by rw [← z1]; exact h.cell 1, by rw [← z3]; exact h.cell 3, by rw [← z4]; exact h.cell 4, by rw [← z5]; exact h.cell 5, by rw [← z6]; exact h.cell 6, by rw [← z7]; exact h.cell 7, by rw [← z8]; exact h.cell 8, by rw [← z9]; exact h.cell 9, by rw [← z10]; exact h.cell 10, by rw [← z11]; exact h.cell 11, by rw [← z12]; exact h.cell 12⟩
  have KB := Lib.hid hk
  have BB : Hid (Below base w w) := Below.refl _ _
  have KInt := Lib.hid hInt
  clear hk hInt z1 z3 z4 z5 z6 z7 z8 z9 z10 z11 z12
  go_enter Tryz.func10, Tryz.ntmps10
  go_wp2_with fail
  refine (fillByte_nil bk w (ZZ.out _ KB.out).1).mono ?_
  rintro e w' ⟨rfl, rfl⟩
  have FF := Lib.hid (fillInt_gen hb KB.out KInt.out)
  go_wp2_with fail
  refine FF.out.mono ?_
  rintro e w1 ⟨rfl, f, kk⟩
  have KB' := Lib.hid (KB.out.frm f (by decide))
  have BB' := Lib.hid (BB.out.trans f.below)
  have LInt := Lib.hid kk
  have hb' : base ≤ w1.heap.size := by have := f.below.size; omega
  clear f kk FF KB BB hb KInt
  have KInt := LInt
  have KB := KB'
  have BB := BB'
  have hb := hb'
  clear KB' BB' hb' LInt
  go_wp2_with fail
  refine (fillInt8_nil bk w1 (ZZ.out _ KB.out).2.1).mono ?_
  rintro e w' ⟨rfl, rfl⟩
  go_wp2_with fail
  refine (fillNumber_nil bk w1 (ZZ.out _ KB.out).2.2.1).mono ?_
  rintro e w' ⟨rfl, rfl⟩
  go_wp2_with fail
  refine (fillInt64_nil bk w1 (ZZ.out _ KB.out).2.2.2.1).mono ?_
  rintro e w' ⟨rfl, rfl⟩
  go_wp2_with fail
  refine (fillVector_nil bk w1 (ZZ.out _ KB.out).2.2.2.2.1).mono ?_
  rintro e w' ⟨rfl, rfl⟩
  go_wp2_with fail
  refine (fillRow_nil bk w1 (ZZ.out _ KB.out).2.2.2.2.2.1).mono ?_
  rintro e w' ⟨rfl, rfl⟩
  go_wp2_with fail
  refine (fillPart_nil bk w1 (ZZ.out _ KB.out).2.2.2.2.2.2.1).mono ?_
  rintro e w' ⟨rfl, rfl⟩
  go_wp2_with fail
  refine (fillItem_nil bk w1 (ZZ.out _ KB.out).2.2.2.2.2.2.2.1).mono ?_
  rintro e w' ⟨rfl, rfl⟩
  go_wp2_with fail
  refine (fillHit_nil bk w1 (ZZ.out _ KB.out).2.2.2.2.2.2.2.2.1).mono ?_
  rintro e w' ⟨rfl, rfl⟩
  go_wp2_with fail
  refine (fillNode_nil bk w1 (ZZ.out _ KB.out).2.2.2.2.2.2.2.2.2.1).mono ?_
  rintro e w' ⟨rfl, rfl⟩
  go_wp2_with fail
  refine (fillUpdate_nil bk w1 (ZZ.out _ KB.out).2.2.2.2.2.2.2.2.2.2).mono ?_
  rintro e w' ⟨rfl, rfl⟩
  go_wp2_with fail
  refine (growByte_nil bk w1 (ZZ.out _ KB.out).1).mono ?_
  rintro e w' ⟨rfl, rfl⟩
  have FF := Lib.hid (growInt_gen hb KB.out KInt.out)
  go_wp2_with fail
  refine FF.out.mono ?_
  rintro e w2 ⟨rfl, f, kk⟩
  have KB' := Lib.hid (KB.out.frm2 f (by decide) (by decide))
  have BB' := Lib.hid (BB.out.trans f.below)
  have QInt := Lib.hid kk
  have hb' : base ≤ w2.heap.size := by have := f.below.size; omega
  clear f kk FF KB BB hb KInt 
  have OInt := QInt
  have KB := KB'
  have BB := BB'
  have hb := hb'
  clear KB' BB' hb'  QInt
  go_wp2_with fail
  refine (growInt8_nil bk w2 (ZZ.out _ KB.out).2.1).mono ?_
  rintro e w' ⟨rfl, rfl⟩
  go_wp2_with fail
  refine (growNumber_nil bk w2 (ZZ.out _ KB.out).2.2.1).mono ?_
  rintro e w' ⟨rfl, rfl⟩
  go_wp2_with fail
  refine (growInt64_nil bk w2 (ZZ.out _ KB.out).2.2.2.1).mono ?_
  rintro e w' ⟨rfl, rfl⟩
  go_wp2_with fail
  refine (growVector_nil bk w2 (ZZ.out _ KB.out).2.2.2.2.1).mono ?_
  rintro e w' ⟨rfl, rfl⟩
  go_wp2_with fail
  refine (growRow_nil bk w2 (ZZ.out _ KB.out).2.2.2.2.2.1).mono ?_
  rintro e w' ⟨rfl, rfl⟩
  go_wp2_with fail
  refine (growPart_nil bk w2 (ZZ.out _ KB.out).2.2.2.2.2.2.1).mono ?_
  rintro e w' ⟨rfl, rfl⟩
  go_wp2_with fail
  refine (growItem_nil bk w2 (ZZ.out _ KB.out).2.2.2.2.2.2.2.1).mono ?_
  rintro e w' ⟨rfl, rfl⟩
  go_wp2_with fail
  refine (growHit_nil bk w2 (ZZ.out _ KB.out).2.2.2.2.2.2.2.2.1).mono ?_
  rintro e w' ⟨rfl, rfl⟩
  go_wp2_with fail
  refine (growNode_nil bk w2 (ZZ.out _ KB.out).2.2.2.2.2.2.2.2.2.1).mono ?_
  rintro e w' ⟨rfl, rfl⟩
  go_wp2_with fail
  refine (growUpdate_nil bk w2 (ZZ.out _ KB.out).2.2.2.2.2.2.2.2.2.2).mono ?_
  rintro e w' ⟨rfl, rfl⟩
  go_wp2_with fail
  refine (lookByte_nil bk w2 (ZZ.out _ KB.out).1).mono ?_
  rintro e w' ⟨rfl, rfl⟩
  have FF := Lib.hid (lookInt_gen KB.out OInt.out)
  go_wp2_with fail
  refine FF.out.mono ?_
  rintro e w3 ⟨rfl, f⟩
  have KB' := Lib.hid (KB.out.bel f)
  have BB' := Lib.hid (BB.out.trans (f.mono hb))
  have hb' : base ≤ w3.heap.size := by have := f.size; omega
  clear f FF KB BB hb OInt
  have KB := KB'
  have BB := BB'
  have hb := hb'
  clear KB' BB' hb' 
  go_wp2_with fail
  refine (lookInt8_nil bk w3 (ZZ.out _ KB.out).2.1).mono ?_
  rintro e w' ⟨rfl, rfl⟩
  go_wp2_with fail
  refine (lookNumber_nil bk w3 (ZZ.out _ KB.out).2.2.1).mono ?_
  rintro e w' ⟨rfl, rfl⟩
  go_wp2_with fail
  refine (lookInt64_nil bk w3 (ZZ.out _ KB.out).2.2.2.1).mono ?_
  rintro e w' ⟨rfl, rfl⟩
  go_wp2_with fail
  refine (lookVector_nil bk w3 (ZZ.out _ KB.out).2.2.2.2.1).mono ?_
  rintro e w' ⟨rfl, rfl⟩
  go_wp2_with fail
  refine (lookRow_nil bk w3 (ZZ.out _ KB.out).2.2.2.2.2.1).mono ?_
  rintro e w' ⟨rfl, rfl⟩
  go_wp2_with fail
  refine (lookPart_nil bk w3 (ZZ.out _ KB.out).2.2.2.2.2.2.1).mono ?_
  rintro e w' ⟨rfl, rfl⟩
  go_wp2_with fail
  refine (lookItem_nil bk w3 (ZZ.out _ KB.out).2.2.2.2.2.2.2.1).mono ?_
  rintro e w' ⟨rfl, rfl⟩
  go_wp2_with fail
  refine (lookHit_nil bk w3 (ZZ.out _ KB.out).2.2.2.2.2.2.2.2.1).mono ?_
  rintro e w' ⟨rfl, rfl⟩
  go_wp2_with fail
  refine (lookNode_nil bk w3 (ZZ.out _ KB.out).2.2.2.2.2.2.2.2.2.1).mono ?_
  rintro e w' ⟨rfl, rfl⟩
  go_wp2_with fail
  refine (lookUpdate_nil bk w3 (ZZ.out _ KB.out).2.2.2.2.2.2.2.2.2.2).mono ?_
  rintro e w' ⟨rfl, rfl⟩
  go_wp2
  go_ret
  exact ⟨rfl, BB.out⟩
end Bk
end Go.Proofs.YtmlfcnjfaonaiaaGreat
