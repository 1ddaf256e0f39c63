/- The Book of the statements: Apart, where the kinds Int8, Vector may have lists. -/
import Derived.Test.YtcakmcegcbameaaGreatBInt8
import Derived.Test.YtcakmcegcbameaaGreatBVector
import Derived.Test.YtcakmcegcbameaaGreatBn
namespace Go.Proofs.YtcakmcegcbameaaGreat
open Go.RowKit
set_option linter.unusedVariables false
set_option linter.unusedSimpArgs false
namespace Bk
set_option maxRecDepth 100000 in
set_option maxHeartbeats 4000000 in
/-- Apart answers true where the lists that a book keeps are the call's own, and apart. -/
theorem apart_any {w : World} {bk base : Nat} {n : Int} {sv : Nat → Value} {esInt8 : List Ent} {esVector : List Ent} (hb : base ≤ w.heap.size) (hk : BookAt w bk n sv) (hInt8 : KIn w base 75 91 1 esInt8 mkInt8 0 (sv 3)) (hVector : KIn w base 54 82 1 esVector mkVector 0 (sv 6)) (z1 : sv 1 = .slice none 0 0) (z2 : sv 2 = .slice none 0 0) (z4 : sv 4 = .slice none 0 0) (z5 : sv 5 = .slice none 0 0) (z7 : sv 7 = .slice none 0 0) (z8 : sv 8 = .slice none 0 0) (z9 : sv 9 = .slice none 0 0) (z10 : sv 10 = .slice none 0 0) (z11 : sv 11 = .slice none 0 0) (z12 : sv 12 = .slice none 0 0) :
    Calls Tryz.prog 14 #[.pointer (some ⟨bk, 0, none⟩)] w fun e w' => e = .returned (.bool true) ∧ Below base w w' := by
  have ZZ : Hid (∀ W, BookAt W bk n sv → W.cell? ⟨bk, 1, none⟩ = some (.slice none 0 0) ∧ W.cell? ⟨bk, 2, none⟩ = some (.slice none 0 0) ∧ W.cell? ⟨bk, 4, none⟩ = some (.slice none 0 0) ∧ W.cell? ⟨bk, 5, none⟩ = some (.slice none 0 0) ∧ W.cell? ⟨bk, 7, none⟩ = some (.slice none 0 0) ∧ W.cell? ⟨bk, 8, none⟩ = some (.slice none 0 0) ∧ W.cell? ⟨bk, 9, none⟩ = some (.slice none 0 0) ∧ W.cell? ⟨bk, 10, none⟩ = some (.slice none 0 0) ∧ W.cell? ⟨bk, 11, none⟩ = some (.slice none 0 0) ∧ W.cell? ⟨bk, 12, none⟩ = some (.slice none 0 0)) := fun W h => ⟨by rw [← z1]; exact h.cell 1, by rw [← z2]; exact h.cell 2, by rw [← z4]; exact h.cell 4, by rw [← z5]; exact h.cell 5, by rw [← z7]; exact h.cell 7, by rw [← z8]; exact h.cell 8, by rw [← z9]; exact h.cell 9, by rw [← z10]; exact h.cell 10, by rw [← z11]; exact h.cell 11, by rw [← z12]; exact h.cell 12⟩
  have KB := Lib.hid hk
  have BB : Hid (Below base w w) := Below.refl _ _
  obtain ⟨lim, hlim⟩ : ∃ lim, w.heap.size = lim := ⟨_, rfl⟩
  have JInt8 := Lib.hid hInt8.old
  rw [hlim] at JInt8
  have JVector := Lib.hid hVector.old
  rw [hlim] at JVector
  have HLW : Hid (lim ≤ w.heap.size) := Nat.le_of_eq hlim.symm
  clear hlim
  have KInt8 := Lib.hid hInt8
  have KVector := Lib.hid hVector
  clear hk hInt8 hVector z1 z2 z4 z5 z7 z8 z9 z10 z11 z12
  go_enter Tryz.func14, Tryz.ntmps14
  go_wp2_with fail
  refine (fillByte_nil bk w (ZZ.out _ KB.out).1).mono ?_
  rintro e w' ⟨rfl, rfl⟩
  go_wp2_with fail
  refine (fillInt_nil bk w (ZZ.out _ KB.out).2.1).mono ?_
  rintro e w' ⟨rfl, rfl⟩
  have FF := Lib.hid (fillInt8_gen hb KB.out KInt8.out JInt8.out.1)
  go_wp2_with fail
  refine FF.out.mono ?_
  rintro e w1 ⟨rfl, f, kk⟩
  have KB' := Lib.hid (KB.out.frm f.frm (by decide))
  have BB' := Lib.hid (BB.out.trans f.below)
  have LVector := Lib.hid (KVector.out.map (w' := w1) (fun h => own_frm h f.frm (by decide)) (fun h => own_frm h f.frm (by decide)))
  have LInt8 := Lib.hid kk
  have hb' : base ≤ w1.heap.size := by have := f.below.size; omega
  have HLW' := Lib.hid (show lim ≤ w1.heap.size from Nat.le_trans HLW.out f.below.size)
  clear f kk FF KB BB hb HLW KInt8 KVector
  have KInt8 := LInt8
  have KVector := LVector
  have KB := KB'
  have BB := BB'
  have hb := hb'
  have HLW := HLW'
  clear KB' BB' hb' HLW' LInt8 LVector
  go_wp2_with fail
  refine (fillNumber_nil bk w1 (ZZ.out _ KB.out).2.2.1).mono ?_
  rintro e w' ⟨rfl, rfl⟩
  go_wp2_with fail
  refine (fillInt64_nil bk w1 (ZZ.out _ KB.out).2.2.2.1).mono ?_
  rintro e w' ⟨rfl, rfl⟩
  have FF := Lib.hid (fillVector_gen hb HLW.out KB.out KVector.out JVector.out.1)
  go_wp2_with fail
  refine FF.out.mono ?_
  rintro e w2 ⟨rfl, f, kk⟩
  have KB' := Lib.hid (KB.out.frm f.frm (by decide))
  have BB' := Lib.hid (BB.out.trans f.below)
  have LInt8 := Lib.hid (KInt8.out.map (w' := w2) (fun h => own_frm h f.frm (by decide)) (fun h => own_frm h f.frm (by decide)))
  have LVector := Lib.hid kk
  have hb' : base ≤ w2.heap.size := by have := f.below.size; omega
  have HLW' := Lib.hid (show lim ≤ w2.heap.size from Nat.le_trans HLW.out f.below.size)
  clear f kk FF KB BB hb HLW KInt8 KVector
  have KInt8 := LInt8
  have KVector := LVector
  have KB := KB'
  have BB := BB'
  have hb := hb'
  have HLW := HLW'
  clear KB' BB' hb' HLW' LInt8 LVector
  go_wp2_with fail
  refine (fillRow_nil bk w2 (ZZ.out _ KB.out).2.2.2.2.1).mono ?_
  rintro e w' ⟨rfl, rfl⟩
  go_wp2_with fail
  refine (fillPart_nil bk w2 (ZZ.out _ KB.out).2.2.2.2.2.1).mono ?_
  rintro e w' ⟨rfl, rfl⟩
  go_wp2_with fail
  refine (fillItem_nil bk w2 (ZZ.out _ KB.out).2.2.2.2.2.2.1).mono ?_
  rintro e w' ⟨rfl, rfl⟩
  go_wp2_with fail
  refine (fillHit_nil bk w2 (ZZ.out _ KB.out).2.2.2.2.2.2.2.1).mono ?_
  rintro e w' ⟨rfl, rfl⟩
  go_wp2_with fail
  refine (fillNode_nil bk w2 (ZZ.out _ KB.out).2.2.2.2.2.2.2.2.1).mono ?_
  rintro e w' ⟨rfl, rfl⟩
  go_wp2_with fail
  refine (fillUpdate_nil bk w2 (ZZ.out _ KB.out).2.2.2.2.2.2.2.2.2).mono ?_
  rintro e w' ⟨rfl, rfl⟩
  go_wp2_with fail
  refine (growByte_nil bk w2 (ZZ.out _ KB.out).1).mono ?_
  rintro e w' ⟨rfl, rfl⟩
  go_wp2_with fail
  refine (growInt_nil bk w2 (ZZ.out _ KB.out).2.1).mono ?_
  rintro e w' ⟨rfl, rfl⟩
  have FF := Lib.hid (growInt8_gen hb KB.out KInt8.out JInt8.out.1 JInt8.out.2)
  go_wp2_with fail
  refine FF.out.mono ?_
  rintro e w3 ⟨rfl, f, kk⟩
  have KB' := Lib.hid (KB.out.frm2 f.frm (by decide) (by decide))
  have BB' := Lib.hid (BB.out.trans f.below)
  have LVector := Lib.hid (KVector.out.map (w' := w3) (fun h => own_frm2 h f.frm (by decide) (by decide)) (fun h => own_frm2 h f.frm (by decide) (by decide)) (fun mm => (stabVector lim).far f.far mm))
  have QInt8 := Lib.hid kk
  have hb' : base ≤ w3.heap.size := by have := f.below.size; omega
  have HLW' := Lib.hid (show lim ≤ w3.heap.size from Nat.le_trans HLW.out f.below.size)
  clear f kk FF KB BB hb HLW KInt8 KVector 
  have KVector := LVector
  have OInt8 := QInt8
  have KB := KB'
  have BB := BB'
  have hb := hb'
  have HLW := HLW'
  clear KB' BB' hb' HLW' LVector QInt8
  go_wp2_with fail
  refine (growNumber_nil bk w3 (ZZ.out _ KB.out).2.2.1).mono ?_
  rintro e w' ⟨rfl, rfl⟩
  go_wp2_with fail
  refine (growInt64_nil bk w3 (ZZ.out _ KB.out).2.2.2.1).mono ?_
  rintro e w' ⟨rfl, rfl⟩
  have FF := Lib.hid (growVector_gen hb HLW.out KB.out KVector.out JVector.out.1 JVector.out.2)
  go_wp2_with fail
  refine FF.out.mono ?_
  rintro e w4 ⟨rfl, f, kk⟩
  have KB' := Lib.hid (KB.out.frm2 f.frm (by decide) (by decide))
  have BB' := Lib.hid (BB.out.trans f.below)
  have QInt8 := Lib.hid (OInt8.out.map (w' := w4) (fun h => own_frm2 h f.frm (by decide) (by decide)) (fun h => f.block _ h.lt (h.other (by decide)).l (h.other (by decide)).l))
  have QVector := Lib.hid kk
  have hb' : base ≤ w4.heap.size := by have := f.below.size; omega
  have HLW' := Lib.hid (show lim ≤ w4.heap.size from Nat.le_trans HLW.out f.below.size)
  clear f kk FF KB BB hb HLW KVector OInt8
  have OInt8 := QInt8
  have OVector := QVector
  have KB := KB'
  have BB := BB'
  have hb := hb'
  have HLW := HLW'
  clear KB' BB' hb' HLW'  QInt8 QVector
  go_wp2_with fail
  refine (growRow_nil bk w4 (ZZ.out _ KB.out).2.2.2.2.1).mono ?_
  rintro e w' ⟨rfl, rfl⟩
  go_wp2_with fail
  refine (growPart_nil bk w4 (ZZ.out _ KB.out).2.2.2.2.2.1).mono ?_
  rintro e w' ⟨rfl, rfl⟩
  go_wp2_with fail
  refine (growItem_nil bk w4 (ZZ.out _ KB.out).2.2.2.2.2.2.1).mono ?_
  rintro e w' ⟨rfl, rfl⟩
  go_wp2_with fail
  refine (growHit_nil bk w4 (ZZ.out _ KB.out).2.2.2.2.2.2.2.1).mono ?_
  rintro e w' ⟨rfl, rfl⟩
  go_wp2_with fail
  refine (growNode_nil bk w4 (ZZ.out _ KB.out).2.2.2.2.2.2.2.2.1).mono ?_
  rintro e w' ⟨rfl, rfl⟩
  go_wp2_with fail
  refine (growUpdate_nil bk w4 (ZZ.out _ KB.out).2.2.2.2.2.2.2.2.2).mono ?_
  rintro e w' ⟨rfl, rfl⟩
  go_wp2_with fail
  refine (lookByte_nil bk w4 (ZZ.out _ KB.out).1).mono ?_
  rintro e w' ⟨rfl, rfl⟩
  go_wp2_with fail
  refine (lookInt_nil bk w4 (ZZ.out _ KB.out).2.1).mono ?_
  rintro e w' ⟨rfl, rfl⟩
  have FF := Lib.hid (lookInt8_gen KB.out OInt8.out)
  go_wp2_with fail
  refine FF.out.mono ?_
  rintro e w5 ⟨rfl, f⟩
  have KB' := Lib.hid (KB.out.bel f)
  have BB' := Lib.hid (BB.out.trans (f.mono hb))
  have QVector := Lib.hid (OVector.out.map (w' := w5) (fun h => own_bel h f) (fun h => f.block _ h.lt) (fun mm => (stabVector lim).below f mm))
  have hb' : base ≤ w5.heap.size := by have := f.size; omega
  clear f FF KB BB hb OInt8 OVector
  have OVector := QVector
  have KB := KB'
  have BB := BB'
  have hb := hb'
  clear KB' BB' hb' QVector
  go_wp2_with fail
  refine (lookNumber_nil bk w5 (ZZ.out _ KB.out).2.2.1).mono ?_
  rintro e w' ⟨rfl, rfl⟩
  go_wp2_with fail
  refine (lookInt64_nil bk w5 (ZZ.out _ KB.out).2.2.2.1).mono ?_
  rintro e w' ⟨rfl, rfl⟩
  have FF := Lib.hid (lookVector_gen KB.out OVector.out)
  go_wp2_with fail
  refine FF.out.mono ?_
  rintro e w6 ⟨rfl, f⟩
  have KB' := Lib.hid (KB.out.bel f)
  have BB' := Lib.hid (BB.out.trans (f.mono hb))
  have hb' : base ≤ w6.heap.size := by have := f.size; omega
  clear f FF KB BB hb OVector
  have KB := KB'
  have BB := BB'
  have hb := hb'
  clear KB' BB' hb' 
  go_wp2_with fail
  refine (lookRow_nil bk w6 (ZZ.out _ KB.out).2.2.2.2.1).mono ?_
  rintro e w' ⟨rfl, rfl⟩
  go_wp2_with fail
  refine (lookPart_nil bk w6 (ZZ.out _ KB.out).2.2.2.2.2.1).mono ?_
  rintro e w' ⟨rfl, rfl⟩
  go_wp2_with fail
  refine (lookItem_nil bk w6 (ZZ.out _ KB.out).2.2.2.2.2.2.1).mono ?_
  rintro e w' ⟨rfl, rfl⟩
  go_wp2_with fail
  refine (lookHit_nil bk w6 (ZZ.out _ KB.out).2.2.2.2.2.2.2.1).mono ?_
  rintro e w' ⟨rfl, rfl⟩
  go_wp2_with fail
  refine (lookNode_nil bk w6 (ZZ.out _ KB.out).2.2.2.2.2.2.2.2.1).mono ?_
  rintro e w' ⟨rfl, rfl⟩
  go_wp2_with fail
  refine (lookUpdate_nil bk w6 (ZZ.out _ KB.out).2.2.2.2.2.2.2.2.2).mono ?_
  rintro e w' ⟨rfl, rfl⟩
  go_wp2
  go_ret
  exact ⟨rfl, BB.out⟩
end Bk
end Go.Proofs.YtcakmcegcbameaaGreat
