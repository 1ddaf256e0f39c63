/- The Book of the statements: Apart, where the kinds Byte, Int8, Int64, Vector, Row, Part may have lists. -/
import Derived.Test.YthbimjkcpmffcaaGreatBByte
import Derived.Test.YthbimjkcpmffcaaGreatBInt8
import Derived.Test.YthbimjkcpmffcaaGreatBInt64
import Derived.Test.YthbimjkcpmffcaaGreatBVector
import Derived.Test.YthbimjkcpmffcaaGreatBRow
import Derived.Test.YthbimjkcpmffcaaGreatBPart
import Derived.Test.YthbimjkcpmffcaaGreatBn
namespace Go.Proofs.YthbimjkcpmffcaaGreat
open Go.RowKit
set_option linter.unusedVariables false
set_option linter.unusedSimpArgs false
namespace Bk
set_option maxRecDepth 100000 in
set_option maxHeartbeats 4000000 in
/-- Apart answers true where the lists that a book keeps are the call's own, and apart. -/
theorem apart_any {w : World} {bk base : Nat} {n : Int} {sv : Nat → Value} {esByte : List Ent} {esInt8 : List Ent} {esInt64 : List Ent} {esVector : List Ent} {esRow : List Ent} {esPart : List Ent} (hb : base ≤ w.heap.size) (hk : BookAt w bk n sv) (hByte : KIn w base 5 112 1 esByte mkByte 0 (sv 1)) (hInt8 : KIn w base 74 110 1 esInt8 mkInt8 0 (sv 3)) (hInt64 : KIn w base 2 125 1 esInt64 mkInt64 0 (sv 5)) (hVector : KIn w base 25 128 1 esVector mkVector 0 (sv 6)) (hRow : KIn w base 80 114 1 esRow mkRow 0 (sv 7)) (hPart : KIn w base 62 108 1 esPart mkPart 0 (sv 8)) (z2 : sv 2 = .slice none 0 0) (z4 : sv 4 = .slice none 0 0) (z9 : sv 9 = .slice none 0 0) (z10 : sv 10 = .slice none 0 0) (z11 : sv 11 = .slice none 0 0) (z12 : sv 12 = .slice none 0 0) :
    Calls Tryz.prog 23 #[.pointer (some ⟨bk, 0, none⟩)] w fun e w' => e = .returned (.bool true) ∧ Below base w w' := by
  have ZZ : Hid (∀ W, BookAt W bk n sv → W.cell? ⟨bk, 2, none⟩ = some (.slice none 0 0) ∧ W.cell? ⟨bk, 4, none⟩ = some (.slice none 0 0) ∧ W.cell? ⟨bk, 9, none⟩ = some (.slice none 0 0) ∧ W.cell? ⟨bk, 10, none⟩ = some (.slice none 0 0) ∧ W.cell? ⟨bk, 11, none⟩ = some (.slice none 0 0) ∧ W.cell? ⟨bk, 12, none⟩ = some (.slice none 0 0)) := fun W h => ⟨by rw [← z2]; exact h.cell 2, by rw [← z4]; exact h.cell 4, by rw [← z9]; exact h.cell 9, by rw [← z10]; exact h.cell 10, by rw [← z11]; exact h.cell 11, by rw [← z12]; exact h.cell 12⟩
  have KB := Lib.hid hk
  have BB : Hid (Below base w w) := Below.refl _ _
  obtain ⟨lim, hlim⟩ : ∃ lim, w.heap.size = lim := ⟨_, rfl⟩
  have JByte := Lib.hid hByte.old
  rw [hlim] at JByte
  have JInt8 := Lib.hid hInt8.old
  rw [hlim] at JInt8
  have JInt64 := Lib.hid hInt64.old
  rw [hlim] at JInt64
  have JVector := Lib.hid hVector.old
  rw [hlim] at JVector
  have JRow := Lib.hid hRow.old
  rw [hlim] at JRow
  have JPart := Lib.hid hPart.old
  rw [hlim] at JPart
  have HLW : Hid (lim ≤ w.heap.size) := Nat.le_of_eq hlim.symm
  clear hlim
  have KByte := Lib.hid hByte
  have KInt8 := Lib.hid hInt8
  have KInt64 := Lib.hid hInt64
  have KVector := Lib.hid hVector
  have KRow := Lib.hid hRow
  have KPart := Lib.hid hPart
  clear hk hByte hInt8 hInt64 hVector hRow hPart z2 z4 z9 z10 z11 z12
  go_enter Tryz.func23, Tryz.ntmps23
  have FF := Lib.hid (fillByte_gen hb KB.out KByte.out JByte.out.1)
  go_wp2_with fail
  refine FF.out.mono ?_
  rintro e w1 ⟨rfl, f, kk⟩
  have KB' := Lib.hid (KB.out.frm f.frm (by decide))
  have BB' := Lib.hid (BB.out.trans f.below)
  have LInt8 := Lib.hid (KInt8.out.map (w' := w1) (fun h => own_frm h f.frm (by decide)) (fun h => own_frm h f.frm (by decide)))
  have LInt64 := Lib.hid (KInt64.out.map (w' := w1) (fun h => own_frm h f.frm (by decide)) (fun h => own_frm h f.frm (by decide)))
  have LVector := Lib.hid (KVector.out.map (w' := w1) (fun h => own_frm h f.frm (by decide)) (fun h => own_frm h f.frm (by decide)))
  have LRow := Lib.hid (KRow.out.map (w' := w1) (fun h => own_frm h f.frm (by decide)) (fun h => own_frm h f.frm (by decide)))
  have LPart := Lib.hid (KPart.out.map (w' := w1) (fun h => own_frm h f.frm (by decide)) (fun h => own_frm h f.frm (by decide)))
  have LByte := Lib.hid kk
  have hb' : base ≤ w1.heap.size := by have := f.below.size; omega
  have HLW' := Lib.hid (show lim ≤ w1.heap.size from Nat.le_trans HLW.out f.below.size)
  clear f kk FF KB BB hb HLW KByte KInt8 KInt64 KVector KRow KPart
  have KByte := LByte
  have KInt8 := LInt8
  have KInt64 := LInt64
  have KVector := LVector
  have KRow := LRow
  have KPart := LPart
  have KB := KB'
  have BB := BB'
  have hb := hb'
  have HLW := HLW'
  clear KB' BB' hb' HLW' LByte LInt8 LInt64 LVector LRow LPart
  go_wp2_with fail
  refine (fillInt_nil bk w1 (ZZ.out _ KB.out).1).mono ?_
  rintro e w' ⟨rfl, rfl⟩
  have FF := Lib.hid (fillInt8_gen hb KB.out KInt8.out JInt8.out.1)
  go_wp2_with fail
  refine FF.out.mono ?_
  rintro e w2 ⟨rfl, f, kk⟩
  have KB' := Lib.hid (KB.out.frm f.frm (by decide))
  have BB' := Lib.hid (BB.out.trans f.below)
  have LByte := Lib.hid (KByte.out.map (w' := w2) (fun h => own_frm h f.frm (by decide)) (fun h => own_frm h f.frm (by decide)))
  have LInt64 := Lib.hid (KInt64.out.map (w' := w2) (fun h => own_frm h f.frm (by decide)) (fun h => own_frm h f.frm (by decide)))
  have LVector := Lib.hid (KVector.out.map (w' := w2) (fun h => own_frm h f.frm (by decide)) (fun h => own_frm h f.frm (by decide)))
  have LRow := Lib.hid (KRow.out.map (w' := w2) (fun h => own_frm h f.frm (by decide)) (fun h => own_frm h f.frm (by decide)))
  have LPart := Lib.hid (KPart.out.map (w' := w2) (fun h => own_frm h f.frm (by decide)) (fun h => own_frm h f.frm (by decide)))
  have LInt8 := Lib.hid kk
  have hb' : base ≤ w2.heap.size := by have := f.below.size; omega
  have HLW' := Lib.hid (show lim ≤ w2.heap.size from Nat.le_trans HLW.out f.below.size)
  clear f kk FF KB BB hb HLW KByte KInt8 KInt64 KVector KRow KPart
  have KByte := LByte
  have KInt8 := LInt8
  have KInt64 := LInt64
  have KVector := LVector
  have KRow := LRow
  have KPart := LPart
  have KB := KB'
  have BB := BB'
  have hb := hb'
  have HLW := HLW'
  clear KB' BB' hb' HLW' LByte LInt8 LInt64 LVector LRow LPart
  go_wp2_with fail
  refine (fillNumber_nil bk w2 (ZZ.out _ KB.out).2.1).mono ?_
  rintro e w' ⟨rfl, rfl⟩
  have FF := Lib.hid (fillInt64_gen hb KB.out KInt64.out JInt64.out.1)
  go_wp2_with fail
  refine FF.out.mono ?_
  rintro e w3 ⟨rfl, f, kk⟩
  have KB' := Lib.hid (KB.out.frm f.frm (by decide))
  have BB' := Lib.hid (BB.out.trans f.below)
  have LByte := Lib.hid (KByte.out.map (w' := w3) (fun h => own_frm h f.frm (by decide)) (fun h => own_frm h f.frm (by decide)))
  have LInt8 := Lib.hid (KInt8.out.map (w' := w3) (fun h => own_frm h f.frm (by decide)) (fun h => own_frm h f.frm (by decide)))
  have LVector := Lib.hid (KVector.out.map (w' := w3) (fun h => own_frm h f.frm (by decide)) (fun h => own_frm h f.frm (by decide)))
  have LRow := Lib.hid (KRow.out.map (w' := w3) (fun h => own_frm h f.frm (by decide)) (fun h => own_frm h f.frm (by decide)))
  have LPart := Lib.hid (KPart.out.map (w' := w3) (fun h => own_frm h f.frm (by decide)) (fun h => own_frm h f.frm (by decide)))
  have LInt64 := Lib.hid kk
  have hb' : base ≤ w3.heap.size := by have := f.below.size; omega
  have HLW' := Lib.hid (show lim ≤ w3.heap.size from Nat.le_trans HLW.out f.below.size)
  clear f kk FF KB BB hb HLW KByte KInt8 KInt64 KVector KRow KPart
  have KByte := LByte
  have KInt8 := LInt8
  have KInt64 := LInt64
  have KVector := LVector
  have KRow := LRow
  have KPart := LPart
  have KB := KB'
  have BB := BB'
  have hb := hb'
  have HLW := HLW'
  clear KB' BB' hb' HLW' LByte LInt8 LInt64 LVector LRow LPart
  have FF := Lib.hid (fillVector_gen hb HLW.out KB.out KVector.out JVector.out.1)
  go_wp2_with fail
  refine FF.out.mono ?_
  rintro e w4 ⟨rfl, f, kk⟩
  have KB' := Lib.hid (KB.out.frm f.frm (by decide))
  have BB' := Lib.hid (BB.out.trans f.below)
  have LByte := Lib.hid (KByte.out.map (w' := w4) (fun h => own_frm h f.frm (by decide)) (fun h => own_frm h f.frm (by decide)))
  have LInt8 := Lib.hid (KInt8.out.map (w' := w4) (fun h => own_frm h f.frm (by decide)) (fun h => own_frm h f.frm (by decide)))
  have LInt64 := Lib.hid (KInt64.out.map (w' := w4) (fun h => own_frm h f.frm (by decide)) (fun h => own_frm h f.frm (by decide)))
  have LRow := Lib.hid (KRow.out.map (w' := w4) (fun h => own_frm h f.frm (by decide)) (fun h => own_frm h f.frm (by decide)))
  have LPart := Lib.hid (KPart.out.map (w' := w4) (fun h => own_frm h f.frm (by decide)) (fun h => own_frm h f.frm (by decide)))
  have LVector := Lib.hid kk
  have hb' : base ≤ w4.heap.size := by have := f.below.size; omega
  have HLW' := Lib.hid (show lim ≤ w4.heap.size from Nat.le_trans HLW.out f.below.size)
  clear f kk FF KB BB hb HLW KByte KInt8 KInt64 KVector KRow KPart
  have KByte := LByte
  have KInt8 := LInt8
  have KInt64 := LInt64
  have KVector := LVector
  have KRow := LRow
  have KPart := LPart
  have KB := KB'
  have BB := BB'
  have hb := hb'
  have HLW := HLW'
  clear KB' BB' hb' HLW' LByte LInt8 LInt64 LVector LRow LPart
  have FF := Lib.hid (fillRow_gen hb HLW.out KB.out KRow.out JRow.out.1)
  go_wp2_with fail
  refine FF.out.mono ?_
  rintro e w5 ⟨rfl, f, kk⟩
  have KB' := Lib.hid (KB.out.frm f.frm (by decide))
  have BB' := Lib.hid (BB.out.trans f.below)
  have LByte := Lib.hid (KByte.out.map (w' := w5) (fun h => own_frm h f.frm (by decide)) (fun h => own_frm h f.frm (by decide)))
  have LInt8 := Lib.hid (KInt8.out.map (w' := w5) (fun h => own_frm h f.frm (by decide)) (fun h => own_frm h f.frm (by decide)))
  have LInt64 := Lib.hid (KInt64.out.map (w' := w5) (fun h => own_frm h f.frm (by decide)) (fun h => own_frm h f.frm (by decide)))
  have LVector := Lib.hid (KVector.out.map (w' := w5) (fun h => own_frm h f.frm (by decide)) (fun h => own_frm h f.frm (by decide)) (fun mm => (stabVector lim).far f.far mm))
  have LPart := Lib.hid (KPart.out.map (w' := w5) (fun h => own_frm h f.frm (by decide)) (fun h => own_frm h f.frm (by decide)))
  have LRow := Lib.hid kk
  have hb' : base ≤ w5.heap.size := by have := f.below.size; omega
  have HLW' := Lib.hid (show lim ≤ w5.heap.size from Nat.le_trans HLW.out f.below.size)
  clear f kk FF KB BB hb HLW KByte KInt8 KInt64 KVector KRow KPart
  have KByte := LByte
  have KInt8 := LInt8
  have KInt64 := LInt64
  have KVector := LVector
  have KRow := LRow
  have KPart := LPart
  have KB := KB'
  have BB := BB'
  have hb := hb'
  have HLW := HLW'
  clear KB' BB' hb' HLW' LByte LInt8 LInt64 LVector LRow LPart
  have FF := Lib.hid (fillPart_gen hb HLW.out KB.out KPart.out JPart.out.1)
  go_wp2_with fail
  refine FF.out.mono ?_
  rintro e w6 ⟨rfl, f, kk⟩
  have KB' := Lib.hid (KB.out.frm f.frm (by decide))
  have BB' := Lib.hid (BB.out.trans f.below)
  have LByte := Lib.hid (KByte.out.map (w' := w6) (fun h => own_frm h f.frm (by decide)) (fun h => own_frm h f.frm (by decide)))
  have LInt8 := Lib.hid (KInt8.out.map (w' := w6) (fun h => own_frm h f.frm (by decide)) (fun h => own_frm h f.frm (by decide)))
  have LInt64 := Lib.hid (KInt64.out.map (w' := w6) (fun h => own_frm h f.frm (by decide)) (fun h => own_frm h f.frm (by decide)))
  have LVector := Lib.hid (KVector.out.map (w' := w6) (fun h => own_frm h f.frm (by decide)) (fun h => own_frm h f.frm (by decide)) (fun mm => (stabVector lim).far f.far mm))
  have LRow := Lib.hid (KRow.out.map (w' := w6) (fun h => own_frm h f.frm (by decide)) (fun h => own_frm h f.frm (by decide)) (fun mm => (stabRow lim).far f.far mm))
  have LPart := Lib.hid kk
  have hb' : base ≤ w6.heap.size := by have := f.below.size; omega
  have HLW' := Lib.hid (show lim ≤ w6.heap.size from Nat.le_trans HLW.out f.below.size)
  clear f kk FF KB BB hb HLW KByte KInt8 KInt64 KVector KRow KPart
  have KByte := LByte
  have KInt8 := LInt8
  have KInt64 := LInt64
  have KVector := LVector
  have KRow := LRow
  have KPart := LPart
  have KB := KB'
  have BB := BB'
  have hb := hb'
  have HLW := HLW'
  clear KB' BB' hb' HLW' LByte LInt8 LInt64 LVector LRow LPart
  go_wp2_with fail
  refine (fillItem_nil bk w6 (ZZ.out _ KB.out).2.2.1).mono ?_
  rintro e w' ⟨rfl, rfl⟩
  go_wp2_with fail
  refine (fillHit_nil bk w6 (ZZ.out _ KB.out).2.2.2.1).mono ?_
  rintro e w' ⟨rfl, rfl⟩
  go_wp2_with fail
  refine (fillNode_nil bk w6 (ZZ.out _ KB.out).2.2.2.2.1).mono ?_
  rintro e w' ⟨rfl, rfl⟩
  go_wp2_with fail
  refine (fillUpdate_nil bk w6 (ZZ.out _ KB.out).2.2.2.2.2).mono ?_
  rintro e w' ⟨rfl, rfl⟩
  have FF := Lib.hid (growByte_gen hb KB.out KByte.out JByte.out.1 JByte.out.2)
  go_wp2_with fail
  refine FF.out.mono ?_
  rintro e w7 ⟨rfl, f, kk⟩
  have KB' := Lib.hid (KB.out.frm2 f.frm (by decide) (by decide))
  have BB' := Lib.hid (BB.out.trans f.below)
  have LInt8 := Lib.hid (KInt8.out.map (w' := w7) (fun h => own_frm2 h f.frm (by decide) (by decide)) (fun h => own_frm2 h f.frm (by decide) (by decide)))
  have LInt64 := Lib.hid (KInt64.out.map (w' := w7) (fun h => own_frm2 h f.frm (by decide) (by decide)) (fun h => own_frm2 h f.frm (by decide) (by decide)))
  have LVector := Lib.hid (KVector.out.map (w' := w7) (fun h => own_frm2 h f.frm (by decide) (by decide)) (fun h => own_frm2 h f.frm (by decide) (by decide)) (fun mm => (stabVector lim).far f.far mm))
  have LRow := Lib.hid (KRow.out.map (w' := w7) (fun h => own_frm2 h f.frm (by decide) (by decide)) (fun h => own_frm2 h f.frm (by decide) (by decide)) (fun mm => (stabRow lim).far f.far mm))
  have LPart := Lib.hid (KPart.out.map (w' := w7) (fun h => own_frm2 h f.frm (by decide) (by decide)) (fun h => own_frm2 h f.frm (by decide) (by decide)) (fun mm => (stabPart lim).far f.far mm))
  have QByte := Lib.hid kk
  have hb' : base ≤ w7.heap.size := by have := f.below.size; omega
  have HLW' := Lib.hid (show lim ≤ w7.heap.size from Nat.le_trans HLW.out f.below.size)
  clear f kk FF KB BB hb HLW KByte KInt8 KInt64 KVector KRow KPart 
  have KInt8 := LInt8
  have KInt64 := LInt64
  have KVector := LVector
  have KRow := LRow
  have KPart := LPart
  have OByte := QByte
  have KB := KB'
  have BB := BB'
  have hb := hb'
  have HLW := HLW'
  clear KB' BB' hb' HLW' LInt8 LInt64 LVector LRow LPart QByte
  go_wp2_with fail
  refine (growInt_nil bk w7 (ZZ.out _ KB.out).1).mono ?_
  rintro e w' ⟨rfl, rfl⟩
  have FF := Lib.hid (growInt8_gen hb KB.out KInt8.out JInt8.out.1 JInt8.out.2)
  go_wp2_with fail
  refine FF.out.mono ?_
  rintro e w8 ⟨rfl, f, kk⟩
  have KB' := Lib.hid (KB.out.frm2 f.frm (by decide) (by decide))
  have BB' := Lib.hid (BB.out.trans f.below)
  have LInt64 := Lib.hid (KInt64.out.map (w' := w8) (fun h => own_frm2 h f.frm (by decide) (by decide)) (fun h => own_frm2 h f.frm (by decide) (by decide)))
  have LVector := Lib.hid (KVector.out.map (w' := w8) (fun h => own_frm2 h f.frm (by decide) (by decide)) (fun h => own_frm2 h f.frm (by decide) (by decide)) (fun mm => (stabVector lim).far f.far mm))
  have LRow := Lib.hid (KRow.out.map (w' := w8) (fun h => own_frm2 h f.frm (by decide) (by decide)) (fun h => own_frm2 h f.frm (by decide) (by decide)) (fun mm => (stabRow lim).far f.far mm))
  have LPart := Lib.hid (KPart.out.map (w' := w8) (fun h => own_frm2 h f.frm (by decide) (by decide)) (fun h => own_frm2 h f.frm (by decide) (by decide)) (fun mm => (stabPart lim).far f.far mm))
  have QByte := Lib.hid (OByte.out.map (w' := w8) (fun h => own_frm2 h f.frm (by decide) (by decide)) (fun h => f.block _ h.lt (h.other (by decide)).l (h.other (by decide)).l))
  have QInt8 := Lib.hid kk
  have hb' : base ≤ w8.heap.size := by have := f.below.size; omega
  have HLW' := Lib.hid (show lim ≤ w8.heap.size from Nat.le_trans HLW.out f.below.size)
  clear f kk FF KB BB hb HLW KInt8 KInt64 KVector KRow KPart OByte
  have KInt64 := LInt64
  have KVector := LVector
  have KRow := LRow
  have KPart := LPart
  have OByte := QByte
  have OInt8 := QInt8
  have KB := KB'
  have BB := BB'
  have hb := hb'
  have HLW := HLW'
  clear KB' BB' hb' HLW' LInt64 LVector LRow LPart QByte QInt8
  go_wp2_with fail
  refine (growNumber_nil bk w8 (ZZ.out _ KB.out).2.1).mono ?_
  rintro e w' ⟨rfl, rfl⟩
  have FF := Lib.hid (growInt64_gen hb KB.out KInt64.out JInt64.out.1 JInt64.out.2)
  go_wp2_with fail
  refine FF.out.mono ?_
  rintro e w9 ⟨rfl, f, kk⟩
  have KB' := Lib.hid (KB.out.frm2 f.frm (by decide) (by decide))
  have BB' := Lib.hid (BB.out.trans f.below)
  have LVector := Lib.hid (KVector.out.map (w' := w9) (fun h => own_frm2 h f.frm (by decide) (by decide)) (fun h => own_frm2 h f.frm (by decide) (by decide)) (fun mm => (stabVector lim).far f.far mm))
  have LRow := Lib.hid (KRow.out.map (w' := w9) (fun h => own_frm2 h f.frm (by decide) (by decide)) (fun h => own_frm2 h f.frm (by decide) (by decide)) (fun mm => (stabRow lim).far f.far mm))
  have LPart := Lib.hid (KPart.out.map (w' := w9) (fun h => own_frm2 h f.frm (by decide) (by decide)) (fun h => own_frm2 h f.frm (by decide) (by decide)) (fun mm => (stabPart lim).far f.far mm))
  have QByte := Lib.hid (OByte.out.map (w' := w9) (fun h => own_frm2 h f.frm (by decide) (by decide)) (fun h => f.block _ h.lt (h.other (by decide)).l (h.other (by decide)).l))
  have QInt8 := Lib.hid (OInt8.out.map (w' := w9) (fun h => own_frm2 h f.frm (by decide) (by decide)) (fun h => f.block _ h.lt (h.other (by decide)).l (h.other (by decide)).l))
  have QInt64 := Lib.hid kk
  have hb' : base ≤ w9.heap.size := by have := f.below.size; omega
  have HLW' := Lib.hid (show lim ≤ w9.heap.size from Nat.le_trans HLW.out f.below.size)
  clear f kk FF KB BB hb HLW KInt64 KVector KRow KPart OByte OInt8
  have KVector := LVector
  have KRow := LRow
  have KPart := LPart
  have OByte := QByte
  have OInt8 := QInt8
  have OInt64 := QInt64
  have KB := KB'
  have BB := BB'
  have hb := hb'
  have HLW := HLW'
  clear KB' BB' hb' HLW' LVector LRow LPart QByte QInt8 QInt64
  have FF := Lib.hid (growVector_gen hb HLW.out KB.out KVector.out JVector.out.1 JVector.out.2)
  go_wp2_with fail
  refine FF.out.mono ?_
  rintro e w10 ⟨rfl, f, kk⟩
  have KB' := Lib.hid (KB.out.frm2 f.frm (by decide) (by decide))
  have BB' := Lib.hid (BB.out.trans f.below)
  have LRow := Lib.hid (KRow.out.map (w' := w10) (fun h => own_frm2 h f.frm (by decide) (by decide)) (fun h => own_frm2 h f.frm (by decide) (by decide)) (fun mm => (stabRow lim).far f.far mm))
  have LPart := Lib.hid (KPart.out.map (w' := w10) (fun h => own_frm2 h f.frm (by decide) (by decide)) (fun h => own_frm2 h f.frm (by decide) (by decide)) (fun mm => (stabPart lim).far f.far mm))
  have QByte := Lib.hid (OByte.out.map (w' := w10) (fun h => own_frm2 h f.frm (by decide) (by decide)) (fun h => f.block _ h.lt (h.other (by decide)).l (h.other (by decide)).l))
  have QInt8 := Lib.hid (OInt8.out.map (w' := w10) (fun h => own_frm2 h f.frm (by decide) (by decide)) (fun h => f.block _ h.lt (h.other (by decide)).l (h.other (by decide)).l))
  have QInt64 := Lib.hid (OInt64.out.map (w' := w10) (fun h => own_frm2 h f.frm (by decide) (by decide)) (fun h => f.block _ h.lt (h.other (by decide)).l (h.other (by decide)).l))
  have QVector := Lib.hid kk
  have hb' : base ≤ w10.heap.size := by have := f.below.size; omega
  have HLW' := Lib.hid (show lim ≤ w10.heap.size from Nat.le_trans HLW.out f.below.size)
  clear f kk FF KB BB hb HLW KVector KRow KPart OByte OInt8 OInt64
  have KRow := LRow
  have KPart := LPart
  have OByte := QByte
  have OInt8 := QInt8
  have OInt64 := QInt64
  have OVector := QVector
  have KB := KB'
  have BB := BB'
  have hb := hb'
  have HLW := HLW'
  clear KB' BB' hb' HLW' LRow LPart QByte QInt8 QInt64 QVector
  have FF := Lib.hid (growRow_gen hb HLW.out KB.out KRow.out JRow.out.1 JRow.out.2)
  go_wp2_with fail
  refine FF.out.mono ?_
  rintro e w11 ⟨rfl, f, kk⟩
  have KB' := Lib.hid (KB.out.frm2 f.frm (by decide) (by decide))
  have BB' := Lib.hid (BB.out.trans f.below)
  have LPart := Lib.hid (KPart.out.map (w' := w11) (fun h => own_frm2 h f.frm (by decide) (by decide)) (fun h => own_frm2 h f.frm (by decide) (by decide)) (fun mm => (stabPart lim).far f.far mm))
  have QByte := Lib.hid (OByte.out.map (w' := w11) (fun h => own_frm2 h f.frm (by decide) (by decide)) (fun h => f.block _ h.lt (h.other (by decide)).l (h.other (by decide)).l))
  have QInt8 := Lib.hid (OInt8.out.map (w' := w11) (fun h => own_frm2 h f.frm (by decide) (by decide)) (fun h => f.block _ h.lt (h.other (by decide)).l (h.other (by decide)).l))
  have QInt64 := Lib.hid (OInt64.out.map (w' := w11) (fun h => own_frm2 h f.frm (by decide) (by decide)) (fun h => f.block _ h.lt (h.other (by decide)).l (h.other (by decide)).l))
  have QVector := Lib.hid (OVector.out.map (w' := w11) (fun h => own_frm2 h f.frm (by decide) (by decide)) (fun h => f.block _ h.lt (h.other (by decide)).l (h.other (by decide)).l) (fun mm => (stabVector lim).far f.far mm))
  have QRow := Lib.hid kk
  have hb' : base ≤ w11.heap.size := by have := f.below.size; omega
  have HLW' := Lib.hid (show lim ≤ w11.heap.size from Nat.le_trans HLW.out f.below.size)
  clear f kk FF KB BB hb HLW KRow KPart OByte OInt8 OInt64 OVector
  have KPart := LPart
  have OByte := QByte
  have OInt8 := QInt8
  have OInt64 := QInt64
  have OVector := QVector
  have ORow := QRow
  have KB := KB'
  have BB := BB'
  have hb := hb'
  have HLW := HLW'
  clear KB' BB' hb' HLW' LPart QByte QInt8 QInt64 QVector QRow
  have FF := Lib.hid (growPart_gen hb HLW.out KB.out KPart.out JPart.out.1 JPart.out.2)
  go_wp2_with fail
  refine FF.out.mono ?_
  rintro e w12 ⟨rfl, f, kk⟩
  have KB' := Lib.hid (KB.out.frm2 f.frm (by decide) (by decide))
  have BB' := Lib.hid (BB.out.trans f.below)
  have QByte := Lib.hid (OByte.out.map (w' := w12) (fun h => own_frm2 h f.frm (by decide) (by decide)) (fun h => f.block _ h.lt (h.other (by decide)).l (h.other (by decide)).l))
  have QInt8 := Lib.hid (OInt8.out.map (w' := w12) (fun h => own_frm2 h f.frm (by decide) (by decide)) (fun h => f.block _ h.lt (h.other (by decide)).l (h.other (by decide)).l))
  have QInt64 := Lib.hid (OInt64.out.map (w' := w12) (fun h => own_frm2 h f.frm (by decide) (by decide)) (fun h => f.block _ h.lt (h.other (by decide)).l (h.other (by decide)).l))
  have QVector := Lib.hid (OVector.out.map (w' := w12) (fun h => own_frm2 h f.frm (by decide) (by decide)) (fun h => f.block _ h.lt (h.other (by decide)).l (h.other (by decide)).l) (fun mm => (stabVector lim).far f.far mm))
  have QRow := Lib.hid (ORow.out.map (w' := w12) (fun h => own_frm2 h f.frm (by decide) (by decide)) (fun h => f.block _ h.lt (h.other (by decide)).l (h.other (by decide)).l) (fun mm => (stabRow lim).far f.far mm))
  have QPart := Lib.hid kk
  have hb' : base ≤ w12.heap.size := by have := f.below.size; omega
  have HLW' := Lib.hid (show lim ≤ w12.heap.size from Nat.le_trans HLW.out f.below.size)
  clear f kk FF KB BB hb HLW KPart OByte OInt8 OInt64 OVector ORow
  have OByte := QByte
  have OInt8 := QInt8
  have OInt64 := QInt64
  have OVector := QVector
  have ORow := QRow
  have OPart := QPart
  have KB := KB'
  have BB := BB'
  have hb := hb'
  have HLW := HLW'
  clear KB' BB' hb' HLW'  QByte QInt8 QInt64 QVector QRow QPart
  go_wp2_with fail
  refine (growItem_nil bk w12 (ZZ.out _ KB.out).2.2.1).mono ?_
  rintro e w' ⟨rfl, rfl⟩
  go_wp2_with fail
  refine (growHit_nil bk w12 (ZZ.out _ KB.out).2.2.2.1).mono ?_
  rintro e w' ⟨rfl, rfl⟩
  go_wp2_with fail
  refine (growNode_nil bk w12 (ZZ.out _ KB.out).2.2.2.2.1).mono ?_
  rintro e w' ⟨rfl, rfl⟩
  go_wp2_with fail
  refine (growUpdate_nil bk w12 (ZZ.out _ KB.out).2.2.2.2.2).mono ?_
  rintro e w' ⟨rfl, rfl⟩
  have FF := Lib.hid (lookByte_gen KB.out OByte.out)
  go_wp2_with fail
  refine FF.out.mono ?_
  rintro e w13 ⟨rfl, f⟩
  have KB' := Lib.hid (KB.out.bel f)
  have BB' := Lib.hid (BB.out.trans (f.mono hb))
  have QInt8 := Lib.hid (OInt8.out.map (w' := w13) (fun h => own_bel h f) (fun h => f.block _ h.lt))
  have QInt64 := Lib.hid (OInt64.out.map (w' := w13) (fun h => own_bel h f) (fun h => f.block _ h.lt))
  have QVector := Lib.hid (OVector.out.map (w' := w13) (fun h => own_bel h f) (fun h => f.block _ h.lt) (fun mm => (stabVector lim).below f mm))
  have QRow := Lib.hid (ORow.out.map (w' := w13) (fun h => own_bel h f) (fun h => f.block _ h.lt) (fun mm => (stabRow lim).below f mm))
  have QPart := Lib.hid (OPart.out.map (w' := w13) (fun h => own_bel h f) (fun h => f.block _ h.lt) (fun mm => (stabPart lim).below f mm))
  have hb' : base ≤ w13.heap.size := by have := f.size; omega
  clear f FF KB BB hb OByte OInt8 OInt64 OVector ORow OPart
  have OInt8 := QInt8
  have OInt64 := QInt64
  have OVector := QVector
  have ORow := QRow
  have OPart := QPart
  have KB := KB'
  have BB := BB'
  have hb := hb'
  clear KB' BB' hb' QInt8 QInt64 QVector QRow QPart
  go_wp2_with fail
  refine (lookInt_nil bk w13 (ZZ.out _ KB.out).1).mono ?_
  rintro e w' ⟨rfl, rfl⟩
  have FF := Lib.hid (lookInt8_gen KB.out OInt8.out)
  go_wp2_with fail
  refine FF.out.mono ?_
  rintro e w14 ⟨rfl, f⟩
  have KB' := Lib.hid (KB.out.bel f)
  have BB' := Lib.hid (BB.out.trans (f.mono hb))
  have QInt64 := Lib.hid (OInt64.out.map (w' := w14) (fun h => own_bel h f) (fun h => f.block _ h.lt))
  have QVector := Lib.hid (OVector.out.map (w' := w14) (fun h => own_bel h f) (fun h => f.block _ h.lt) (fun mm => (stabVector lim).below f mm))
  have QRow := Lib.hid (ORow.out.map (w' := w14) (fun h => own_bel h f) (fun h => f.block _ h.lt) (fun mm => (stabRow lim).below f mm))
  have QPart := Lib.hid (OPart.out.map (w' := w14) (fun h => own_bel h f) (fun h => f.block _ h.lt) (fun mm => (stabPart lim).below f mm))
  have hb' : base ≤ w14.heap.size := by have := f.size; omega
  clear f FF KB BB hb OInt8 OInt64 OVector ORow OPart
  have OInt64 := QInt64
  have OVector := QVector
  have ORow := QRow
  have OPart := QPart
  have KB := KB'
  have BB := BB'
  have hb := hb'
  clear KB' BB' hb' QInt64 QVector QRow QPart
  go_wp2_with fail
  refine (lookNumber_nil bk w14 (ZZ.out _ KB.out).2.1).mono ?_
  rintro e w' ⟨rfl, rfl⟩
  have FF := Lib.hid (lookInt64_gen KB.out OInt64.out)
  go_wp2_with fail
  refine FF.out.mono ?_
  rintro e w15 ⟨rfl, f⟩
  have KB' := Lib.hid (KB.out.bel f)
  have BB' := Lib.hid (BB.out.trans (f.mono hb))
  have QVector := Lib.hid (OVector.out.map (w' := w15) (fun h => own_bel h f) (fun h => f.block _ h.lt) (fun mm => (stabVector lim).below f mm))
  have QRow := Lib.hid (ORow.out.map (w' := w15) (fun h => own_bel h f) (fun h => f.block _ h.lt) (fun mm => (stabRow lim).below f mm))
  have QPart := Lib.hid (OPart.out.map (w' := w15) (fun h => own_bel h f) (fun h => f.block _ h.lt) (fun mm => (stabPart lim).below f mm))
  have hb' : base ≤ w15.heap.size := by have := f.size; omega
  clear f FF KB BB hb OInt64 OVector ORow OPart
  have OVector := QVector
  have ORow := QRow
  have OPart := QPart
  have KB := KB'
  have BB := BB'
  have hb := hb'
  clear KB' BB' hb' QVector QRow QPart
  have FF := Lib.hid (lookVector_gen KB.out OVector.out)
  go_wp2_with fail
  refine FF.out.mono ?_
  rintro e w16 ⟨rfl, f⟩
  have KB' := Lib.hid (KB.out.bel f)
  have BB' := Lib.hid (BB.out.trans (f.mono hb))
  have QRow := Lib.hid (ORow.out.map (w' := w16) (fun h => own_bel h f) (fun h => f.block _ h.lt) (fun mm => (stabRow lim).below f mm))
  have QPart := Lib.hid (OPart.out.map (w' := w16) (fun h => own_bel h f) (fun h => f.block _ h.lt) (fun mm => (stabPart lim).below f mm))
  have hb' : base ≤ w16.heap.size := by have := f.size; omega
  clear f FF KB BB hb OVector ORow OPart
  have ORow := QRow
  have OPart := QPart
  have KB := KB'
  have BB := BB'
  have hb := hb'
  clear KB' BB' hb' QRow QPart
  have FF := Lib.hid (lookRow_gen KB.out ORow.out)
  go_wp2_with fail
  refine FF.out.mono ?_
  rintro e w17 ⟨rfl, f⟩
  have KB' := Lib.hid (KB.out.bel f)
  have BB' := Lib.hid (BB.out.trans (f.mono hb))
  have QPart := Lib.hid (OPart.out.map (w' := w17) (fun h => own_bel h f) (fun h => f.block _ h.lt) (fun mm => (stabPart lim).below f mm))
  have hb' : base ≤ w17.heap.size := by have := f.size; omega
  clear f FF KB BB hb ORow OPart
  have OPart := QPart
  have KB := KB'
  have BB := BB'
  have hb := hb'
  clear KB' BB' hb' QPart
  have FF := Lib.hid (lookPart_gen KB.out OPart.out)
  go_wp2_with fail
  refine FF.out.mono ?_
  rintro e w18 ⟨rfl, f⟩
  have KB' := Lib.hid (KB.out.bel f)
  have BB' := Lib.hid (BB.out.trans (f.mono hb))
  have hb' : base ≤ w18.heap.size := by have := f.size; omega
  clear f FF KB BB hb OPart
  have KB := KB'
  have BB := BB'
  have hb := hb'
  clear KB' BB' hb' 
  go_wp2_with fail
  refine (lookItem_nil bk w18 (ZZ.out _ KB.out).2.2.1).mono ?_
  rintro e w' ⟨rfl, rfl⟩
  go_wp2_with fail
  refine (lookHit_nil bk w18 (ZZ.out _ KB.out).2.2.2.1).mono ?_
  rintro e w' ⟨rfl, rfl⟩
  go_wp2_with fail
  refine (lookNode_nil bk w18 (ZZ.out _ KB.out).2.2.2.2.1).mono ?_
  rintro e w' ⟨rfl, rfl⟩
  go_wp2_with fail
  refine (lookUpdate_nil bk w18 (ZZ.out _ KB.out).2.2.2.2.2).mono ?_
  rintro e w' ⟨rfl, rfl⟩
  go_wp2
  go_ret
  exact ⟨rfl, BB.out⟩
end Bk
end Go.Proofs.YthbimjkcpmffcaaGreat
