/- The Book of the statements: Apart, where the kinds Int, Int8, Hit, Node may have lists. -/
import Derived.Test.YtkmngbkghgelfaaGreatBInt
import Derived.Test.YtkmngbkghgelfaaGreatBInt8
import Derived.Test.YtkmngbkghgelfaaGreatBHit
import Derived.Test.YtkmngbkghgelfaaGreatBNode
import Derived.Test.YtkmngbkghgelfaaGreatBn
namespace Go.Proofs.YtkmngbkghgelfaaGreat
open Go.RowKit
set_option linter.unusedVariables false
set_option linter.unusedSimpArgs false
namespace Bk
set_option maxRecDepth 100000 in
set_option maxHeartbeats 4000000 in
/-- Apart answers true where the lists that a book keeps are the call's own, and apart. -/
theorem apart_any {w : World} {bk base : Nat} {n : Int} {sv : Nat → Value} {esInt : List Ent} {esInt8 : List Ent} {esHit : List Ent} {esNode : List Ent} (hb : base ≤ w.heap.size) (hk : BookAt w bk n sv) (hInt : KIn w base 3 120 1 esInt mkInt 0 (sv 2)) (hInt8 : KIn w base 64 112 1 esInt8 mkInt8 0 (sv 3)) (hHit : KIn w base 78 114 2 esHit mkHit 0 (sv 10)) (hNode : KIn w base 87 151 3 esNode mkNode 0 (sv 11)) (z1 : sv 1 = .slice none 0 0) (z4 : sv 4 = .slice none 0 0) (z5 : sv 5 = .slice none 0 0) (z6 : sv 6 = .slice none 0 0) (z7 : sv 7 = .slice none 0 0) (z8 : sv 8 = .slice none 0 0) (z9 : sv 9 = .slice none 0 0) (z12 : sv 12 = .slice none 0 0) :
    Calls Tryz.prog 17 #[.pointer (some ⟨bk, 0, none⟩)] w fun e w' => e = .returned (.bool true) ∧ Below base w w' := by
  have ZZ : Hid (∀ W, BookAt W bk n sv → W.cell? ⟨bk, 1, none⟩ = some (.slice none 0 0) ∧ W.cell? ⟨bk, 4, none⟩ = some (.slice none 0 0) ∧ W.cell? ⟨bk, 5, none⟩ = some (.slice none 0 0) ∧ W.cell? ⟨bk, 6, none⟩ = some (.slice none 0 0) ∧ W.cell? ⟨bk, 7, none⟩ = some (.slice none 0 0) ∧ W.cell? ⟨bk, 8, none⟩ = some (.slice none 0 0) ∧ W.cell? ⟨bk, 9, none⟩ = some (.slice none 0 0) ∧ W.cell? ⟨bk, 12, none⟩ = some (.slice none 0 0)) := fun W h => ⟨by rw [← z1]; exact h.cell 1, by rw [← z4]; exact h.cell 4, by rw [← z5]; exact h.cell 5, by rw [← z6]; exact h.cell 6, by rw [← z7]; exact h.cell 7, by rw [← z8]; exact h.cell 8, by rw [← z9]; exact h.cell 9, by rw [← z12]; exact h.cell 12⟩
  have KB := Lib.hid hk
  have BB : Hid (Below base w w) := Below.refl _ _
  obtain ⟨lim, hlim⟩ : ∃ lim, w.heap.size = lim := ⟨_, rfl⟩
  have JInt := Lib.hid hInt.old
  rw [hlim] at JInt
  have JInt8 := Lib.hid hInt8.old
  rw [hlim] at JInt8
  have JHit := Lib.hid hHit.old
  rw [hlim] at JHit
  have JNode := Lib.hid hNode.old
  rw [hlim] at JNode
  have HLW : Hid (lim ≤ w.heap.size) := Nat.le_of_eq hlim.symm
  clear hlim
  have KInt := Lib.hid hInt
  have KInt8 := Lib.hid hInt8
  have KHit := Lib.hid hHit
  have KNode := Lib.hid hNode
  clear hk hInt hInt8 hHit hNode z1 z4 z5 z6 z7 z8 z9 z12
  go_enter Tryz.func17, Tryz.ntmps17
  go_wp2_with fail
  refine (fillByte_nil bk w (ZZ.out _ KB.out).1).mono ?_
  rintro e w' ⟨rfl, rfl⟩
  have FF := Lib.hid (fillInt_gen hb KB.out KInt.out JInt.out.1)
  go_wp2_with fail
  refine FF.out.mono ?_
  rintro e w1 ⟨rfl, f, kk⟩
  have KB' := Lib.hid (KB.out.frm f.frm (by decide))
  have BB' := Lib.hid (BB.out.trans f.below)
  have LInt8 := Lib.hid (KInt8.out.map (w' := w1) (fun h => own_frm h f.frm (by decide)) (fun h => own_frm h f.frm (by decide)))
  have LHit := Lib.hid (KHit.out.map (w' := w1) (fun h => own_frm h f.frm (by decide)) (fun h => own_frm h f.frm (by decide)))
  have LNode := Lib.hid (KNode.out.map (w' := w1) (fun h => own_frm h f.frm (by decide)) (fun h => own_frm h f.frm (by decide)))
  have LInt := Lib.hid kk
  have hb' : base ≤ w1.heap.size := by have := f.below.size; omega
  have HLW' := Lib.hid (show lim ≤ w1.heap.size from Nat.le_trans HLW.out f.below.size)
  clear f kk FF KB BB hb HLW KInt KInt8 KHit KNode
  have KInt := LInt
  have KInt8 := LInt8
  have KHit := LHit
  have KNode := LNode
  have KB := KB'
  have BB := BB'
  have hb := hb'
  have HLW := HLW'
  clear KB' BB' hb' HLW' LInt LInt8 LHit LNode
  have FF := Lib.hid (fillInt8_gen hb KB.out KInt8.out JInt8.out.1)
  go_wp2_with fail
  refine FF.out.mono ?_
  rintro e w2 ⟨rfl, f, kk⟩
  have KB' := Lib.hid (KB.out.frm f.frm (by decide))
  have BB' := Lib.hid (BB.out.trans f.below)
  have LInt := Lib.hid (KInt.out.map (w' := w2) (fun h => own_frm h f.frm (by decide)) (fun h => own_frm h f.frm (by decide)))
  have LHit := Lib.hid (KHit.out.map (w' := w2) (fun h => own_frm h f.frm (by decide)) (fun h => own_frm h f.frm (by decide)))
  have LNode := Lib.hid (KNode.out.map (w' := w2) (fun h => own_frm h f.frm (by decide)) (fun h => own_frm h f.frm (by decide)))
  have LInt8 := Lib.hid kk
  have hb' : base ≤ w2.heap.size := by have := f.below.size; omega
  have HLW' := Lib.hid (show lim ≤ w2.heap.size from Nat.le_trans HLW.out f.below.size)
  clear f kk FF KB BB hb HLW KInt KInt8 KHit KNode
  have KInt := LInt
  have KInt8 := LInt8
  have KHit := LHit
  have KNode := LNode
  have KB := KB'
  have BB := BB'
  have hb := hb'
  have HLW := HLW'
  clear KB' BB' hb' HLW' LInt LInt8 LHit LNode
  go_wp2_with fail
  refine (fillNumber_nil bk w2 (ZZ.out _ KB.out).2.1).mono ?_
  rintro e w' ⟨rfl, rfl⟩
  go_wp2_with fail
  refine (fillInt64_nil bk w2 (ZZ.out _ KB.out).2.2.1).mono ?_
  rintro e w' ⟨rfl, rfl⟩
  go_wp2_with fail
  refine (fillVector_nil bk w2 (ZZ.out _ KB.out).2.2.2.1).mono ?_
  rintro e w' ⟨rfl, rfl⟩
  go_wp2_with fail
  refine (fillRow_nil bk w2 (ZZ.out _ KB.out).2.2.2.2.1).mono ?_
  rintro e w' ⟨rfl, rfl⟩
  go_wp2_with fail
  refine (fillPart_nil bk w2 (ZZ.out _ KB.out).2.2.2.2.2.1).mono ?_
  rintro e w' ⟨rfl, rfl⟩
  go_wp2_with fail
  refine (fillItem_nil bk w2 (ZZ.out _ KB.out).2.2.2.2.2.2.1).mono ?_
  rintro e w' ⟨rfl, rfl⟩
  have FF := Lib.hid (fillHit_gen hb KB.out KHit.out JHit.out.1)
  go_wp2_with fail
  refine FF.out.mono ?_
  rintro e w3 ⟨rfl, f, kk⟩
  have KB' := Lib.hid (KB.out.frm f.frm (by decide))
  have BB' := Lib.hid (BB.out.trans f.below)
  have LInt := Lib.hid (KInt.out.map (w' := w3) (fun h => own_frm h f.frm (by decide)) (fun h => own_frm h f.frm (by decide)))
  have LInt8 := Lib.hid (KInt8.out.map (w' := w3) (fun h => own_frm h f.frm (by decide)) (fun h => own_frm h f.frm (by decide)))
  have LNode := Lib.hid (KNode.out.map (w' := w3) (fun h => own_frm h f.frm (by decide)) (fun h => own_frm h f.frm (by decide)))
  have LHit := Lib.hid kk
  have hb' : base ≤ w3.heap.size := by have := f.below.size; omega
  have HLW' := Lib.hid (show lim ≤ w3.heap.size from Nat.le_trans HLW.out f.below.size)
  clear f kk FF KB BB hb HLW KInt KInt8 KHit KNode
  have KInt := LInt
  have KInt8 := LInt8
  have KHit := LHit
  have KNode := LNode
  have KB := KB'
  have BB := BB'
  have hb := hb'
  have HLW := HLW'
  clear KB' BB' hb' HLW' LInt LInt8 LHit LNode
  have FF := Lib.hid (fillNode_gen hb KB.out KNode.out JNode.out.1)
  go_wp2_with fail
  refine FF.out.mono ?_
  rintro e w4 ⟨rfl, f, kk⟩
  have KB' := Lib.hid (KB.out.frm f.frm (by decide))
  have BB' := Lib.hid (BB.out.trans f.below)
  have LInt := Lib.hid (KInt.out.map (w' := w4) (fun h => own_frm h f.frm (by decide)) (fun h => own_frm h f.frm (by decide)))
  have LInt8 := Lib.hid (KInt8.out.map (w' := w4) (fun h => own_frm h f.frm (by decide)) (fun h => own_frm h f.frm (by decide)))
  have LHit := Lib.hid (KHit.out.map (w' := w4) (fun h => own_frm h f.frm (by decide)) (fun h => own_frm h f.frm (by decide)))
  have LNode := Lib.hid kk
  have hb' : base ≤ w4.heap.size := by have := f.below.size; omega
  have HLW' := Lib.hid (show lim ≤ w4.heap.size from Nat.le_trans HLW.out f.below.size)
  clear f kk FF KB BB hb HLW KInt KInt8 KHit KNode
  have KInt := LInt
  have KInt8 := LInt8
  have KHit := LHit
  have KNode := LNode
  have KB := KB'
  have BB := BB'
  have hb := hb'
  have HLW := HLW'
  clear KB' BB' hb' HLW' LInt LInt8 LHit LNode
  go_wp2_with fail
  refine (fillUpdate_nil bk w4 (ZZ.out _ KB.out).2.2.2.2.2.2.2).mono ?_
  rintro e w' ⟨rfl, rfl⟩
  go_wp2_with fail
  refine (growByte_nil bk w4 (ZZ.out _ KB.out).1).mono ?_
  rintro e w' ⟨rfl, rfl⟩
  have FF := Lib.hid (growInt_gen hb KB.out KInt.out JInt.out.1 JInt.out.2)
  go_wp2_with fail
  refine FF.out.mono ?_
  rintro e w5 ⟨rfl, f, kk⟩
  have KB' := Lib.hid (KB.out.frm2 f.frm (by decide) (by decide))
  have BB' := Lib.hid (BB.out.trans f.below)
  have LInt8 := Lib.hid (KInt8.out.map (w' := w5) (fun h => own_frm2 h f.frm (by decide) (by decide)) (fun h => own_frm2 h f.frm (by decide) (by decide)))
  have LHit := Lib.hid (KHit.out.map (w' := w5) (fun h => own_frm2 h f.frm (by decide) (by decide)) (fun h => own_frm2 h f.frm (by decide) (by decide)))
  have LNode := Lib.hid (KNode.out.map (w' := w5) (fun h => own_frm2 h f.frm (by decide) (by decide)) (fun h => own_frm2 h f.frm (by decide) (by decide)))
  have QInt := Lib.hid kk
  have hb' : base ≤ w5.heap.size := by have := f.below.size; omega
  have HLW' := Lib.hid (show lim ≤ w5.heap.size from Nat.le_trans HLW.out f.below.size)
  clear f kk FF KB BB hb HLW KInt KInt8 KHit KNode 
  have KInt8 := LInt8
  have KHit := LHit
  have KNode := LNode
  have OInt := QInt
  have KB := KB'
  have BB := BB'
  have hb := hb'
  have HLW := HLW'
  clear KB' BB' hb' HLW' LInt8 LHit LNode QInt
  have FF := Lib.hid (growInt8_gen hb KB.out KInt8.out JInt8.out.1 JInt8.out.2)
  go_wp2_with fail
  refine FF.out.mono ?_
  rintro e w6 ⟨rfl, f, kk⟩
  have KB' := Lib.hid (KB.out.frm2 f.frm (by decide) (by decide))
  have BB' := Lib.hid (BB.out.trans f.below)
  have LHit := Lib.hid (KHit.out.map (w' := w6) (fun h => own_frm2 h f.frm (by decide) (by decide)) (fun h => own_frm2 h f.frm (by decide) (by decide)))
  have LNode := Lib.hid (KNode.out.map (w' := w6) (fun h => own_frm2 h f.frm (by decide) (by decide)) (fun h => own_frm2 h f.frm (by decide) (by decide)))
  have QInt := Lib.hid (OInt.out.map (w' := w6) (fun h => own_frm2 h f.frm (by decide) (by decide)) (fun h => f.block _ h.lt (h.other (by decide)).l (h.other (by decide)).l))
  have QInt8 := Lib.hid kk
  have hb' : base ≤ w6.heap.size := by have := f.below.size; omega
  have HLW' := Lib.hid (show lim ≤ w6.heap.size from Nat.le_trans HLW.out f.below.size)
  clear f kk FF KB BB hb HLW KInt8 KHit KNode OInt
  have KHit := LHit
  have KNode := LNode
  have OInt := QInt
  have OInt8 := QInt8
  have KB := KB'
  have BB := BB'
  have hb := hb'
  have HLW := HLW'
  clear KB' BB' hb' HLW' LHit LNode QInt QInt8
  go_wp2_with fail
  refine (growNumber_nil bk w6 (ZZ.out _ KB.out).2.1).mono ?_
  rintro e w' ⟨rfl, rfl⟩
  go_wp2_with fail
  refine (growInt64_nil bk w6 (ZZ.out _ KB.out).2.2.1).mono ?_
  rintro e w' ⟨rfl, rfl⟩
  go_wp2_with fail
  refine (growVector_nil bk w6 (ZZ.out _ KB.out).2.2.2.1).mono ?_
  rintro e w' ⟨rfl, rfl⟩
  go_wp2_with fail
  refine (growRow_nil bk w6 (ZZ.out _ KB.out).2.2.2.2.1).mono ?_
  rintro e w' ⟨rfl, rfl⟩
  go_wp2_with fail
  refine (growPart_nil bk w6 (ZZ.out _ KB.out).2.2.2.2.2.1).mono ?_
  rintro e w' ⟨rfl, rfl⟩
  go_wp2_with fail
  refine (growItem_nil bk w6 (ZZ.out _ KB.out).2.2.2.2.2.2.1).mono ?_
  rintro e w' ⟨rfl, rfl⟩
  have FF := Lib.hid (growHit_gen hb KB.out KHit.out JHit.out.1 JHit.out.2)
  go_wp2_with fail
  refine FF.out.mono ?_
  rintro e w7 ⟨rfl, f, kk⟩
  have KB' := Lib.hid (KB.out.frm2 f.frm (by decide) (by decide))
  have BB' := Lib.hid (BB.out.trans f.below)
  have LNode := Lib.hid (KNode.out.map (w' := w7) (fun h => own_frm2 h f.frm (by decide) (by decide)) (fun h => own_frm2 h f.frm (by decide) (by decide)))
  have QInt := Lib.hid (OInt.out.map (w' := w7) (fun h => own_frm2 h f.frm (by decide) (by decide)) (fun h => f.block _ h.lt (h.other (by decide)).l (h.other (by decide)).l))
  have QInt8 := Lib.hid (OInt8.out.map (w' := w7) (fun h => own_frm2 h f.frm (by decide) (by decide)) (fun h => f.block _ h.lt (h.other (by decide)).l (h.other (by decide)).l))
  have QHit := Lib.hid kk
  have hb' : base ≤ w7.heap.size := by have := f.below.size; omega
  have HLW' := Lib.hid (show lim ≤ w7.heap.size from Nat.le_trans HLW.out f.below.size)
  clear f kk FF KB BB hb HLW KHit KNode OInt OInt8
  have KNode := LNode
  have OInt := QInt
  have OInt8 := QInt8
  have OHit := QHit
  have KB := KB'
  have BB := BB'
  have hb := hb'
  have HLW := HLW'
  clear KB' BB' hb' HLW' LNode QInt QInt8 QHit
  have FF := Lib.hid (growNode_gen hb KB.out KNode.out JNode.out.1 JNode.out.2)
  go_wp2_with fail
  refine FF.out.mono ?_
  rintro e w8 ⟨rfl, f, kk⟩
  have KB' := Lib.hid (KB.out.frm2 f.frm (by decide) (by decide))
  have BB' := Lib.hid (BB.out.trans f.below)
  have QInt := Lib.hid (OInt.out.map (w' := w8) (fun h => own_frm2 h f.frm (by decide) (by decide)) (fun h => f.block _ h.lt (h.other (by decide)).l (h.other (by decide)).l))
  have QInt8 := Lib.hid (OInt8.out.map (w' := w8) (fun h => own_frm2 h f.frm (by decide) (by decide)) (fun h => f.block _ h.lt (h.other (by decide)).l (h.other (by decide)).l))
  have QHit := Lib.hid (OHit.out.map (w' := w8) (fun h => own_frm2 h f.frm (by decide) (by decide)) (fun h => f.block _ h.lt (h.other (by decide)).l (h.other (by decide)).l))
  have QNode := Lib.hid kk
  have hb' : base ≤ w8.heap.size := by have := f.below.size; omega
  have HLW' := Lib.hid (show lim ≤ w8.heap.size from Nat.le_trans HLW.out f.below.size)
  clear f kk FF KB BB hb HLW KNode OInt OInt8 OHit
  have OInt := QInt
  have OInt8 := QInt8
  have OHit := QHit
  have ONode := QNode
  have KB := KB'
  have BB := BB'
  have hb := hb'
  have HLW := HLW'
  clear KB' BB' hb' HLW'  QInt QInt8 QHit QNode
  go_wp2_with fail
  refine (growUpdate_nil bk w8 (ZZ.out _ KB.out).2.2.2.2.2.2.2).mono ?_
  rintro e w' ⟨rfl, rfl⟩
  go_wp2_with fail
  refine (lookByte_nil bk w8 (ZZ.out _ KB.out).1).mono ?_
  rintro e w' ⟨rfl, rfl⟩
  have FF := Lib.hid (lookInt_gen KB.out OInt.out)
  go_wp2_with fail
  refine FF.out.mono ?_
  rintro e w9 ⟨rfl, f⟩
  have KB' := Lib.hid (KB.out.bel f)
  have BB' := Lib.hid (BB.out.trans (f.mono hb))
  have QInt8 := Lib.hid (OInt8.out.map (w' := w9) (fun h => own_bel h f) (fun h => f.block _ h.lt))
  have QHit := Lib.hid (OHit.out.map (w' := w9) (fun h => own_bel h f) (fun h => f.block _ h.lt))
  have QNode := Lib.hid (ONode.out.map (w' := w9) (fun h => own_bel h f) (fun h => f.block _ h.lt))
  have hb' : base ≤ w9.heap.size := by have := f.size; omega
  clear f FF KB BB hb OInt OInt8 OHit ONode
  have OInt8 := QInt8
  have OHit := QHit
  have ONode := QNode
  have KB := KB'
  have BB := BB'
  have hb := hb'
  clear KB' BB' hb' QInt8 QHit QNode
  have FF := Lib.hid (lookInt8_gen KB.out OInt8.out)
  go_wp2_with fail
  refine FF.out.mono ?_
  rintro e w10 ⟨rfl, f⟩
  have KB' := Lib.hid (KB.out.bel f)
  have BB' := Lib.hid (BB.out.trans (f.mono hb))
  have QHit := Lib.hid (OHit.out.map (w' := w10) (fun h => own_bel h f) (fun h => f.block _ h.lt))
  have QNode := Lib.hid (ONode.out.map (w' := w10) (fun h => own_bel h f) (fun h => f.block _ h.lt))
  have hb' : base ≤ w10.heap.size := by have := f.size; omega
  clear f FF KB BB hb OInt8 OHit ONode
  have OHit := QHit
  have ONode := QNode
  have KB := KB'
  have BB := BB'
  have hb := hb'
  clear KB' BB' hb' QHit QNode
  go_wp2_with fail
  refine (lookNumber_nil bk w10 (ZZ.out _ KB.out).2.1).mono ?_
  rintro e w' ⟨rfl, rfl⟩
  go_wp2_with fail
  refine (lookInt64_nil bk w10 (ZZ.out _ KB.out).2.2.1).mono ?_
  rintro e w' ⟨rfl, rfl⟩
  go_wp2_with fail
  refine (lookVector_nil bk w10 (ZZ.out _ KB.out).2.2.2.1).mono ?_
  rintro e w' ⟨rfl, rfl⟩
  go_wp2_with fail
  refine (lookRow_nil bk w10 (ZZ.out _ KB.out).2.2.2.2.1).mono ?_
  rintro e w' ⟨rfl, rfl⟩
  go_wp2_with fail
  refine (lookPart_nil bk w10 (ZZ.out _ KB.out).2.2.2.2.2.1).mono ?_
  rintro e w' ⟨rfl, rfl⟩
  go_wp2_with fail
  refine (lookItem_nil bk w10 (ZZ.out _ KB.out).2.2.2.2.2.2.1).mono ?_
  rintro e w' ⟨rfl, rfl⟩
  have FF := Lib.hid (lookHit_gen KB.out OHit.out)
  go_wp2_with fail
  refine FF.out.mono ?_
  rintro e w11 ⟨rfl, f⟩
  have KB' := Lib.hid (KB.out.bel f)
  have BB' := Lib.hid (BB.out.trans (f.mono hb))
  have QNode := Lib.hid (ONode.out.map (w' := w11) (fun h => own_bel h f) (fun h => f.block _ h.lt))
  have hb' : base ≤ w11.heap.size := by have := f.size; omega
  clear f FF KB BB hb OHit ONode
  have ONode := QNode
  have KB := KB'
  have BB := BB'
  have hb := hb'
  clear KB' BB' hb' QNode
  have FF := Lib.hid (lookNode_gen KB.out ONode.out)
  go_wp2_with fail
  refine FF.out.mono ?_
  rintro e w12 ⟨rfl, f⟩
  have KB' := Lib.hid (KB.out.bel f)
  have BB' := Lib.hid (BB.out.trans (f.mono hb))
  have hb' : base ≤ w12.heap.size := by have := f.size; omega
  clear f FF KB BB hb ONode
  have KB := KB'
  have BB := BB'
  have hb := hb'
  clear KB' BB' hb' 
  go_wp2_with fail
  refine (lookUpdate_nil bk w12 (ZZ.out _ KB.out).2.2.2.2.2.2.2).mono ?_
  rintro e w' ⟨rfl, rfl⟩
  go_wp2
  go_ret
  exact ⟨rfl, BB.out⟩
end Bk
end Go.Proofs.YtkmngbkghgelfaaGreat
