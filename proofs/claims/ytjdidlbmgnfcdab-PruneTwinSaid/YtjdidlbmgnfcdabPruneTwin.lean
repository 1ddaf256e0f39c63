/- PruneTwin holds: whatever graph, setup and place, and whatever two numbers are handed in, the call answers true and they read afterwards as they did. No condition but the form's own (each slice that is read takes at most 2^47 - 4096 bytes). -/
import Derived.Test.YtjdidlbmgnfcdabRows
import Derived.Test.YtjdidlbmgnfcdabIb
import Derived.Test.YtjdidlbmgnfcdabAx
import Derived.WalkKit
import Derived.ProofKit
import Derived.OpenShut
import Derived.ChangeOld
import Derived.SizedLaws
import Derived.Below
namespace Go.Proofs.Ytjdidlbmgnfcdab.pruneTwin
open Go.ChangeShapes Go.WideShapes Go.ChangeAt Go.RowKit
set_option linter.unusedVariables false

theorem own : ownKnob Try.prog.godebug = none := by kernel_rfl
theorem laidOut : laidOutB Try.prog = true := by kernel_rfl
theorem walk (A : Option Addr) (c : Nat) (L : List Gn) (S d g b n m at_ : Int) (p q : Int) (w : World) (wS : (Lit.int .i64 S).wf = true) (w0 : (Lit.int .i64 d).wf = true) (w1 : (Lit.int .i64 g).wf = true) (w2 : (Lit.int .i64 b).wf = true) (w3 : (Lit.int .i64 n).wf = true) (w4 : (Lit.int .i64 m).wf = true) (wa : (Lit.int .i64 at_).wf = true) (okx : GrOk w A c L) (wp : (Lit.int .u16 p).wf = true) (wq : (Lit.int .u16 q).wf = true) :
    Calls Try.prog 3 #[.agg #[.slice A L.length c, .int .i64 S, .int .i64 d, .int .i64 g, .int .i64 b, .int .i64 n, .int .i64 m, .int .i64 at_], .int .u16 p, .int .u16 q] w fun e w' => e = .returned (.bool true) ∧ Below w.heap.size w w' := by
  exact pruneTwin_main A c L S d g b n m at_ p q w okx.given wp wq
set_option maxRecDepth 100000 in
theorem lifted (os : Os) (started : os.Started) (H : Type) (enc : TypeId × Value → H) :
    ReturnsInHanded {} Try.checked os 3 .any (Rows.pruneTwinSpec.pre6 enc Try.prog Try.f3 Rows.pruneTwinRow.domain false) (Rows.pruneTwinSpec.post enc Try.prog Try.f3 false true false false) := by
  refine returnsInHanded_of_change_sized (C := Try.checked) own started (by kernel_rfl) Try.func3
    (ChangeSpec.witness6 (enc := enc) (C := Try.checked) false ⟨#[], #[.agg #[.slice none 0 0, .int .i64 0, .int .i64 0, .int .i64 0, .int .i64 0, .int .i64 0, .int .i64 0, .int .i64 0], .int .u16 0, .int .u16 0], []⟩ 8 (by kernel_rfl) (by kernel_rfl) (by kernel_rfl) (by kernel_rfl)) ?_
  intro W base args ds gs before hval0 hW hcnd hsz0 _
  have hsz : (DataW.weightsEach Try.prog (Try.f3.params.toList ++ Rows.pruneTwinSpec.plain.varTypes Try.prog) (ds ++ gs)).all (· ≤ reachBytes) = true := hsz0
  have hval : ∀ (j : Nat) t v, Try.f3.params[j]? = some t → args[j]? = some v → Value.okWide Try.prog W .any base t v := hval0
  have hW' := hW
  obtain ⟨p, q, hA0, hV, rfl, hfz, hnd⟩ := hW
  have hA : DataW.TrodAll enc Try.prog W 0 (fun _ => true) true Try.f3.params.toList args.toList ds p := hA0
  rw [Try.params3] at hA hval hsz
  obtain ⟨v0, vs0, d0, ds0, p0, q0, hargs, rfl, rfl, h0, r0⟩ := trodAll_cons hA
  obtain ⟨v1, vs1, d1, ds1, p1, q1, rfl, rfl, rfl, h1, r1⟩ := trodAll_cons r0
  obtain ⟨v2, vs2, d2, ds2, p2, q2, rfl, rfl, rfl, h2, r2⟩ := trodAll_cons r1
  obtain ⟨rfl, rfl, rfl⟩ := trodAll_nil r2
  obtain rfl : args = #[v0, v1, v2] := by cases args; simp_all
  obtain ⟨rfl, rfl⟩ := trodVars_none hV
  have k0 := h0
  have lt0 : ∀ x ∈ p0, x.block < W.heap.size := by obtain ⟨m, hm⟩ := k0; exact DataW.trod_lt m _ _ _ hm
  obtain ⟨a0, cap0, x0, S0, d00, d01, d02, d03, d04, at0, rfl, w0, ⟨w00, w01, w02, w03, w04⟩, wa0, ok0⟩ := opened_of (j := 0) Try.underlying28 (show Try.prog.cellsOf 28 = 8 by kernel_rfl) rfl rfl rfl rfl rfl rfl Try.underlying26 (by kernel_rfl) (show Try.prog.cellsOf 26 = 5 by kernel_rfl) rfl rfl rfl rfl rfl (show Try.prog.cellsOf 3 = 1 by kernel_rfl) Try.underlying24 (by kernel_rfl) (show Try.prog.cellsOf 24 = 2 by kernel_rfl) rfl rfl Try.underlying3 Try.underlying22 Try.underlying40 (by kernel_rfl) (show Try.prog.cellsOf 40 = 3 by kernel_rfl) (show Try.prog.bytesOf 40 = 56 by kernel_rfl) Try.underlying36 rfl rfl Try.underlying37 Try.underlying38 Try.underlying42 Try.underlying3 (by kernel_rfl) (by kernel_rfl) (by kernel_rfl) (by kernel_rfl) hsz rfl rfl (hval 0 28 v0 rfl rfl) h0
  obtain ⟨i1, rfl, rfl, rfl, w1⟩ := open_int Try.underlying29 (hval 1 29 v1 rfl rfl) h1
  obtain ⟨i2, rfl, rfl, rfl, w2⟩ := open_int Try.underlying29 (hval 2 29 v2 rfl rfl) h2
  clear hA0 hval0
  refine (walk a0 cap0 x0 S0 d00 d01 d02 d03 d04 at0 i1 i2 W w0 w00 w01 w02 w03 w04 wa0 ok0 w1 w2).mono fun e W' ⟨he, bel⟩ => ?_
  subst he
  exact ⟨_, rfl, _, _, _, [], _, [], hW', trodAll_mk1 (shut_bool Try.underlying4 _), (trodAll_cons_mk (Below.trod laidOut (by kernel_rfl) (of_decide_eq_true (by kernel_rfl)) k0 bel lt0) (trodAll_cons_mk (shut_int Try.underlying29 w1) (trodAll_cons_mk (shut_int Try.underlying29 w2) trodAll_mk0))), rfl, bel.frame _, fun h => by cases h⟩

theorem over : Rows.pruneTwinRow.holds Try.pinned (OpenSpec.ofChange Rows.pruneTwinSpec) :=
  OpenClaim.holds_of_wide 3 Try.f3 rfl rfl rfl rfl rfl rfl rfl ⟨rfl, rfl, rfl, rfl, rfl⟩ rfl rfl rfl rfl rfl (by kernel_rfl) Try.func3 (by kernel_rfl)
    (of_decide_eq_true (by kernel_rfl)) (by unfold Func.isWrapper; first | (rw [if_pos (by decide +kernel)]; kernel_rfl) | (rw [if_neg (by decide +kernel)]; exact ⟨rfl, rfl⟩))
    (fun os started H enc _ => lifted os started H enc)

theorem proved : Rows.PruneTwinSaid := over
#print axioms proved
end Go.Proofs.Ytjdidlbmgnfcdab.pruneTwin
