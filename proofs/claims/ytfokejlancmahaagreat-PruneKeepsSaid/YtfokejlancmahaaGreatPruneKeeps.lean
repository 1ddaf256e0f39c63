/- PruneKeeps holds: whatever graph, setup and place, and whatever places are handed in, the call answers true and they read afterwards as they did. No condition but the form's own (each slice that is read takes at most 2^47 - 4096 bytes). -/
import Derived.Test.YtfokejlancmahaaGreatRows
import Derived.Test.YtfokejlancmahaaGreatUm
import Derived.Test.YtfokejlancmahaaGreatAx
import Derived.WalkKit
import Derived.ProofKit
import Derived.OpenShut
import Derived.ChangeOld
import Derived.SizedLaws
import Derived.Below
namespace Go.Proofs.YtfokejlancmahaaGreat.pruneKeeps
open Go.ChangeShapes Go.WideShapes Go.ChangeAt Go.RowKit
set_option linter.unusedVariables false

theorem own : ownKnob Tryz.prog.godebug = none := by kernel_rfl
theorem laidOut : laidOutB Tryz.prog = true := by kernel_rfl
theorem walk (A : Option Addr) (c : Nat) (L : List Gn) (S d g b n m at_ : Int) (B : Option Addr) (q : Nat) (P : List Int) (w : World) (wS : (Lit.int .i64 S).wf = true) (w0 : (Lit.int .i64 d).wf = true) (w1 : (Lit.int .i64 g).wf = true) (w2 : (Lit.int .i64 b).wf = true) (w3 : (Lit.int .i64 n).wf = true) (w4 : (Lit.int .i64 m).wf = true) (wa : (Lit.int .i64 at_).wf = true) (okx : GrOk w A c L) (hP : Rd .i64 w w.heap.size B P) (wP : ∀ n ∈ P, (Lit.int .i64 n).wf = true) (hl : P.length ≤ q) (hm : q ≤ 140737488351232) (hnil : B = none → q = 0) :
    Calls Tryz.prog 3 #[.agg #[.slice A L.length c, .int .i64 S, .int .i64 d, .int .i64 g, .int .i64 b, .int .i64 n, .int .i64 m, .int .i64 at_], .slice B P.length q] w fun e w' => e = .returned (.bool true) ∧ Below w.heap.size w w' := by
  exact pruneKeeps_main A c L S d g b n m at_ B q P w okx.given hP hl hm
set_option maxRecDepth 100000 in
theorem lifted (os : Os) (started : os.Started) (H : Type) (enc : TypeId × Value → H) :
    ReturnsInHanded {} Tryz.checked os 3 .any (Rows.pruneKeepsSpec.pre6 enc Tryz.prog Tryz.f3 Rows.pruneKeepsRow.domain false) (Rows.pruneKeepsSpec.post enc Tryz.prog Tryz.f3 false true false false) := by
  refine returnsInHanded_of_change_sized (C := Tryz.checked) own started (by kernel_rfl) Tryz.func3
    (ChangeSpec.witness6 (enc := enc) (C := Tryz.checked) false ⟨#[], #[.agg #[.slice none 0 0, .int .i64 0, .int .i64 0, .int .i64 0, .int .i64 0, .int .i64 0, .int .i64 0, .int .i64 0], .slice none 0 0], []⟩ 8 (by kernel_rfl) (by kernel_rfl) (by kernel_rfl) (by kernel_rfl)) ?_
  intro W base args ds gs before hval0 hW hcnd hsz0 _
  have hsz : (DataW.weightsEach Tryz.prog (Tryz.f3.params.toList ++ Rows.pruneKeepsSpec.plain.varTypes Tryz.prog) (ds ++ gs)).all (· ≤ reachBytes) = true := hsz0
  have hval : ∀ (j : Nat) t v, Tryz.f3.params[j]? = some t → args[j]? = some v → Value.okWide Tryz.prog W .any base t v := hval0
  have hW' := hW
  obtain ⟨p, q, hA0, hV, rfl, hfz, hnd⟩ := hW
  have hA : DataW.TrodAll enc Tryz.prog W 0 (fun _ => true) true Tryz.f3.params.toList args.toList ds p := hA0
  rw [Tryz.params3] at hA hval hsz
  obtain ⟨v0, vs0, d0, ds0, p0, q0, hargs, rfl, rfl, h0, r0⟩ := trodAll_cons hA
  obtain ⟨v1, vs1, d1, ds1, p1, q1, rfl, rfl, rfl, h1, r1⟩ := trodAll_cons r0
  obtain ⟨rfl, rfl, rfl⟩ := trodAll_nil r1
  obtain rfl : args = #[v0, v1] := by cases args; simp_all
  obtain ⟨rfl, rfl⟩ := trodVars_none hV
  obtain ⟨a1, len1, cap1, rfl⟩ := okWide_slice Tryz.underlying29 (hval 1 29 v1 rfl rfl)
  have k1 := h1
  have lt1 : ∀ x ∈ p1, x.block < W.heap.size := by obtain ⟨m, hm⟩ := k1; exact DataW.trod_lt m _ _ _ hm
  obtain ⟨x1, e1, hc1, hm1, rd1, wf1, nl1⟩ := opened (j := 1) Tryz.underlying29 Tryz.underlying3 (by kernel_rfl) (show Tryz.prog.bytesOf 3 = 8 by kernel_rfl) hsz rfl rfl h1
  subst e1
  have k0 := h0
  have lt0 : ∀ x ∈ p0, x.block < W.heap.size := by obtain ⟨m, hm⟩ := k0; exact DataW.trod_lt m _ _ _ hm
  obtain ⟨a0, cap0, x0, S0, d00, d01, d02, d03, d04, at0, rfl, w0, ⟨w00, w01, w02, w03, w04⟩, wa0, ok0⟩ := opened_of (j := 0) Tryz.underlying28 (show Tryz.prog.cellsOf 28 = 8 by kernel_rfl) rfl rfl rfl rfl rfl rfl Tryz.underlying26 (by kernel_rfl) (show Tryz.prog.cellsOf 26 = 5 by kernel_rfl) rfl rfl rfl rfl rfl (show Tryz.prog.cellsOf 3 = 1 by kernel_rfl) Tryz.underlying24 (by kernel_rfl) (show Tryz.prog.cellsOf 24 = 2 by kernel_rfl) rfl rfl Tryz.underlying3 Tryz.underlying22 Tryz.underlying73 (by kernel_rfl) (show Tryz.prog.cellsOf 73 = 3 by kernel_rfl) (show Tryz.prog.bytesOf 73 = 56 by kernel_rfl) Tryz.underlying71 rfl rfl Tryz.underlying56 Tryz.underlying29 Tryz.underlying94 Tryz.underlying3 (by kernel_rfl) (by kernel_rfl) (by kernel_rfl) (by kernel_rfl) hsz rfl rfl (hval 0 28 v0 rfl rfl) h0
  clear hA0 hval0
  refine (walk a0 cap0 x0 S0 d00 d01 d02 d03 d04 at0 a1 cap1 x1 W w0 w00 w01 w02 w03 w04 wa0 ok0 rd1 wf1 hc1 (by omega) nl1).mono fun e W' ⟨he, bel⟩ => ?_
  subst he
  exact ⟨_, rfl, _, _, _, [], _, [], hW', trodAll_mk1 (shut_bool Tryz.underlying4 _), (trodAll_cons_mk (Below.trod laidOut (by kernel_rfl) (of_decide_eq_true (by kernel_rfl)) k0 bel lt0) (trodAll_cons_mk (Below.trod laidOut (by kernel_rfl) (of_decide_eq_true (by kernel_rfl)) k1 bel lt1) trodAll_mk0)), rfl, bel.frame _, fun h => by cases h⟩

theorem over : Rows.pruneKeepsRow.holds Tryz.pinned (OpenSpec.ofChange Rows.pruneKeepsSpec) :=
  OpenClaim.holds_of_wide 3 Tryz.f3 rfl rfl rfl rfl rfl rfl rfl ⟨rfl, rfl, rfl, rfl, rfl⟩ rfl rfl rfl rfl rfl (by kernel_rfl) Tryz.func3 (by kernel_rfl)
    (of_decide_eq_true (by kernel_rfl)) (by unfold Func.isWrapper; first | (rw [if_pos (by decide +kernel)]; kernel_rfl) | (rw [if_neg (by decide +kernel)]; exact ⟨rfl, rfl⟩))
    (fun os started H enc _ => lifted os started H enc)

theorem proved : Rows.PruneKeepsSaid := over
#print axioms proved
end Go.Proofs.YtfokejlancmahaaGreat.pruneKeeps
