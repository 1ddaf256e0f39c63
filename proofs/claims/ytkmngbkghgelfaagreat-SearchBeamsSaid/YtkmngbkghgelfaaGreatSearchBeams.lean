/- SearchBeams holds: whatever graph, whatever vector and whatever two numbers are handed in, the call answers true and they read afterwards as they did. No condition but the form's own (each slice that is read takes at most 2^47 - 4096 bytes). -/
import Derived.Test.YtkmngbkghgelfaaGreatRows
import Derived.Test.YtkmngbkghgelfaaGreatZj
import Derived.Test.YtkmngbkghgelfaaGreatAg
import Derived.Test.YtkmngbkghgelfaaGreatAr
import Derived.WalkKit
import Derived.ProofKit
import Derived.OpenShut
import Derived.ChangeOld
import Derived.SizedLaws
import Derived.Below
namespace Go.Proofs.YtkmngbkghgelfaaGreat.searchBeams
open Go.ChangeShapes Go.WideShapes Go.ChangeAt Go.RowKit
set_option linter.unusedVariables false

theorem own : ownKnob Tryz.prog.godebug = none := by kernel_rfl
theorem laidOut : laidOutB Tryz.prog = true := by kernel_rfl
theorem walk (A : Option Addr) (c : Nat) (L : List Gn) (S : Int) (B : Option Addr) (q : Nat) (v : List Int) (l0 l1 : Int) (w : World) (wS : (Lit.int .i64 S).wf = true) (okx : GrOk w A c L) (hv : Rd .i8 w w.heap.size B v) (wv : ∀ n ∈ v, (Lit.int .i8 n).wf = true) (hl : v.length ≤ q) (hm : q ≤ 140737488351232) (hnil : B = none → q = 0) (x0 : (Lit.int .i64 l0).wf = true) (x1 : (Lit.int .i64 l1).wf = true) :
    Calls Tryz.prog 4 #[.agg #[.slice A L.length c, .int .i64 S], .slice B v.length q, .agg #[.int .i64 l0, .int .i64 l1]] w fun e w' => e = .returned (.bool true) ∧ Below w.heap.size w w' := by
  have m1 : IntKind.i8.min = -128 := rfl
  have m2 : IntKind.i8.max = 127 := rfl
  have bv : ∀ n ∈ v, -128 ≤ n ∧ n ≤ 127 := fun n hn => by have := wv n hn; simp only [Lit.wf, Bool.and_eq_true, decide_eq_true_eq] at this; omega
  exact searchBeams_main A c L S B q v l0 l1 w okx.given hv bv hl hm
set_option maxRecDepth 100000 in
theorem lifted (os : Os) (started : os.Started) (H : Type) (enc : TypeId × Value → H) :
    ReturnsInHanded {} Tryz.checked os 4 .any (Rows.searchBeamsSpec.pre6 enc Tryz.prog Tryz.f4 Rows.searchBeamsRow.domain false) (Rows.searchBeamsSpec.post enc Tryz.prog Tryz.f4 false true false false) := by
  refine returnsInHanded_of_change_sized (C := Tryz.checked) own started (by kernel_rfl) Tryz.func4
    (ChangeSpec.witness6 (enc := enc) (C := Tryz.checked) false ⟨#[], #[.agg #[.slice none 0 0, .int .i64 0], .slice none 0 0, .agg #[.int .i64 0, .int .i64 0]], []⟩ 8 (by kernel_rfl) (by kernel_rfl) (by kernel_rfl) (by kernel_rfl)) ?_
  intro W base args ds gs before hval0 hW hcnd hsz0 _
  have hsz : (DataW.weightsEach Tryz.prog (Tryz.f4.params.toList ++ Rows.searchBeamsSpec.plain.varTypes Tryz.prog) (ds ++ gs)).all (· ≤ reachBytes) = true := hsz0
  have hval : ∀ (j : Nat) t v, Tryz.f4.params[j]? = some t → args[j]? = some v → Value.okWide Tryz.prog W .any base t v := hval0
  have hW' := hW
  obtain ⟨p, q, hA0, hV, rfl, hfz, hnd⟩ := hW
  have hA : DataW.TrodAll enc Tryz.prog W 0 (fun _ => true) true Tryz.f4.params.toList args.toList ds p := hA0
  rw [Tryz.params4] at hA hval hsz
  obtain ⟨v0, vs0, d0, ds0, p0, q0, hargs, rfl, rfl, h0, r0⟩ := trodAll_cons hA
  obtain ⟨v1, vs1, d1, ds1, p1, q1, rfl, rfl, rfl, h1, r1⟩ := trodAll_cons r0
  obtain ⟨v2, vs2, d2, ds2, p2, q2, rfl, rfl, rfl, h2, r2⟩ := trodAll_cons r1
  obtain ⟨rfl, rfl, rfl⟩ := trodAll_nil r2
  obtain rfl : args = #[v0, v1, v2] := by cases args; simp_all
  obtain ⟨rfl, rfl⟩ := trodVars_none hV
  obtain ⟨a1, len1, cap1, rfl⟩ := okWide_slice Tryz.underlying25 (hval 1 25 v1 rfl rfl)
  have k1 := h1
  have lt1 : ∀ x ∈ p1, x.block < W.heap.size := by obtain ⟨m, hm⟩ := k1; exact DataW.trod_lt m _ _ _ hm
  obtain ⟨x1, e1, hc1, hm1, rd1, wf1, nl1⟩ := opened (j := 1) Tryz.underlying25 Tryz.underlying64 (by kernel_rfl) (show Tryz.prog.bytesOf 64 = 1 by kernel_rfl) hsz rfl rfl h1
  subst e1
  have k2 := h2
  have lt2 : ∀ x ∈ p2, x.block < W.heap.size := by obtain ⟨m, hm⟩ := k2; exact DataW.trod_lt m _ _ _ hm
  obtain ⟨a20, a21, rfl, w20, w21⟩ := opened_arr2 Tryz.underlying56 Tryz.underlying3 (by kernel_rfl) (show Tryz.prog.cellsOf 56 = 2 by kernel_rfl) (hval 2 56 v2 rfl rfl) h2
  have k0 := h0
  have lt0 : ∀ x ∈ p0, x.block < W.heap.size := by obtain ⟨m, hm⟩ := k0; exact DataW.trod_lt m _ _ _ hm
  obtain ⟨a0, cap0, x0, S0, rfl, w0, ok0⟩ := opened_graph (j := 0) Tryz.underlying24 (by kernel_rfl) (show Tryz.prog.cellsOf 24 = 2 by kernel_rfl) rfl rfl Tryz.underlying3 Tryz.underlying22 Tryz.underlying87 (by kernel_rfl) (show Tryz.prog.cellsOf 87 = 3 by kernel_rfl) (show Tryz.prog.bytesOf 87 = 56 by kernel_rfl) Tryz.underlying76 rfl rfl Tryz.underlying25 Tryz.underlying57 Tryz.underlying64 Tryz.underlying3 (by kernel_rfl) (by kernel_rfl) (by kernel_rfl) (by kernel_rfl) hsz rfl rfl (hval 0 24 v0 rfl rfl) h0
  clear hA0 hval0
  refine (walk a0 cap0 x0 S0 a1 cap1 x1 a20 a21 W w0 ok0 rd1 wf1 hc1 (by omega) nl1 w20 w21).mono fun e W' ⟨he, bel⟩ => ?_
  subst he
  exact ⟨_, rfl, _, _, _, [], _, [], hW', trodAll_mk1 (shut_bool Tryz.underlying4 _), (trodAll_cons_mk (Below.trod laidOut (by kernel_rfl) (of_decide_eq_true (by kernel_rfl)) k0 bel lt0) (trodAll_cons_mk (Below.trod laidOut (by kernel_rfl) (of_decide_eq_true (by kernel_rfl)) k1 bel lt1) (trodAll_cons_mk (Below.trod laidOut (by kernel_rfl) (of_decide_eq_true (by kernel_rfl)) k2 bel lt2) trodAll_mk0))), rfl, bel.frame _, fun h => by cases h⟩

theorem over : Rows.searchBeamsRow.holds Tryz.pinned (OpenSpec.ofChange Rows.searchBeamsSpec) :=
  OpenClaim.holds_of_wide 4 Tryz.f4 rfl rfl rfl rfl rfl rfl rfl ⟨rfl, rfl, rfl, rfl, rfl⟩ rfl rfl rfl rfl rfl (by kernel_rfl) Tryz.func4 (by kernel_rfl)
    (of_decide_eq_true (by kernel_rfl)) (by unfold Func.isWrapper; first | (rw [if_pos (by decide +kernel)]; kernel_rfl) | (rw [if_neg (by decide +kernel)]; exact ⟨rfl, rfl⟩))
    (fun os started H enc _ => lifted os started H enc)

theorem proved : Rows.SearchBeamsSaid := over
#print axioms proved
end Go.Proofs.YtkmngbkghgelfaaGreat.searchBeams
