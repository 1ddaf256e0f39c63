/- PqTrains holds: whatever vectors and whatever plan are handed in, the call answers true and they read afterwards as they did. No condition but the form's own (each slice that is read takes at most 2^47 - 4096 bytes). -/
import Derived.Test.YthbimjkcpmffcaaGreatRows
import Derived.Test.YthbimjkcpmffcaaGreatZ3
import Derived.Test.YthbimjkcpmffcaaGreatWt
import Derived.Test.YthbimjkcpmffcaaGreatWu
import Derived.Test.YthbimjkcpmffcaaGreatAp
import Derived.WalkKit
import Derived.ProofKit
import Derived.OpenShut
import Derived.ChangeOld
import Derived.SizedLaws
import Derived.Below
namespace Go.Proofs.YthbimjkcpmffcaaGreat.pqTrains
open Go.ChangeShapes Go.WideShapes Go.ChangeAt Go.RowKit
set_option linter.unusedVariables false

theorem own : ownKnob Tryz.prog.godebug = none := by kernel_rfl
theorem laidOut : laidOutB Tryz.prog = true := by kernel_rfl
theorem walk (A : Option Addr) (c : Nat) (L : List Vc) (N K R S : Int) (w : World) (hx : RdV w w.heap.size A L) (okx : ∀ v ∈ L, VcOk w v) (hcx : L.length ≤ c) (hmx : c * 24 ≤ 140737488351232) (hnilx : A = none → c = 0)
    (wn : (Lit.int .i64 N).wf = true) (wk : (Lit.int .i64 K).wf = true) (wr : (Lit.int .i64 R).wf = true) (ws : (Lit.int .u64 S).wf = true) :
    Calls Tryz.prog 4 #[.slice A L.length c, .agg #[.int .i64 N, .int .i64 K, .int .i64 R, .int .u64 S]] w fun e w' => e = .returned (.bool true) ∧ Below w.heap.size w w' := by
  have gx := VsOk.given (show VsOk w A c L from ⟨hx, okx, hcx, hmx, hnilx⟩)
  have h1 := u64_of_wf8 ws
  obtain ⟨T, rfl⟩ := Int.eq_ofNat_of_zero_le h1.1
  exact pqTrains_main pqTrain_spec A c L N K R T w gx.1 gx.2 (by omega)
set_option maxRecDepth 100000 in
theorem lifted (os : Os) (started : os.Started) (H : Type) (enc : TypeId × Value → H) :
    ReturnsInHanded {} Tryz.checked os 4 .any (Rows.pqTrainsSpec.pre6 enc Tryz.prog Tryz.f4 Rows.pqTrainsRow.domain false) (Rows.pqTrainsSpec.post enc Tryz.prog Tryz.f4 false true false false) := by
  refine returnsInHanded_of_change_sized (C := Tryz.checked) own started (by kernel_rfl) Tryz.func4
    (ChangeSpec.witness6 (enc := enc) (C := Tryz.checked) false ⟨#[], #[.slice none 0 0, .agg #[.int .i64 0, .int .i64 0, .int .i64 0, .int .u64 0]], []⟩ 8 (by kernel_rfl) (by kernel_rfl) (by kernel_rfl) (by kernel_rfl)) ?_
  intro W base args ds gs before hval0 hW hcnd hsz0 _
  have hsz : (DataW.weightsEach Tryz.prog (Tryz.f4.params.toList ++ Rows.pqTrainsSpec.plain.varTypes Tryz.prog) (ds ++ gs)).all (· ≤ reachBytes) = true := hsz0
  have hval : ∀ (j : Nat) t v, Tryz.f4.params[j]? = some t → args[j]? = some v → Value.okWide Tryz.prog W .any base t v := hval0
  have hW' := hW
  obtain ⟨p, q, hA0, hV, rfl, hfz, hnd⟩ := hW
  have hA : DataW.TrodAll enc Tryz.prog W 0 (fun _ => true) true Tryz.f4.params.toList args.toList ds p := hA0
  rw [Tryz.params4] at hA hval hsz
  obtain ⟨v0, vs0, d0, ds0, p0, q0, hargs, rfl, rfl, h0, r0⟩ := trodAll_cons hA
  obtain ⟨v1, vs1, d1, ds1, p1, q1, rfl, rfl, rfl, h1, r1⟩ := trodAll_cons r0
  obtain ⟨rfl, rfl, rfl⟩ := trodAll_nil r1
  obtain rfl : args = #[v0, v1] := by cases args; simp_all
  obtain ⟨rfl, rfl⟩ := trodVars_none hV
  obtain ⟨a0, len0, cap0, rfl⟩ := okWide_slice Tryz.underlying62 (hval 0 62 v0 rfl rfl)
  have k0 := h0
  have lt0 : ∀ x ∈ p0, x.block < W.heap.size := by obtain ⟨m, hm⟩ := k0; exact DataW.trod_lt m _ _ _ hm
  obtain ⟨x0, e0, hc0, hm0, rd0, ok0, nl0⟩ := opened_vecs (j := 0) Tryz.underlying62 Tryz.underlying25 Tryz.underlying74 (by kernel_rfl) (by kernel_rfl) (by kernel_rfl) (by kernel_rfl) hsz rfl rfl h0
  subst e0
  have k1 := h1
  have lt1 : ∀ x ∈ p1, x.block < W.heap.size := by obtain ⟨m, hm⟩ := k1; exact DataW.trod_lt m _ _ _ hm
  obtain ⟨a10, a11, a12, a13, rfl, w10, w11, w12, w13⟩ := opened_ints4 Tryz.underlying65 (by kernel_rfl) (show Tryz.prog.cellsOf 65 = 4 by kernel_rfl) rfl rfl rfl rfl Tryz.underlying3 Tryz.underlying3 Tryz.underlying3 Tryz.underlying63 (hval 1 65 v1 rfl rfl) h1
  clear hA0 hval0
  refine (walk a0 cap0 x0 a10 a11 a12 a13 W rd0 ok0 hc0 hm0 nl0 w10 w11 w12 w13).mono fun e W' ⟨he, bel⟩ => ?_
  subst he
  exact ⟨_, rfl, _, _, _, [], _, [], hW', trodAll_mk1 (shut_bool Tryz.underlying4 _), (trodAll_cons_mk (Below.trod laidOut (by kernel_rfl) (of_decide_eq_true (by kernel_rfl)) k0 bel lt0) (trodAll_cons_mk (Below.trod laidOut (by kernel_rfl) (of_decide_eq_true (by kernel_rfl)) k1 bel lt1) trodAll_mk0)), rfl, bel.frame _, fun h => by cases h⟩

theorem over : Rows.pqTrainsRow.holds Tryz.pinned (OpenSpec.ofChange Rows.pqTrainsSpec) :=
  OpenClaim.holds_of_wide 4 Tryz.f4 rfl rfl rfl rfl rfl rfl rfl ⟨rfl, rfl, rfl, rfl, rfl⟩ rfl rfl rfl rfl rfl (by kernel_rfl) Tryz.func4 (by kernel_rfl)
    (of_decide_eq_true (by kernel_rfl)) (by unfold Func.isWrapper; first | (rw [if_pos (by decide +kernel)]; kernel_rfl) | (rw [if_neg (by decide +kernel)]; exact ⟨rfl, rfl⟩))
    (fun os started H enc _ => lifted os started H enc)

theorem proved : Rows.PqTrainsSaid := over
#print axioms proved
end Go.Proofs.YthbimjkcpmffcaaGreat.pqTrains
