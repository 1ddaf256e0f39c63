/- PqCodes holds: whatever book, whatever vector and whatever number are handed in, the call answers true and they read afterwards as they did. No condition but the form's own (each slice that is read takes at most 2^47 - 4096 bytes). -/
import Derived.Test.YthbimjkcpmffcaaGreatRows
import Derived.Test.YthbimjkcpmffcaaGreatZ1
import Derived.Test.YthbimjkcpmffcaaGreatWd
import Derived.Test.YthbimjkcpmffcaaGreatWh
import Derived.Test.YthbimjkcpmffcaaGreatWj
import Derived.Test.YthbimjkcpmffcaaGreatWu
import Derived.WalkKit
import Derived.ProofKit
import Derived.OpenShut
import Derived.ChangeOld
import Derived.SizedLaws
import Derived.Below
namespace Go.Proofs.YthbimjkcpmffcaaGreat.pqCodes
open Go.ChangeShapes Go.WideShapes Go.ChangeAt Go.RowKit
set_option linter.unusedVariables false

theorem own : ownKnob Tryz.prog.godebug = none := by kernel_rfl
theorem laidOut : laidOutB Tryz.prog = true := by kernel_rfl
theorem walk (P : Int) (A : Option Addr) (c : Nat) (L : List Pc) (B : Option Addr) (d : Nat) (v : List Int) (D : Int) (w : World) (wP : (Lit.int .i64 P).wf = true) (okx : PsOk w A c L)
    (hy : Rd .i8 w w.heap.size B v) (wy : ∀ n ∈ v, (Lit.int .i8 n).wf = true) (hly : v.length ≤ d) (hmy : d ≤ 140737488351232) (hnily : B = none → d = 0) (wd : (Lit.int .i64 D).wf = true) :
    Calls Tryz.prog 3 #[.agg #[.int .i64 P, .slice A L.length c], .slice B v.length d, .int .i64 D] w fun e w' => e = .returned (.bool true) ∧ Below w.heap.size w w' := by
  exact pqCodes_main check_any encode_spec table_spec P A c L B d v D w okx.given (givenV_of hy wy hly hmy)
set_option maxRecDepth 100000 in
theorem lifted (os : Os) (started : os.Started) (H : Type) (enc : TypeId × Value → H) :
    ReturnsInHanded {} Tryz.checked os 3 .any (Rows.pqCodesSpec.pre6 enc Tryz.prog Tryz.f3 Rows.pqCodesRow.domain false) (Rows.pqCodesSpec.post enc Tryz.prog Tryz.f3 false true false false) := by
  refine returnsInHanded_of_change_sized (C := Tryz.checked) own started (by kernel_rfl) Tryz.func3
    (ChangeSpec.witness6 (enc := enc) (C := Tryz.checked) false ⟨#[], #[.agg #[.int .i64 0, .slice none 0 0], .slice none 0 0, .int .i64 0], []⟩ 8 (by kernel_rfl) (by kernel_rfl) (by kernel_rfl) (by kernel_rfl)) ?_
  intro W base args ds gs before hval0 hW hcnd hsz0 _
  have hsz : (DataW.weightsEach Tryz.prog (Tryz.f3.params.toList ++ Rows.pqCodesSpec.plain.varTypes Tryz.prog) (ds ++ gs)).all (· ≤ reachBytes) = true := hsz0
  have hval : ∀ (j : Nat) t v, Tryz.f3.params[j]? = some t → args[j]? = some v → Value.okWide Tryz.prog W .any base t v := hval0
  have hW' := hW
  obtain ⟨p, q, hA0, hV, rfl, hfz, hnd⟩ := hW
  have hA : DataW.TrodAll enc Tryz.prog W 0 (fun _ => true) true Tryz.f3.params.toList args.toList ds p := hA0
  rw [Tryz.params3] at hA hval hsz
  obtain ⟨v0, vs0, d0, ds0, p0, q0, hargs, rfl, rfl, h0, r0⟩ := trodAll_cons hA
  obtain ⟨v1, vs1, d1, ds1, p1, q1, rfl, rfl, rfl, h1, r1⟩ := trodAll_cons r0
  obtain ⟨v2, vs2, d2, ds2, p2, q2, rfl, rfl, rfl, h2, r2⟩ := trodAll_cons r1
  obtain ⟨rfl, rfl, rfl⟩ := trodAll_nil r2
  obtain rfl : args = #[v0, v1, v2] := by cases args; simp_all
  obtain ⟨rfl, rfl⟩ := trodVars_none hV
  obtain ⟨a1, len1, cap1, rfl⟩ := okWide_slice Tryz.underlying25 (hval 1 25 v1 rfl rfl)
  have k1 := h1
  have lt1 : ∀ x ∈ p1, x.block < W.heap.size := by obtain ⟨m, hm⟩ := k1; exact DataW.trod_lt m _ _ _ hm
  obtain ⟨x1, e1, hc1, hm1, rd1, wf1, nl1⟩ := opened (j := 1) Tryz.underlying25 Tryz.underlying74 (by kernel_rfl) (show Tryz.prog.bytesOf 74 = 1 by kernel_rfl) hsz rfl rfl h1
  subst e1
  have k0 := h0
  have lt0 : ∀ x ∈ p0, x.block < W.heap.size := by obtain ⟨m, hm⟩ := k0; exact DataW.trod_lt m _ _ _ hm
  obtain ⟨K0, a0, cap0, x0, rfl, w0, ok0⟩ := opened_book (j := 0) Tryz.underlying24 (by kernel_rfl) (show Tryz.prog.cellsOf 24 = 2 by kernel_rfl) rfl rfl Tryz.underlying3 Tryz.underlying22 Tryz.underlying62 Tryz.underlying25 Tryz.underlying74 (by kernel_rfl) (by kernel_rfl) (by kernel_rfl) (by kernel_rfl) (by kernel_rfl) (by kernel_rfl) hsz rfl rfl (hval 0 24 v0 rfl rfl) h0
  obtain ⟨i2, rfl, rfl, rfl, w2⟩ := open_int Tryz.underlying3 (hval 2 3 v2 rfl rfl) h2
  clear hA0 hval0
  refine (walk K0 a0 cap0 x0 a1 cap1 x1 i2 W w0 ok0 rd1 wf1 hc1 (by omega) nl1 w2).mono fun e W' ⟨he, bel⟩ => ?_
  subst he
  exact ⟨_, rfl, _, _, _, [], _, [], hW', trodAll_mk1 (shut_bool Tryz.underlying4 _), (trodAll_cons_mk (Below.trod laidOut (by kernel_rfl) (of_decide_eq_true (by kernel_rfl)) k0 bel lt0) (trodAll_cons_mk (Below.trod laidOut (by kernel_rfl) (of_decide_eq_true (by kernel_rfl)) k1 bel lt1) (trodAll_cons_mk (shut_int Tryz.underlying3 w2) trodAll_mk0))), rfl, bel.frame _, fun h => by cases h⟩

theorem over : Rows.pqCodesRow.holds Tryz.pinned (OpenSpec.ofChange Rows.pqCodesSpec) :=
  OpenClaim.holds_of_wide 3 Tryz.f3 rfl rfl rfl rfl rfl rfl rfl ⟨rfl, rfl, rfl, rfl, rfl⟩ rfl rfl rfl rfl rfl (by kernel_rfl) Tryz.func3 (by kernel_rfl)
    (of_decide_eq_true (by kernel_rfl)) (by unfold Func.isWrapper; first | (rw [if_pos (by decide +kernel)]; kernel_rfl) | (rw [if_neg (by decide +kernel)]; exact ⟨rfl, rfl⟩))
    (fun os started H enc _ => lifted os started H enc)

theorem proved : Rows.PqCodesSaid := over
#print axioms proved
end Go.Proofs.YthbimjkcpmffcaaGreat.pqCodes
