/- MeansHalves holds: whatever means, whatever two lists of vectors and whatever mean more are handed in, the call answers true and they read afterwards as they did. No condition but the form's own (each slice that is read takes at most 2^47 - 4096 bytes). -/
import Derived.Test.YtcakmcegcbameaaRows
import Derived.Test.YtcakmcegcbameaaNy
import Derived.Test.YtcakmcegcbameaaMn
import Derived.Test.YtcakmcegcbameaaMi
import Derived.Test.YtcakmcegcbameaaAw
import Derived.WalkKit
import Derived.ProofKit
import Derived.OpenShut
import Derived.ChangeOld
import Derived.SizedLaws
import Derived.Below
namespace Go.Proofs.Ytcakmcegcbameaa.meansHalves
open Go.ChangeShapes Go.WideShapes Go.ChangeAt Go.RowKit
set_option linter.unusedVariables false

theorem own : ownKnob Try.prog.godebug = none := by kernel_rfl
theorem laidOut : laidOutB Try.prog = true := by kernel_rfl
theorem walk (A : Option Addr) (c : Nat) (L : List Vc) (B : Option Addr) (d : Nat) (M : List Vc) (C : Option Addr) (q : Nat) (N : List Vc) (D : Option Addr) (s : Nat) (v : List Int) (w : World) (hx : RdV w w.heap.size A L) (okx : ∀ v ∈ L, VcOk w v) (hcx : L.length ≤ c) (hmx : c * 24 ≤ 140737488351232) (hnilx : A = none → c = 0)
    (oy : VsOk w B d M) (oz : VsOk w C q N)
    (hv : Rd .i8 w w.heap.size D v) (wv : ∀ n ∈ v, (Lit.int .i8 n).wf = true) (hlv : v.length ≤ s) (hmv : s ≤ 140737488351232) (hnilv : D = none → s = 0) :
    Calls Try.prog 6 #[.slice A L.length c, .agg #[.slice B M.length d, .slice C N.length q], .slice D v.length s] w fun e w' => e = .returned (.bool true) ∧ Below w.heap.size w w' := by
  have gx := VsOk.given (show VsOk w A c L from ⟨hx, okx, hcx, hmx, hnilx⟩)
  exact meansHalves_main step_spec cost_spec near_spec train_spec A c L B d M C q N D s v w gx.1 oy.given.1 oz.given.1 hnilx oy.2.2.2.2 oz.2.2.2.2 hv (by omega) (i8_wf2 wv)
set_option maxRecDepth 100000 in
theorem lifted (os : Os) (started : os.Started) (H : Type) (enc : TypeId × Value → H) :
    ReturnsInHanded {} Try.checked os 6 .any (Rows.meansHalvesSpec.pre6 enc Try.prog Try.f6 Rows.meansHalvesRow.domain false) (Rows.meansHalvesSpec.post enc Try.prog Try.f6 false true false false) := by
  refine returnsInHanded_of_change_sized (C := Try.checked) own started (by kernel_rfl) Try.func6
    (ChangeSpec.witness6 (enc := enc) (C := Try.checked) false ⟨#[], #[.slice none 0 0, .agg #[.slice none 0 0, .slice none 0 0], .slice none 0 0], []⟩ 8 (by kernel_rfl) (by kernel_rfl) (by kernel_rfl) (by kernel_rfl)) ?_
  intro W base args ds gs before hval0 hW hcnd hsz0 _
  have hsz : (DataW.weightsEach Try.prog (Try.f6.params.toList ++ Rows.meansHalvesSpec.plain.varTypes Try.prog) (ds ++ gs)).all (· ≤ reachBytes) = true := hsz0
  have hval : ∀ (j : Nat) t v, Try.f6.params[j]? = some t → args[j]? = some v → Value.okWide Try.prog W .any base t v := hval0
  have hW' := hW
  obtain ⟨p, q, hA0, hV, rfl, hfz, hnd⟩ := hW
  have hA : DataW.TrodAll enc Try.prog W 0 (fun _ => true) true Try.f6.params.toList args.toList ds p := hA0
  rw [Try.params6] at hA hval hsz
  obtain ⟨v0, vs0, d0, ds0, p0, q0, hargs, rfl, rfl, h0, r0⟩ := trodAll_cons hA
  obtain ⟨v1, vs1, d1, ds1, p1, q1, rfl, rfl, rfl, h1, r1⟩ := trodAll_cons r0
  obtain ⟨v2, vs2, d2, ds2, p2, q2, rfl, rfl, rfl, h2, r2⟩ := trodAll_cons r1
  obtain ⟨rfl, rfl, rfl⟩ := trodAll_nil r2
  obtain rfl : args = #[v0, v1, v2] := by cases args; simp_all
  obtain ⟨rfl, rfl⟩ := trodVars_none hV
  obtain ⟨a2, len2, cap2, rfl⟩ := okWide_slice Try.underlying23 (hval 2 23 v2 rfl rfl)
  have k2 := h2
  have lt2 : ∀ x ∈ p2, x.block < W.heap.size := by obtain ⟨m, hm⟩ := k2; exact DataW.trod_lt m _ _ _ hm
  obtain ⟨x2, e2, hc2, hm2, rd2, wf2, nl2⟩ := opened (j := 2) Try.underlying23 Try.underlying52 (by kernel_rfl) (show Try.prog.bytesOf 52 = 1 by kernel_rfl) hsz rfl rfl h2
  subst e2
  obtain ⟨a0, len0, cap0, rfl⟩ := okWide_slice Try.underlying22 (hval 0 22 v0 rfl rfl)
  have k0 := h0
  have lt0 : ∀ x ∈ p0, x.block < W.heap.size := by obtain ⟨m, hm⟩ := k0; exact DataW.trod_lt m _ _ _ hm
  obtain ⟨x0, e0, hc0, hm0, rd0, ok0, nl0⟩ := opened_vecs (j := 0) Try.underlying22 Try.underlying23 Try.underlying52 (by kernel_rfl) (by kernel_rfl) (by kernel_rfl) (by kernel_rfl) hsz rfl rfl h0
  subst e0
  have k1 := h1
  have lt1 : ∀ x ∈ p1, x.block < W.heap.size := by obtain ⟨m, hm⟩ := k1; exact DataW.trod_lt m _ _ _ hm
  obtain ⟨a1, c1, x1, b1, m1, y1, rfl, ox1, oy1⟩ := opened_arr2v (j := 1) Try.underlying40 Try.underlying22 Try.underlying23 Try.underlying52 (by kernel_rfl) (show Try.prog.cellsOf 40 = 2 by kernel_rfl) (by kernel_rfl) (by kernel_rfl) (by kernel_rfl) (by kernel_rfl) hsz rfl rfl (hval 1 40 v1 rfl rfl) h1
  clear hA0 hval0
  refine (walk a0 cap0 x0 a1 c1 x1 b1 m1 y1 a2 cap2 x2 W rd0 ok0 hc0 hm0 nl0 ox1 oy1 rd2 wf2 hc2 (by omega) nl2).mono fun e W' ⟨he, bel⟩ => ?_
  subst he
  exact ⟨_, rfl, _, _, _, [], _, [], hW', trodAll_mk1 (shut_bool Try.underlying4 _), (trodAll_cons_mk (Below.trod laidOut (by kernel_rfl) (of_decide_eq_true (by kernel_rfl)) k0 bel lt0) (trodAll_cons_mk (Below.trod laidOut (by kernel_rfl) (of_decide_eq_true (by kernel_rfl)) k1 bel lt1) (trodAll_cons_mk (Below.trod laidOut (by kernel_rfl) (of_decide_eq_true (by kernel_rfl)) k2 bel lt2) trodAll_mk0))), rfl, bel.frame _, fun h => by cases h⟩

theorem over : Rows.meansHalvesRow.holds Try.pinned (OpenSpec.ofChange Rows.meansHalvesSpec) :=
  OpenClaim.holds_of_wide 6 Try.f6 rfl rfl rfl rfl rfl rfl rfl ⟨rfl, rfl, rfl, rfl, rfl⟩ rfl rfl rfl rfl rfl (by kernel_rfl) Try.func6 (by kernel_rfl)
    (of_decide_eq_true (by kernel_rfl)) (by unfold Func.isWrapper; first | (rw [if_pos (by decide +kernel)]; kernel_rfl) | (rw [if_neg (by decide +kernel)]; exact ⟨rfl, rfl⟩))
    (fun os started H enc _ => lifted os started H enc)

theorem proved : Rows.MeansHalvesSaid := over
#print axioms proved
end Go.Proofs.Ytcakmcegcbameaa.meansHalves
