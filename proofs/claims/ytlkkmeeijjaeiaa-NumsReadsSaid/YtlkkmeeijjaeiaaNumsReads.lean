/- NumsReads holds: whatever bytes are handed in, the call answers true and the bytes read afterwards as they did. No condition but the form's own (each slice that is read takes at most 2^47 - 4096 bytes). -/
import Derived.Test.YtlkkmeeijjaeiaaRows
import Derived.Test.YtlkkmeeijjaeiaaGg
import Derived.Test.YtlkkmeeijjaeiaaF
import Derived.WalkKit
import Derived.ProofKit
import Derived.OpenShut
import Derived.ChangeOld
import Derived.SizedLaws
import Derived.Below
namespace Go.Proofs.Ytlkkmeeijjaeiaa.numsReads
open Go.ChangeShapes Go.WideShapes Go.ChangeAt Go.RowKit
set_option linter.unusedVariables false

theorem own : ownKnob Try.prog.godebug = none := by kernel_rfl
theorem laidOut : laidOutB Try.prog = true := by kernel_rfl
theorem walk (A : Option Addr) (c : Nat) (xs : List Int) (w : World) (hx : Rd .u8 w w.heap.size A xs) (hwf : ∀ n ∈ xs, (Lit.int .u8 n).wf = true) (hc : xs.length ≤ c) (hm : c ≤ 140737488351232) (hnil : A = none → c = 0) :
    Calls Try.prog 6 #[.slice A xs.length c] w fun e w' => e = .returned (.bool true) ∧ Below w.heap.size w w' := by
  have hb := byte_of_wf hwf
  cases hbey : bey [(xs.length : Int)] with
  | true => exact numsReads_far A c xs w hc hm hbey
  | false =>
    by_cases h : itE xs = 0
    · obtain ⟨_, _, hd, _⟩ := itE_zero h
      have hys : ((itV xs).map sgn).length ≤ 1000 := by
        rw [List.length_map]
        unfold itV
        rw [List.length_take]
        unfold isDimB at hd
        simp at hd
        omega
      exact numsReads_main A c xs w hx hc hm hbey (getN xs) (itK xs) 0 ((itV xs).map sgn) hys (fun T tc W hr h1 h2 => (getItem_good T tc xs _ rfl W hr hb h1 (by omega) h).mono fun e w' h => getRes_yes h) (fun T tc W hr h1 h2 => (refGetItem_good T tc xs W hr hb h1 (by omega) h).mono fun e w' h => getRes_ref h)
    · exact numsReads_main A c xs w hx hc hm hbey 0 0 (itE xs) [] (by simp) (fun T tc W hr h1 h2 => (getItem_bad T tc xs _ rfl W hr hb h1 (by omega) h).mono fun e w' h => getRes_no h) (fun T tc W hr h1 h2 => (refGetItem_bad T tc xs W hr hb h1 (by omega) h).mono fun e w' h => getRes_no h)
set_option maxRecDepth 100000 in
theorem lifted (os : Os) (started : os.Started) (H : Type) (enc : TypeId × Value → H) :
    ReturnsInHanded {} Try.checked os 6 .any (Rows.numsReadsSpec.pre6 enc Try.prog Try.f6 Rows.numsReadsRow.domain false) (Rows.numsReadsSpec.post enc Try.prog Try.f6 false true false false) := by
  refine returnsInHanded_of_change_sized (C := Try.checked) own started (by kernel_rfl) Try.func6
    (ChangeSpec.witness6 (enc := enc) (C := Try.checked) false ⟨#[], #[.slice none 0 0], []⟩ 8 (by kernel_rfl) (by kernel_rfl) (by kernel_rfl) (by kernel_rfl)) ?_
  intro W base args ds gs before hval0 hW hcnd hsz0 _
  have hsz : (DataW.weightsEach Try.prog (Try.f6.params.toList ++ Rows.numsReadsSpec.plain.varTypes Try.prog) (ds ++ gs)).all (· ≤ reachBytes) = true := hsz0
  have hval : ∀ (j : Nat) t v, Try.f6.params[j]? = some t → args[j]? = some v → Value.okWide Try.prog W .any base t v := hval0
  have hW' := hW
  obtain ⟨p, q, hA0, hV, rfl, hfz, hnd⟩ := hW
  have hA : DataW.TrodAll enc Try.prog W 0 (fun _ => true) true Try.f6.params.toList args.toList ds p := hA0
  rw [Try.params6] at hA hval hsz
  obtain ⟨v0, vs0, d0, ds0, p0, q0, hargs, rfl, rfl, h0, r0⟩ := trodAll_cons hA
  obtain ⟨rfl, rfl, rfl⟩ := trodAll_nil r0
  obtain rfl : args = #[v0] := by cases args; simp_all
  obtain ⟨rfl, rfl⟩ := trodVars_none hV
  obtain ⟨a0, len0, cap0, rfl⟩ := okWide_slice Try.underlying23 (hval 0 23 v0 rfl rfl)
  have k0 := h0
  have lt0 : ∀ x ∈ p0, x.block < W.heap.size := by obtain ⟨m, hm⟩ := k0; exact DataW.trod_lt m _ _ _ hm
  obtain ⟨x0, e0, hc0, hm0, rd0, wf0, nl0⟩ := opened (j := 0) Try.underlying23 Try.underlying5 (by kernel_rfl) (show Try.prog.bytesOf 5 = 1 by kernel_rfl) hsz rfl rfl h0
  subst e0
  clear hA0 hval0
  refine (walk a0 cap0 x0 W rd0 wf0 hc0 (by omega) nl0).mono fun e W' ⟨he, bel⟩ => ?_
  subst he
  exact ⟨_, rfl, _, _, _, [], _, [], hW', trodAll_mk1 (shut_bool Try.underlying4 _), (trodAll_cons_mk (Below.trod laidOut (by kernel_rfl) (of_decide_eq_true (by kernel_rfl)) k0 bel lt0) trodAll_mk0), rfl, bel.frame _, fun h => by cases h⟩

theorem over : Rows.numsReadsRow.holds Try.pinned (OpenSpec.ofChange Rows.numsReadsSpec) :=
  OpenClaim.holds_of_wide 6 Try.f6 rfl rfl rfl rfl rfl rfl rfl ⟨rfl, rfl, rfl, rfl, rfl⟩ rfl rfl rfl rfl rfl (by kernel_rfl) Try.func6 (by kernel_rfl)
    (of_decide_eq_true (by kernel_rfl)) (by unfold Func.isWrapper; first | (rw [if_pos (by decide +kernel)]; kernel_rfl) | (rw [if_neg (by decide +kernel)]; exact ⟨rfl, rfl⟩))
    (fun os started H enc _ => lifted os started H enc)

theorem proved : Rows.NumsReadsSaid := over
#print axioms proved
end Go.Proofs.Ytlkkmeeijjaeiaa.numsReads
