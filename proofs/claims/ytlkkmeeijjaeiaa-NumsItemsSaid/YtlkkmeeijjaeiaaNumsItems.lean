/- NumsItems holds: whatever item is handed in, the call answers true and it reads afterwards as it did. No condition but the form's own (each slice that is read takes at most 2^47 - 4096 bytes). -/
import Derived.Test.YtlkkmeeijjaeiaaRows
import Derived.Test.YtlkkmeeijjaeiaaCc
import Derived.Test.YtlkkmeeijjaeiaaS
import Derived.WalkKit
import Derived.ProofKit
import Derived.OpenShut
import Derived.ChangeOld
import Derived.SizedLaws
import Derived.Below
namespace Go.Proofs.Ytlkkmeeijjaeiaa.numsItems
open Go.ChangeShapes Go.WideShapes Go.ChangeAt Go.RowKit
set_option linter.unusedVariables false

theorem own : ownKnob Try.prog.godebug = none := by kernel_rfl
theorem laidOut : laidOutB Try.prog = true := by kernel_rfl
theorem walk (id : Int) (V : Option Addr) (cv : Nat) (vs : List Int) (w : World) (hid : (Lit.int .u64 id).wf = true) (hv : Rd .i8 w w.heap.size V vs) (hvw : ∀ n ∈ vs, (Lit.int .i8 n).wf = true) (hcv : vs.length ≤ cv) (hmv : cv ≤ 140737488351232) (hvn : V = none → cv = 0) :
    Calls Try.prog 5 #[.agg #[.int .u64 id, .slice V vs.length cv]] w fun e w' => e = .returned (.bool true) ∧ Below w.heap.size w w' := by
  have h0 := u64_of_wf hid
  cases hbey : bey [(vs.length : Int)] with
  | true => exact numsItems_far id V vs.length cv w (by omega) hbey
  | false =>
    by_cases h : 4611686018427387903 < id ∨ isDimB vs.length = false
    · exact numsItems_main id V cv vs w hcv hmv hbey hv 1 [] (by simp) (fun T tc W _ => (putItem_no id T vs.length tc W h h0.1 (by omega)).mono fun e w' ⟨h1, h2⟩ => putRes_no h1 h2) (fun T tc W _ => (refPutItem_no id T vs.length tc W h h0.1 (by omega)).mono fun e w' ⟨h1, h2⟩ => putRes_no h1 h2)
    · obtain ⟨N, rfl⟩ := Int.eq_ofNat_of_zero_le h0.1
      have hd : isDimB (vs.length : Int) = true := by
        cases hd : isDimB (vs.length : Int) with
        | true => rfl
        | false => exact absurd (.inr hd) h
      obtain ⟨d1, d2⟩ := isDim_of hd
      have hN : N ≤ 4611686018427387903 := by have : ¬ 4611686018427387903 < (N : Int) := fun hh => h (.inl hh); omega
      have hL : (putItemL N vs).length ≤ 1000 := by
        have h1 := putL_len9 N hN
        have h2 := putL_len9 vs.length (by omega)
        simp only [putItemL, List.length_append, List.length_map]
        omega
      exact numsItems_main N V cv vs w hcv hmv hbey hv 0 (putItemL N vs) hL (fun T tc W hr => (putItem_yes N T vs vs.length tc rfl W hN d1 d2 hr (i8_of_wf hvw)).mono fun e w' h => putRes_yes h) (fun T tc W hr => (refPutItem_yes N T vs vs.length tc rfl W hN d1 d2 hr (i8_of_wf hvw)).mono fun e w' h => putRes_yes h)
set_option maxRecDepth 100000 in
theorem lifted (os : Os) (started : os.Started) (H : Type) (enc : TypeId × Value → H) :
    ReturnsInHanded {} Try.checked os 5 .any (Rows.numsItemsSpec.pre6 enc Try.prog Try.f5 Rows.numsItemsRow.domain false) (Rows.numsItemsSpec.post enc Try.prog Try.f5 false true false false) := by
  refine returnsInHanded_of_change_sized (C := Try.checked) own started (by kernel_rfl) Try.func5
    (ChangeSpec.witness6 (enc := enc) (C := Try.checked) false ⟨#[], #[.agg #[.int .u64 0, .slice none 0 0]], []⟩ 8 (by kernel_rfl) (by kernel_rfl) (by kernel_rfl) (by kernel_rfl)) ?_
  intro W base args ds gs before hval0 hW hcnd hsz0 _
  have hsz : (DataW.weightsEach Try.prog (Try.f5.params.toList ++ Rows.numsItemsSpec.plain.varTypes Try.prog) (ds ++ gs)).all (· ≤ reachBytes) = true := hsz0
  have hval : ∀ (j : Nat) t v, Try.f5.params[j]? = some t → args[j]? = some v → Value.okWide Try.prog W .any base t v := hval0
  have hW' := hW
  obtain ⟨p, q, hA0, hV, rfl, hfz, hnd⟩ := hW
  have hA : DataW.TrodAll enc Try.prog W 0 (fun _ => true) true Try.f5.params.toList args.toList ds p := hA0
  rw [Try.params5] at hA hval hsz
  obtain ⟨v0, vs0, d0, ds0, p0, q0, hargs, rfl, rfl, h0, r0⟩ := trodAll_cons hA
  obtain ⟨rfl, rfl, rfl⟩ := trodAll_nil r0
  obtain rfl : args = #[v0] := by cases args; simp_all
  obtain ⟨rfl, rfl⟩ := trodVars_none hV
  have k0 := h0
  have lt0 : ∀ x ∈ p0, x.block < W.heap.size := by obtain ⟨m, hm⟩ := k0; exact DataW.trod_lt m _ _ _ hm
  obtain ⟨id0, V0, cap0, x0, rfl, wid0, hc0, hm0, rd0, wf0, nl0⟩ := opened_item (j := 0) Try.underlying54 (by kernel_rfl) (show Try.prog.cellsOf 54 = 2 by kernel_rfl) rfl rfl Try.underlying22 Try.underlying52 Try.underlying74 (by kernel_rfl) (by kernel_rfl) hsz rfl rfl (hval 0 54 v0 rfl rfl) h0
  clear hA0 hval0
  refine (walk id0 V0 cap0 x0 W wid0 rd0 wf0 hc0 hm0 nl0).mono fun e W' ⟨he, bel⟩ => ?_
  subst he
  exact ⟨_, rfl, _, _, _, [], _, [], hW', trodAll_mk1 (shut_bool Try.underlying4 _), (trodAll_cons_mk (Below.trod laidOut (by kernel_rfl) (of_decide_eq_true (by kernel_rfl)) k0 bel lt0) trodAll_mk0), rfl, bel.frame _, fun h => by cases h⟩

theorem over : Rows.numsItemsRow.holds Try.pinned (OpenSpec.ofChange Rows.numsItemsSpec) :=
  OpenClaim.holds_of_wide 5 Try.f5 rfl rfl rfl rfl rfl rfl rfl ⟨rfl, rfl, rfl, rfl, rfl⟩ rfl rfl rfl rfl rfl (by kernel_rfl) Try.func5 (by kernel_rfl)
    (of_decide_eq_true (by kernel_rfl)) (by unfold Func.isWrapper; first | (rw [if_pos (by decide +kernel)]; kernel_rfl) | (rw [if_neg (by decide +kernel)]; exact ⟨rfl, rfl⟩))
    (fun os started H enc _ => lifted os started H enc)

theorem proved : Rows.NumsItemsSaid := over
#print axioms proved
end Go.Proofs.Ytlkkmeeijjaeiaa.numsItems
