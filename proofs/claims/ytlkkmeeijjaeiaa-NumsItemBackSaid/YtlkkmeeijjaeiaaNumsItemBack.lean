/- NumsItemBack holds: whatever item and whatever bytes are handed in, the call answers true and they read afterwards as they did. No condition but the form's own (each slice that is read takes at most 2^47 - 4096 bytes). -/
import Derived.Test.YtlkkmeeijjaeiaaRows
import Derived.Test.YtlkkmeeijjaeiaaN
import Derived.Test.YtlkkmeeijjaeiaaS
import Derived.WalkKit
import Derived.ProofKit
import Derived.OpenShut
import Derived.ChangeOld
import Derived.SizedLaws
import Derived.Below
namespace Go.Proofs.Ytlkkmeeijjaeiaa.numsItemBack
open Go.ChangeShapes Go.WideShapes Go.ChangeAt Go.RowKit
set_option linter.unusedVariables false

theorem own : ownKnob Try.prog.godebug = none := by kernel_rfl
theorem laidOut : laidOutB Try.prog = true := by kernel_rfl
theorem walk (id : Int) (V : Option Addr) (cv : Nat) (vs : List Int) (A : Option Addr) (c : Nat) (ys : List Int) (w : World) (hid : (Lit.int .u64 id).wf = true) (hv : Rd .i8 w w.heap.size V vs) (hvw : ∀ n ∈ vs, (Lit.int .i8 n).wf = true) (hcv : vs.length ≤ cv) (hmv : cv ≤ 140737488351232) (hvn : V = none → cv = 0)
    (hx : Rd .u8 w w.heap.size A ys) (hwf : ∀ n ∈ ys, (Lit.int .u8 n).wf = true) (hc : ys.length ≤ c) (hm : c ≤ 140737488351232) (hnil : A = none → c = 0) :
    Calls Try.prog 10 #[.agg #[.int .u64 id, .slice V vs.length cv], .slice A ys.length c] w fun e w' => e = .returned (.bool true) ∧ Below w.heap.size w w' := by
  have h0 := u64_of_wf hid
  cases hbey : bey [(vs.length : Int), (ys.length : Int)] with
  | true => exact numsItemBack_far id V A vs.length cv c ys w (by omega) hc hm hbey
  | false =>
    by_cases h : 4611686018427387903 < id ∨ isDimB vs.length = false
    · exact numsItemBack_no id V A vs.length cv c ys w (by omega) hc hm hbey h0.1 h
    · obtain ⟨N, rfl⟩ := Int.eq_ofNat_of_zero_le h0.1
      have hd : isDimB (vs.length : Int) = true := by
        cases hd : isDimB (vs.length : Int) with
        | true => rfl
        | false => exact absurd (.inr hd) h
      obtain ⟨d1, d2⟩ := isDim_of hd
      exact numsItemBack_yes N V A vs vs.length cv c rfl ys w hc hm hbey (by have : ¬ 4611686018427387903 < (N : Int) := fun hh => h (.inl hh); omega) d1 d2 hv (i8_of_wf hvw) hx (byte_of_wf hwf) hnil
set_option maxRecDepth 100000 in
theorem lifted (os : Os) (started : os.Started) (H : Type) (enc : TypeId × Value → H) :
    ReturnsInHanded {} Try.checked os 10 .any (Rows.numsItemBackSpec.pre6 enc Try.prog Try.f10 Rows.numsItemBackRow.domain false) (Rows.numsItemBackSpec.post enc Try.prog Try.f10 false true false false) := by
  refine returnsInHanded_of_change_sized (C := Try.checked) own started (by kernel_rfl) Try.func10
    (ChangeSpec.witness6 (enc := enc) (C := Try.checked) false ⟨#[], #[.agg #[.int .u64 0, .slice none 0 0], .slice none 0 0], []⟩ 8 (by kernel_rfl) (by kernel_rfl) (by kernel_rfl) (by kernel_rfl)) ?_
  intro W base args ds gs before hval0 hW hcnd hsz0 _
  have hsz : (DataW.weightsEach Try.prog (Try.f10.params.toList ++ Rows.numsItemBackSpec.plain.varTypes Try.prog) (ds ++ gs)).all (· ≤ reachBytes) = true := hsz0
  have hval : ∀ (j : Nat) t v, Try.f10.params[j]? = some t → args[j]? = some v → Value.okWide Try.prog W .any base t v := hval0
  have hW' := hW
  obtain ⟨p, q, hA0, hV, rfl, hfz, hnd⟩ := hW
  have hA : DataW.TrodAll enc Try.prog W 0 (fun _ => true) true Try.f10.params.toList args.toList ds p := hA0
  rw [Try.params10] at hA hval hsz
  obtain ⟨v0, vs0, d0, ds0, p0, q0, hargs, rfl, rfl, h0, r0⟩ := trodAll_cons hA
  obtain ⟨v1, vs1, d1, ds1, p1, q1, rfl, rfl, rfl, h1, r1⟩ := trodAll_cons r0
  obtain ⟨rfl, rfl, rfl⟩ := trodAll_nil r1
  obtain rfl : args = #[v0, v1] := by cases args; simp_all
  obtain ⟨rfl, rfl⟩ := trodVars_none hV
  obtain ⟨a1, len1, cap1, rfl⟩ := okWide_slice Try.underlying23 (hval 1 23 v1 rfl rfl)
  have k1 := h1
  have lt1 : ∀ x ∈ p1, x.block < W.heap.size := by obtain ⟨m, hm⟩ := k1; exact DataW.trod_lt m _ _ _ hm
  obtain ⟨x1, e1, hc1, hm1, rd1, wf1, nl1⟩ := opened (j := 1) Try.underlying23 Try.underlying5 (by kernel_rfl) (show Try.prog.bytesOf 5 = 1 by kernel_rfl) hsz rfl rfl h1
  subst e1
  have k0 := h0
  have lt0 : ∀ x ∈ p0, x.block < W.heap.size := by obtain ⟨m, hm⟩ := k0; exact DataW.trod_lt m _ _ _ hm
  obtain ⟨id0, V0, cap0, x0, rfl, wid0, hc0, hm0, rd0, wf0, nl0⟩ := opened_item (j := 0) Try.underlying54 (by kernel_rfl) (show Try.prog.cellsOf 54 = 2 by kernel_rfl) rfl rfl Try.underlying22 Try.underlying52 Try.underlying74 (by kernel_rfl) (by kernel_rfl) hsz rfl rfl (hval 0 54 v0 rfl rfl) h0
  clear hA0 hval0
  refine (walk id0 V0 cap0 x0 a1 cap1 x1 W wid0 rd0 wf0 hc0 hm0 nl0 rd1 wf1 hc1 (by omega) nl1).mono fun e W' ⟨he, bel⟩ => ?_
  subst he
  exact ⟨_, rfl, _, _, _, [], _, [], hW', trodAll_mk1 (shut_bool Try.underlying4 _), (trodAll_cons_mk (Below.trod laidOut (by kernel_rfl) (of_decide_eq_true (by kernel_rfl)) k0 bel lt0) (trodAll_cons_mk (Below.trod laidOut (by kernel_rfl) (of_decide_eq_true (by kernel_rfl)) k1 bel lt1) trodAll_mk0)), rfl, bel.frame _, fun h => by cases h⟩

theorem over : Rows.numsItemBackRow.holds Try.pinned (OpenSpec.ofChange Rows.numsItemBackSpec) :=
  OpenClaim.holds_of_wide 10 Try.f10 rfl rfl rfl rfl rfl rfl rfl ⟨rfl, rfl, rfl, rfl, rfl⟩ rfl rfl rfl rfl rfl (by kernel_rfl) Try.func10 (by kernel_rfl)
    (of_decide_eq_true (by kernel_rfl)) (by unfold Func.isWrapper; first | (rw [if_pos (by decide +kernel)]; kernel_rfl) | (rw [if_neg (by decide +kernel)]; exact ⟨rfl, rfl⟩))
    (fun os started H enc _ => lifted os started H enc)

theorem proved : Rows.NumsItemBackSaid := over
#print axioms proved
end Go.Proofs.Ytlkkmeeijjaeiaa.numsItemBack
