/- SumsSpoils holds: whatever bytes, whatever number and whatever four bytes are handed in, the call answers true and they read afterwards as they did. No condition but the form's own (each slice that is read takes at most 2^47 - 4096 bytes). -/
import Derived.Test.YtfjigfmjhfoecaaRows
import Derived.Test.YtfjigfmjhfoecaaP
import Derived.Test.YtfjigfmjhfoecaaS
import Derived.WalkKit
import Derived.ProofKit
import Derived.OpenShut
import Derived.ChangeOld
import Derived.SizedLaws
import Derived.Below
namespace Go.Proofs.Ytfjigfmjhfoecaa.sumsSpoils
open Go.ChangeShapes Go.WideShapes Go.ChangeAt Go.RowKit
set_option linter.unusedVariables false

theorem own : ownKnob Try.prog.godebug = none := by kernel_rfl
theorem laidOut : laidOutB Try.prog = true := by kernel_rfl
theorem u8_of {n : Int} (h : (Lit.int .u8 n).wf = true) : ∃ m : Nat, n = (m : Int) ∧ m < 256 := by
  have := byte_of_wf (xs := [n]) (by simpa using h) n (by simp)
  exact ⟨n.toNat, by omega, by omega⟩
theorem walk (A : Option Addr) (c : Nat) (xs : List Int) (o : Int) (b0 b1 b2 b3 : Int) (w : World) (hx : Rd .u8 w w.heap.size A xs) (hwf : ∀ n ∈ xs, (Lit.int .u8 n).wf = true) (hc : xs.length ≤ c) (hm : c ≤ 140737488351232) (hnil : A = none → c = 0) (h1 : (Lit.int .u32 o).wf = true) (g0 : (Lit.int .u8 b0).wf = true) (g1 : (Lit.int .u8 b1).wf = true) (g2 : (Lit.int .u8 b2).wf = true) (g3 : (Lit.int .u8 b3).wf = true) :
    Calls Try.prog 6 #[.slice A xs.length c, .int .u32 o, .agg #[.int .u8 b0, .int .u8 b1, .int .u8 b2, .int .u8 b3]] w fun e w' => e = .returned (.bool true) ∧ Below w.heap.size w w' := by
  have k1 := u32_of_wf h1
  obtain ⟨m0, rfl, l0⟩ := u8_of g0
  obtain ⟨m1, rfl, l1⟩ := u8_of g1
  obtain ⟨m2, rfl, l2⟩ := u8_of g2
  obtain ⟨m3, rfl, l3⟩ := u8_of g3
  obtain ⟨l, rfl, hl⟩ := ints_of (byte_of_wf hwf)
  obtain ⟨O, rfl⟩ := Int.eq_ofNat_of_zero_le k1.1
  have hq : ∀ j, (fun j => match j with | 0 => m0 | 1 => m1 | 2 => m2 | _ => m3 : Nat → Nat) j < 256 := fun j => by
    rcases j with _ | _ | _ | j <;> assumption
  rw [ints_len] at hc ⊢
  cases hbey : bey [(l.length : Int)] with
  | true => exact sumsSpoils_far A c l.length O (fun j => match j with | 0 => m0 | 1 => m1 | 2 => m2 | _ => m3) w (by omega) hbey
  | false =>
    by_cases hpos : 0 < l.length
    · exact sumsSpoils_near A c l O (fun j => match j with | 0 => m0 | 1 => m1 | 2 => m2 | _ => m3) w hx hl hq hc hm hnil hbey hpos (by omega)
    · have h0 : l.length = 0 := by omega
      rw [h0]
      exact sumsSpoils_none A c O (fun j => match j with | 0 => m0 | 1 => m1 | 2 => m2 | _ => m3) w
set_option maxRecDepth 100000 in
theorem lifted (os : Os) (started : os.Started) (H : Type) (enc : TypeId × Value → H) :
    ReturnsInHanded {} Try.checked os 6 .any (Rows.sumsSpoilsSpec.pre6 enc Try.prog Try.f6 Rows.sumsSpoilsRow.domain false) (Rows.sumsSpoilsSpec.post enc Try.prog Try.f6 false true false false) := by
  refine returnsInHanded_of_change_sized (C := Try.checked) own started (by kernel_rfl) Try.func6
    (ChangeSpec.witness6 (enc := enc) (C := Try.checked) false ⟨#[], #[.slice none 0 0, .int .u32 0, .agg #[.int .u8 0, .int .u8 0, .int .u8 0, .int .u8 0]], []⟩ 8 (by kernel_rfl) (by kernel_rfl) (by kernel_rfl) (by kernel_rfl)) ?_
  intro W base args ds gs before hval0 hW hcnd hsz0 _
  have hsz : (DataW.weightsEach Try.prog (Try.f6.params.toList ++ Rows.sumsSpoilsSpec.plain.varTypes Try.prog) (ds ++ gs)).all (· ≤ reachBytes) = true := hsz0
  have hval : ∀ (j : Nat) t v, Try.f6.params[j]? = some t → args[j]? = some v → Value.okWide Try.prog W .any base t v := hval0
  have hW' := hW
  obtain ⟨p, q, hA0, hV, rfl, hfz, hnd⟩ := hW
  have hA : DataW.TrodAll enc Try.prog W 0 (fun _ => true) true Try.f6.params.toList args.toList ds p := hA0
  rw [Try.params6] at hA hval hsz
  obtain ⟨v0, vs0, d0, ds0, p0, q0, hargs, rfl, rfl, h0, r0⟩ := trodAll_cons hA
  obtain ⟨v1, vs1, d1, ds1, p1, q1, rfl, rfl, rfl, h1, r1⟩ := trodAll_cons r0
  obtain ⟨v2, vs2, d2, ds2, p2, q2, rfl, rfl, rfl, h2, r2⟩ := trodAll_cons r1
  obtain ⟨rfl, rfl, rfl⟩ := trodAll_nil r2
  obtain rfl : args = #[v0, v1, v2] := by cases args; simp_all
  obtain ⟨rfl, rfl⟩ := trodVars_none hV
  obtain ⟨a0, len0, cap0, rfl⟩ := okWide_slice Try.underlying22 (hval 0 22 v0 rfl rfl)
  have k0 := h0
  have lt0 : ∀ x ∈ p0, x.block < W.heap.size := by obtain ⟨m, hm⟩ := k0; exact DataW.trod_lt m _ _ _ hm
  obtain ⟨x0, e0, hc0, hm0, rd0, wf0, nl0⟩ := opened (j := 0) Try.underlying22 Try.underlying5 (by kernel_rfl) (show Try.prog.bytesOf 5 = 1 by kernel_rfl) hsz rfl rfl h0
  subst e0
  have k2 := h2
  have lt2 : ∀ x ∈ p2, x.block < W.heap.size := by obtain ⟨m, hm⟩ := k2; exact DataW.trod_lt m _ _ _ hm
  obtain ⟨a20, a21, a22, a23, rfl, w20, w21, w22, w23⟩ := opened_arr4 Try.underlying34 Try.underlying5 (by kernel_rfl) (show Try.prog.cellsOf 34 = 4 by kernel_rfl) (hval 2 34 v2 rfl rfl) h2
  obtain ⟨i1, rfl, rfl, rfl, w1⟩ := open_int Try.underlying24 (hval 1 24 v1 rfl rfl) h1
  clear hA0 hval0
  refine (walk a0 cap0 x0 i1 a20 a21 a22 a23 W rd0 wf0 hc0 (by omega) nl0 w1 w20 w21 w22 w23).mono fun e W' ⟨he, bel⟩ => ?_
  subst he
  exact ⟨_, rfl, _, _, _, [], _, [], hW', trodAll_mk1 (shut_bool Try.underlying4 _), (trodAll_cons_mk (Below.trod laidOut (by kernel_rfl) (of_decide_eq_true (by kernel_rfl)) k0 bel lt0) (trodAll_cons_mk (shut_int Try.underlying24 w1) (trodAll_cons_mk (Below.trod laidOut (by kernel_rfl) (of_decide_eq_true (by kernel_rfl)) k2 bel lt2) trodAll_mk0))), rfl, bel.frame _, fun h => by cases h⟩

theorem over : Rows.sumsSpoilsRow.holds Try.pinned (OpenSpec.ofChange Rows.sumsSpoilsSpec) :=
  OpenClaim.holds_of_wide 6 Try.f6 rfl rfl rfl rfl rfl rfl rfl ⟨rfl, rfl, rfl, rfl, rfl⟩ rfl rfl rfl rfl rfl (by kernel_rfl) Try.func6 (by kernel_rfl)
    (of_decide_eq_true (by kernel_rfl)) (by unfold Func.isWrapper; first | (rw [if_pos (by decide +kernel)]; kernel_rfl) | (rw [if_neg (by decide +kernel)]; exact ⟨rfl, rfl⟩))
    (fun os started H enc _ => lifted os started H enc)

theorem proved : Rows.SumsSpoilsSaid := over
#print axioms proved
end Go.Proofs.Ytfjigfmjhfoecaa.sumsSpoils
