/- VecAlike holds: whatever two vectors are handed in, and however often each, the call answers true and they read afterwards as they did. No condition but the form's own (each slice that is read takes at most 2^47 - 4096 bytes). -/
import Derived.Test.YtegphnlfhcokfaaRows
import Derived.Test.YtegphnlfhcokfaaX
import Derived.Test.YtegphnlfhcokfaaAr
import Derived.WalkKit
import Derived.ProofKit
import Derived.OpenShut
import Derived.ChangeOld
import Derived.SizedLaws
import Derived.Below
namespace Go.Proofs.Ytegphnlfhcokfaa.vecAlike
open Go.ChangeShapes Go.WideShapes Go.ChangeAt Go.RowKit
set_option linter.unusedVariables false

theorem own : ownKnob Try.prog.godebug = none := by kernel_rfl
theorem laidOut : laidOutB Try.prog = true := by kernel_rfl
theorem walk (A : Option Addr) (a : Nat) (xs : List Int) (B : Option Addr) (b : Nat) (ys : List Int) (p q : Int) (w : World)
    (hx : Rd .i8 w w.heap.size A xs) (wx : ∀ n ∈ xs, (Lit.int .i8 n).wf = true) (ha : xs.length ≤ a) (hma : a ≤ 140737488351232) (hna : A = none → a = 0)
    (hy : Rd .i8 w w.heap.size B ys) (wy : ∀ n ∈ ys, (Lit.int .i8 n).wf = true) (hb : ys.length ≤ b) (hmb : b ≤ 140737488351232) (hnb : B = none → b = 0)
    (wp : (Lit.int .u8 p).wf = true) (wq : (Lit.int .u8 q).wf = true) :
    Calls Try.prog 9 #[.slice A xs.length a, .slice B ys.length b, .agg #[.int .u8 p, .int .u8 q]] w fun e w' => e = .returned (.bool true) ∧ Below w.heap.size w w' := by
  by_cases h : xs.length = 0 ∨ 64 < xs.length ∨ ys.length ≠ xs.length
  · exact vecAlike_no A B a b xs.length ys.length p q w h
  · have h1 : ys.length = xs.length := by omega
    rw [h1]
    have bp := byte_of_wf (xs := [p]) (fun n hn => by simp at hn; subst hn; exact wp) p (by simp)
    have bq := byte_of_wf (xs := [q]) (fun n hn => by simp at hn; subst hn; exact wq) q (by simp)
    obtain ⟨m0, rfl⟩ : ∃ m : Nat, p = m := ⟨p.toNat, by omega⟩
    obtain ⟨m1, rfl⟩ : ∃ m : Nat, q = m := ⟨q.toNat, by omega⟩
    exact vecAlike_yes A B a b xs ys xs.length m0 m1 rfl h1 (by omega) (by omega) (by omega) (by omega) w hx hy (fun n hn => i8_of_wf' (wx n hn)) (fun n hn => i8_of_wf' (wy n hn))
set_option maxRecDepth 100000 in
theorem lifted (os : Os) (started : os.Started) (H : Type) (enc : TypeId × Value → H) :
    ReturnsInHanded {} Try.checked os 9 .any (Rows.vecAlikeSpec.pre6 enc Try.prog Try.f9 Rows.vecAlikeRow.domain false) (Rows.vecAlikeSpec.post enc Try.prog Try.f9 false true false false) := by
  refine returnsInHanded_of_change_sized (C := Try.checked) own started (by kernel_rfl) Try.func9
    (ChangeSpec.witness6 (enc := enc) (C := Try.checked) false ⟨#[], #[.slice none 0 0, .slice none 0 0, .agg #[.int .u8 0, .int .u8 0]], []⟩ 8 (by kernel_rfl) (by kernel_rfl) (by kernel_rfl) (by kernel_rfl)) ?_
  intro W base args ds gs before hval0 hW hcnd hsz0 _
  have hsz : (DataW.weightsEach Try.prog (Try.f9.params.toList ++ Rows.vecAlikeSpec.plain.varTypes Try.prog) (ds ++ gs)).all (· ≤ reachBytes) = true := hsz0
  have hval : ∀ (j : Nat) t v, Try.f9.params[j]? = some t → args[j]? = some v → Value.okWide Try.prog W .any base t v := hval0
  have hW' := hW
  obtain ⟨p, q, hA0, hV, rfl, hfz, hnd⟩ := hW
  have hA : DataW.TrodAll enc Try.prog W 0 (fun _ => true) true Try.f9.params.toList args.toList ds p := hA0
  rw [Try.params9] at hA hval hsz
  obtain ⟨v0, vs0, d0, ds0, p0, q0, hargs, rfl, rfl, h0, r0⟩ := trodAll_cons hA
  obtain ⟨v1, vs1, d1, ds1, p1, q1, rfl, rfl, rfl, h1, r1⟩ := trodAll_cons r0
  obtain ⟨v2, vs2, d2, ds2, p2, q2, rfl, rfl, rfl, h2, r2⟩ := trodAll_cons r1
  obtain ⟨rfl, rfl, rfl⟩ := trodAll_nil r2
  obtain rfl : args = #[v0, v1, v2] := by cases args; simp_all
  obtain ⟨rfl, rfl⟩ := trodVars_none hV
  obtain ⟨a0, len0, cap0, rfl⟩ := okWide_slice Try.underlying22 (hval 0 22 v0 rfl rfl)
  have k0 := h0
  have lt0 : ∀ x ∈ p0, x.block < W.heap.size := by obtain ⟨m, hm⟩ := k0; exact DataW.trod_lt m _ _ _ hm
  obtain ⟨x0, e0, hc0, hm0, rd0, wf0, nl0⟩ := opened (j := 0) Try.underlying22 Try.underlying53 (by kernel_rfl) (show Try.prog.bytesOf 53 = 1 by kernel_rfl) hsz rfl rfl h0
  subst e0
  obtain ⟨a1, len1, cap1, rfl⟩ := okWide_slice Try.underlying22 (hval 1 22 v1 rfl rfl)
  have k1 := h1
  have lt1 : ∀ x ∈ p1, x.block < W.heap.size := by obtain ⟨m, hm⟩ := k1; exact DataW.trod_lt m _ _ _ hm
  obtain ⟨x1, e1, hc1, hm1, rd1, wf1, nl1⟩ := opened (j := 1) Try.underlying22 Try.underlying53 (by kernel_rfl) (show Try.prog.bytesOf 53 = 1 by kernel_rfl) hsz rfl rfl h1
  subst e1
  have k2 := h2
  have lt2 : ∀ x ∈ p2, x.block < W.heap.size := by obtain ⟨m, hm⟩ := k2; exact DataW.trod_lt m _ _ _ hm
  obtain ⟨a20, a21, rfl, w20, w21⟩ := opened_arr2 Try.underlying66 Try.underlying5 (by kernel_rfl) (show Try.prog.cellsOf 66 = 2 by kernel_rfl) (hval 2 66 v2 rfl rfl) h2
  clear hA0 hval0
  refine (walk a0 cap0 x0 a1 cap1 x1 a20 a21 W rd0 wf0 hc0 (by omega) nl0 rd1 wf1 hc1 (by omega) nl1 w20 w21).mono fun e W' ⟨he, bel⟩ => ?_
  subst he
  exact ⟨_, rfl, _, _, _, [], _, [], hW', trodAll_mk1 (shut_bool Try.underlying4 _), (trodAll_cons_mk (Below.trod laidOut (by kernel_rfl) (of_decide_eq_true (by kernel_rfl)) k0 bel lt0) (trodAll_cons_mk (Below.trod laidOut (by kernel_rfl) (of_decide_eq_true (by kernel_rfl)) k1 bel lt1) (trodAll_cons_mk (Below.trod laidOut (by kernel_rfl) (of_decide_eq_true (by kernel_rfl)) k2 bel lt2) trodAll_mk0))), rfl, bel.frame _, fun h => by cases h⟩

theorem over : Rows.vecAlikeRow.holds Try.pinned (OpenSpec.ofChange Rows.vecAlikeSpec) :=
  OpenClaim.holds_of_wide 9 Try.f9 rfl rfl rfl rfl rfl rfl rfl ⟨rfl, rfl, rfl, rfl, rfl⟩ rfl rfl rfl rfl rfl (by kernel_rfl) Try.func9 (by kernel_rfl)
    (of_decide_eq_true (by kernel_rfl)) (by unfold Func.isWrapper; first | (rw [if_pos (by decide +kernel)]; kernel_rfl) | (rw [if_neg (by decide +kernel)]; exact ⟨rfl, rfl⟩))
    (fun os started H enc _ => lifted os started H enc)

theorem proved : Rows.VecAlikeSaid := over
#print axioms proved
end Go.Proofs.Ytegphnlfhcokfaa.vecAlike
