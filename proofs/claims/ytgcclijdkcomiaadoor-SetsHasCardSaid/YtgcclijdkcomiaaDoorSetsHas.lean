/- SetsHas holds: whatever numbers to add, whatever numbers to drop and whatever number are handed in, the call answers true and they read afterwards as they did. No condition but the form's own (each slice that is read takes at most 2^47 - 4096 bytes; math/bits.deBruijn64tab starts as the program's text lays it, which the card ties). -/
import Derived.Test.YtgcclijdkcomiaaDoorRows
import Derived.Test.YtgcclijdkcomiaaDoorCards
import Derived.Test.YtgcclijdkcomiaaDoorTie
import Derived.Test.YtgcclijdkcomiaaDoorTb
import Derived.SevenTiedAt
import Derived.Test.YtgcclijdkcomiaaDoorLc
import Derived.Test.YtgcclijdkcomiaaDoorA
import Derived.WalkKit
import Derived.ProofKit
import Derived.OpenShut
import Derived.ChangeOld
import Derived.SizedLaws
import Derived.Below
namespace Go.Proofs.YtgcclijdkcomiaaDoor.setsHas
open Go.ChangeShapes Go.WideShapes Go.ChangeAt Go.RowKit
set_option linter.unusedVariables false

theorem own : ownKnob Tryd.prog.godebug = none := by kernel_rfl
theorem laidOut : laidOutB Tryd.prog = true := by kernel_rfl
theorem u16_of_wf {m : Int} (hm : (Lit.int .u16 m).wf = true) : 0 ≤ m ∧ m ≤ 65535 := by
  have h1 : IntKind.u16.min = 0 := rfl
  have h2 : IntKind.u16.max = 65535 := rfl
  simp only [Lit.wf, Bool.and_eq_true, decide_eq_true_eq] at hm
  omega
theorem walk (A : Option Addr) (c : Nat) (xs : List Int) (B : Option Addr) (d : Nat) (ys : List Int) (n : Int) (w : World) (hx : Rd .u16 w w.heap.size A xs) (wx : ∀ v ∈ xs, (Lit.int .u16 v).wf = true) (hc : xs.length ≤ c) (hm : c ≤ 140737488351232) (hnx : A = none → c = 0)
    (hy : Rd .u16 w w.heap.size B ys) (wy : ∀ v ∈ ys, (Lit.int .u16 v).wf = true) (hd : ys.length ≤ d) (hmd : d ≤ 140737488351232) (hny : B = none → d = 0) (wn : (Lit.int .u16 n).wf = true) (hT : Tab w) :
    Calls Tryd.prog 4 #[.slice A xs.length c, .slice B ys.length d, .int .u16 n] w fun e w' => e = .returned (.bool true) ∧ Below w.heap.size w w' := by
  by_cases h : 500 < xs.length ∨ 500 < ys.length
  · exact setsHas_far A B xs.length ys.length c d n h w hT
  · obtain ⟨k, rfl⟩ : ∃ k : Nat, n = k := ⟨n.toNat, by have := (u16_of_wf wn).1; omega⟩
    exact setsHas_yes A B c d xs ys k (by have := (u16_of_wf wn).2; omega) w hx hy (by omega) (by omega) (fun v hv => u16_of_wf (wx v hv)) (fun v hv => u16_of_wf (wy v hv)) hT
set_option maxRecDepth 100000 in
theorem lifted (os : Os) (started : os.Started) (H : Type) (enc : TypeId × Value → H) :
    ReturnsInHanded {} Tryd.checked os 4 .any (fun w args => (Rows.setsHasSpec.pre enc Tryd.prog Tryd.f4 Rows.setsHasRow.domain false w args ∧ laidMetH Tryd.prog Rows.setsHasRow.laid w) ∧ sizedMet enc Tryd.prog Tryd.f4 (OpenSpec.ofChange Rows.setsHasSpec) false w args) (Rows.setsHasSpec.post enc Tryd.prog Tryd.f4 false true false false) := by
  refine returnsInHanded_of_change_and (C := Tryd.checked) (X := fun w _ => laidMetH Tryd.prog tabLaid w) (fun _ _ _ hh h => h.of_heap hh) own started (by kernel_rfl) Tryd.func4
    (ChangeSpec.witness_at (enc := enc) (C := Tryd.checked) (os := os) (X := fun w _ => laidMetH Tryd.prog tabLaid w) false (laidWorld os) #[.slice none 0 0, .slice none 0 0, .int .u16 0] 8 rfl (by kernel_rfl) (by kernel_rfl) (by kernel_rfl) (by kernel_rfl) (by kernel_rfl) (laidWorld_met os _)) ?_
  intro W base args ds gs before hval0 hW hcnd hsz0 hL _
  have hsz : (DataW.weightsEach Tryd.prog (Tryd.f4.params.toList ++ Rows.setsHasSpec.plain.varTypes Tryd.prog) (ds ++ gs)).all (· ≤ reachBytes) = true := hsz0
  have hval : ∀ (j : Nat) t v, Tryd.f4.params[j]? = some t → args[j]? = some v → Value.okWide Tryd.prog W .any base t v := hval0
  have hW' := hW
  obtain ⟨p, q, hA0, hV, rfl, hfz, hnd⟩ := hW
  have hA : DataW.TrodAll enc Tryd.prog W 0 (fun _ => true) true Tryd.f4.params.toList args.toList ds p := hA0
  rw [Tryd.params4] at hA hval hsz
  obtain ⟨v0, vs0, d0, ds0, p0, q0, hargs, rfl, rfl, h0, r0⟩ := trodAll_cons hA
  obtain ⟨v1, vs1, d1, ds1, p1, q1, rfl, rfl, rfl, h1, r1⟩ := trodAll_cons r0
  obtain ⟨v2, vs2, d2, ds2, p2, q2, rfl, rfl, rfl, h2, r2⟩ := trodAll_cons r1
  obtain ⟨rfl, rfl, rfl⟩ := trodAll_nil r2
  obtain rfl : args = #[v0, v1, v2] := by cases args; simp_all
  obtain ⟨rfl, rfl⟩ := trodVars_none hV
  obtain ⟨a0, len0, cap0, rfl⟩ := okWide_slice Tryd.underlying58 (hval 0 58 v0 rfl rfl)
  have k0 := h0
  have lt0 : ∀ x ∈ p0, x.block < W.heap.size := by obtain ⟨m, hm⟩ := k0; exact DataW.trod_lt m _ _ _ hm
  obtain ⟨x0, e0, hc0, hm0, rd0, wf0, nl0⟩ := opened (j := 0) Tryd.underlying58 Tryd.underlying59 (by kernel_rfl) (show Tryd.prog.bytesOf 59 = 2 by kernel_rfl) hsz rfl rfl h0
  subst e0
  obtain ⟨a1, len1, cap1, rfl⟩ := okWide_slice Tryd.underlying58 (hval 1 58 v1 rfl rfl)
  have k1 := h1
  have lt1 : ∀ x ∈ p1, x.block < W.heap.size := by obtain ⟨m, hm⟩ := k1; exact DataW.trod_lt m _ _ _ hm
  obtain ⟨x1, e1, hc1, hm1, rd1, wf1, nl1⟩ := opened (j := 1) Tryd.underlying58 Tryd.underlying59 (by kernel_rfl) (show Tryd.prog.bytesOf 59 = 2 by kernel_rfl) hsz rfl rfl h1
  subst e1
  obtain ⟨i2, rfl, rfl, rfl, w2⟩ := open_int Tryd.underlying59 (hval 2 59 v2 rfl rfl) h2
  clear hA0 hval0
  refine (walk a0 cap0 x0 a1 cap1 x1 i2 W rd0 wf0 hc0 (by omega) nl0 rd1 wf1 hc1 (by omega) nl1 w2 (tab_of_laid hL)).mono fun e W' ⟨he, bel⟩ => ?_
  subst he
  exact ⟨_, rfl, _, _, _, [], _, [], hW', trodAll_mk1 (shut_bool Tryd.underlying4 _), (trodAll_cons_mk (Below.trod laidOut (by kernel_rfl) (of_decide_eq_true (by kernel_rfl)) k0 bel lt0) (trodAll_cons_mk (Below.trod laidOut (by kernel_rfl) (of_decide_eq_true (by kernel_rfl)) k1 bel lt1) (trodAll_cons_mk (shut_int Tryd.underlying59 w2) trodAll_mk0))), rfl, bel.frame _, fun h => by cases h⟩

theorem over : Rows.setsHasRow.holds Tryd.pinned (OpenSpec.ofChange Rows.setsHasSpec) :=
  OpenClaim.holds_of_wide 4 Tryd.f4 rfl rfl rfl rfl rfl rfl rfl ⟨rfl, rfl, rfl, rfl, rfl⟩ rfl rfl rfl rfl rfl (by kernel_rfl) Tryd.func4 (by kernel_rfl)
    (of_decide_eq_true (by kernel_rfl)) (by unfold Func.isWrapper; first | (rw [if_pos (by decide +kernel)]; kernel_rfl) | (rw [if_neg (by decide +kernel)]; exact ⟨rfl, rfl⟩))
    (fun os started H enc _ => lifted os started H enc)

theorem over' : Rows.SetsHasSaid := over
theorem proved : Rows.SetsHasCardSaid :=
  Claim7.holds_tied_plain_at .later [] [.data] true (true, "1a1905fcf062da91430462e61c0e69b862b2d6db860673735761c9fd3c82b298") false
    over' (fun _ h => by cases h) (by kernel_rfl) (fun _ h => by cases h) setsHas_row_tie rfl ⟨rfl, rfl⟩ (by kernel_rfl) rfl
    (fun f fn hf hfn => by
      obtain rfl : f = 4 := Option.some.inj ((show Tryd.prog.funcNamed Rows.setsHasRow.func = some 4 by kernel_rfl).symm.trans hf) |>.symm
      obtain rfl : fn = Tryd.f4 := (Option.some.inj (Tryd.func4.symm.trans hfn)).symm
      exact ⟨by kernel_rfl, fun j t ht => by
          rw [Tryd.params4] at ht
          rcases j with _ | j
          · obtain rfl : 58 = t := by simpa using ht
            exact (show Tryd.prog.wantsStandIn 58 = false by kernel_rfl)
          rcases j with _ | j
          · obtain rfl : 58 = t := by simpa using ht
            exact (show Tryd.prog.wantsStandIn 58 = false by kernel_rfl)
          rcases j with _ | j
          · obtain rfl : 59 = t := by simpa using ht
            exact (show Tryd.prog.wantsStandIn 59 = false by kernel_rfl)
          simp at ht⟩)
    (by kernel_rfl)
#print axioms proved
end Go.Proofs.YtgcclijdkcomiaaDoor.setsHas
