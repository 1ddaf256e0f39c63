/- The walk of package means: gather. -/
import Derived.Test.YtcakmcegcbameaaMc
namespace Go.Proofs.Ytcakmcegcbameaa
open Go.RowKit Go.Maps
set_option linter.unusedVariables false
theorem Try.mapIsg : Try.prog.underlying 67 = some (.map 3 22) := by kernel_rfl
theorem Try.intIsg : Try.prog.underlying 3 = some (.int .i64) := by kernel_rfl
theorem zeroVg (w : World) : (zeroValue 22).run Try.prog w = .ok (.slice none 0 0) w := by kernel_rfl
/-- What is gathered of some vectors. -/
structure GathAt (w0 : World) (ms vs : List (List Int)) (G : Nat → List Vc) : Prop where
  is : ∀ k, vecs (G k) = groupL ms vs k
  rd : ∀ k, ∀ x ∈ G k, Rd .i8 w0 w0.heap.size x.1 x.2.2
  len : ∀ k, (G k).length ≤ vs.length
theorem GathAt.nil (w : World) (ms : List (List Int)) : GathAt w ms [] (fun _ => []) := ⟨fun k => rfl, fun k x hx => by simp at hx, fun k => by simp⟩
theorem GathAt.more {w0 : World} {ms vs : List (List Int)} {G : Nat → List Vc} (h : GathAt w0 ms vs G) {a : Option Addr} {c : Nat} {v : List Int} {z : Nat} (hz : nearestI ms v = z) (hr : Rd .i8 w0 w0.heap.size a v) : GathAt w0 ms (vs ++ [v]) (moreAt G z (a, c, v)) := by
  refine ⟨fun k => ?_, fun k x hx => ?_, fun k => ?_⟩
  · rw [group_snoc, hz]
    unfold moreAt
    by_cases hk : k = z
    · subst hk
      rw [if_pos rfl, if_pos rfl, vecs_snoc, h.is]
    · rw [if_neg hk, if_neg (Ne.symm hk)]; exact h.is k
  · unfold moreAt at hx
    by_cases hk : k = z
    · rw [if_pos hk] at hx
      rcases List.mem_append.1 hx with h1 | h1
      · exact h.rd _ x h1
      · rw [List.mem_singleton] at h1; subst h1; exact hr
    · rw [if_neg hk] at hx; exact h.rd k x hx
  · have := h.len k
    have hz2 := h.len z
    unfold moreAt
    split <;> simp <;> omega
set_option maxRecDepth 100000 in
set_option maxHeartbeats 4000000 in
theorem gather_any (A : Option Addr) (c : Nat) (L : List Vc) (B : Option Addr) (d : Nat) (M : List Vc) (w : World) (hx : RdV w w.heap.size A L) (hy : RdV w w.heap.size B M) (hm : mayM (vecs L) (vecs M) = true) (hb : B8 (vecs L)) (hb2 : B8 (vecs M)) :
    Calls Try.prog 40 #[.slice A L.length c, .slice B M.length d] w fun e w' => e = .returned (.map (some w.heap.size)) ∧ (∃ G, Grp w' (w.heap.size + 1) w.heap.size 2048 G ∧ GathAt w (vecs L) (vecs M) G) ∧ Below w.heap.size w w' := by
  have hM := mayM_yes hm
  have hl1 : L.length ≤ 64 := by have := hM.1; rw [vecs_len] at this; exact this
  have hl2 : M.length ≤ 2048 := by have := hM.2.2.1; rw [vecs_len] at this; exact this
  have HMB := Lib.hid hM.2.1
  have HV := Lib.hid (mayM_len hm)
  have HB := Lib.hid hb
  have HB2 := Lib.hid hb2
  have g0 := Grp.made w
  have b0 : Below w.heap.size w (w.alloc (.map #[] 0)) := below_one (Below.refl _ _) _
  obtain ⟨i1, hi1, hy0, hy1, hy2⟩ := info_parts Try.info23v
  have hmm := @run_makeMap Try.prog
  clear hM hm hb hb2
  go_enter Try.func40, Try.ntmps40
  go_wp2
  go_loopw [13] (fun i wr => ∃ q : Nat, q ≤ M.length ∧ i = .int .i64 q ∧ (∃ G, Grp wr (w.heap.size + 1) w.heap.size q G ∧ Hid (GathAt w (vecs L) ((vecs M).take q) G)) ∧ Below w.heap.size w wr ∧ w.heap.size + 1 ≤ wr.heap.size) (fun i _ => M.length - (intOf i).toNat)
  case atStart => exact ⟨0, by omega, rfl, ⟨_, g0, GathAt.nil _ _⟩, b0, by simp⟩
  case round =>
    clear g0 b0
    obtain ⟨q, hq, rfl, ⟨G, hG, hA⟩, hBw, hsz⟩ := hrel
    by_cases hlt : q < M.length
    · obtain ⟨b, off, a1, c1, v1, rfl, hBk, hck0, hrd, hv1⟩ := hy.at_ hlt
      have hmem : v1 ∈ vecs M := List.mem_of_getElem? (vecs_at hv1.out)
      have hck : wr.cell? ⟨b, off + q, none⟩ = some (.slice a1 v1.length c1) := (hBw.cell (p := ⟨b, off + q, none⟩) hBk).trans hck0
      have NE := Lib.hid (near_may A c L a1 c1 v1 wr ((hx.below hBw).more hBw.size) ((hrd.below hBw).more hBw.size) hl1 HMB.out (HV.out v1 hmem) HB.out (HB2.out v1 hmem))
      have GA := Lib.hid (hA.out.more (c := c1) (z := nearestI (vecs L) v1) rfl hrd)
      rw [← take_vecs hv1.out] at GA
      have hzl : nearestI (vecs L) v1 < 64 := by
        have h1 := mayB_yes HMB.out
        have := nearestI_lt (ms := vecs L) v1 h1.1
        rw [vecs_len] at this
        omega
      have hGl : ∀ k, (G k).length ≤ 2048 := fun k => by
        have := hA.out.len k
        rw [List.length_take, vecs_len] at this
        omega
      obtain ⟨F, eF⟩ : ∃ F, far (vAt (vecs L) (nearestI (vecs L) v1)) v1 = F := ⟨_, rfl⟩
      rw [eF] at NE
      obtain ⟨z, ez⟩ : ∃ z, nearestI (vecs L) v1 = z := ⟨_, rfl⟩
      rw [ez] at NE GA hzl
      obtain ⟨sv, hS⟩ := hG
      have hGz := hGl z
      clear eF ez hck0 hrd hv1 hmem hA hGl
      go_wp2_with (first
        | (go_at_call 26; refine NE.out.mono ?_; rintro e w' ⟨rfl, hD⟩
           have hS2 := Lib.hid (hS.below hD)
           have hlk : (Instr.lookup 67 (.map (some w.heap.size)) (.int .i64 z) false).run Try.prog w' = .ok (sv z) w' := hS2.out.map.look Try.intIsg Try.mapIsg (zeroVg _) (by omega)
           have hoz := hS2.out.own z)
        | (at_lookup; refine wpList_look _ rfl _ _ 67 rfl _ _ _ rfl rfl hlk ?_)
        | (at_builtin; refine wpList_append_own_at _ rfl _ _ 22 rfl (w.heap.size + 1) 23 i1 (.slice none 0 0) 1 24 Try.underlying22 hi1 hy0 hy1 hy2 rfl (by decide) _ _ _ rfl (hoz.alloc _) ⟨w'.heap.size, 0, none⟩ 1 1 [.slice a1 v1.length c1] rfl rfl (cell_one_new _ _ _) (by simp [Value.oneCell']) (by show (G z).length + 1 ≤ 9223372036854775807; omega) (by omega) (by simp; have := hD.size; omega) ?_; intro v' w1 hown' hgrow hnil hloc
           obtain ⟨w2, hrun, hG2, hg2⟩ := hS2.out.put Try.intIsg Try.mapIsg (by unfold maxLen; omega) (show z < 9223372036854775808 by omega) (x := (a1, c1, v1)) hown' hgrow hloc)
        | (at_mapUpdate; refine wpList_mapPut _ rfl _ _ _ 67 rfl _ _ _ w2 rfl rfl rfl hrun ?_))
      have hB1 : Below w.heap.size w w1 := ((hBw.trans (hD.mono hBw.size)).alloc (by have := hD.size; omega) (.cells #[.slice a1 v1.length c1] 23)).grown hgrow (by have := hD.size; simp; omega) (fun r hr => by have := ((hS2.out.own z).lt r hr).1; omega)
      have hB2 := hB1.grown hg2 hB1.size (fun r hr => by injection hr with hr; omega)
      have hsz2 : w.heap.size + 1 ≤ w2.heap.size := by
        have h1 := hD.size
        have h2 := hgrow.size
        have h3 := hg2.size
        simp at h2
        omega
      go_roundw
      case rel => exact ⟨q + 1, by omega, by go_num, ⟨_, hG2, GA⟩, hB2, hsz2⟩
      case measure => simp [intOf]; omega
    · obtain rfl : q = M.length := by omega
      have hA2 := hA.out
      rw [List.take_of_length_le (by rw [vecs_len]; exact Nat.le_refl _)] at hA2
      have HA := Lib.hid hA2
      have HG := Lib.hid (hG.mono hl2)
      clear hA2 hA hG
      go_wp2
      go_ret
      exact ⟨rfl, ⟨G, HG.out, HA.out⟩, hBw⟩
end Go.Proofs.Ytcakmcegcbameaa
