/- The iterator of package means: steps. -/
import Derived.RangeFuncBox
import Derived.RangeFuncNested
import Derived.RangeFuncBound
import Derived.RangeFuncCalls
import Derived.RangeFuncLeaves
import Derived.Shelf.Abstract
import Derived.Shelf.RegionOpen
import Derived.OwnWalkIn
import Derived.TacticsInMore
import Derived.LoopNIn
import Derived.LoopIn
import Derived.Test.YtcakmcegcbameaaMg
import Derived.Test.YtcakmcegcbameaaSw
namespace Go.Proofs.Ytcakmcegcbameaa
open Go.RowKit Go.Shelf
set_option linter.unusedVariables false
attribute [local go_sem] Oper.semAt_some
/-- Means as they are told: where they lie, and what they are. -/
abbrev Tl : Type := Option Addr × Nat × List Vc
def encT (x : Tl) : Array Value := #[.slice x.1 x.2.2.length x.2.1]
/-- All cells but the variable's. -/
def Kd (s : Nat) : Nat → TypeId → Prop := fun k t => ¬ (t = 22 ∧ k = s)
theorem own_keepsK {K : Nat → TypeId → Prop} {w w' : World} {base n size : Nat} {e : TypeId} {v : Value} {xs : List Value} (h : w.ownsRow base e size v n xs) (hk : Keeps K w w') (hK : ∀ g, K g e) : w'.ownsRow base e size v n xs := by
  refine ⟨h.1, ?_⟩
  rcases h.2 with h0 | ⟨g, cap, cur, rfl, hb, hg, rest⟩
  · exact .inl h0
  · exact .inr ⟨g, cap, cur, rfl, hb, hk.same g _ _ _ (hK g) hg, rest⟩
theorem OwnV.keeps {s : Nat} {w w' : World} {base : Nat} {A : Option Addr} {c : Nat} {L : List Vc} (h : OwnV w base A c L) (hk : Keeps (Kd s) w w') : OwnV w' base A c L :=
  ⟨own_keepsK h.1 hk (fun g hg => by have := hg.1; revert this; decide), fun x hx => own_keepsK (h.2 x hx) hk (fun g hg => by have := hg.1; revert this; decide)⟩
theorem keeps_cell {s : Nat} {w w' : World} (hk : Keeps (Kd s) w w') {b o : Nat} (hb : b ≠ s) {v : Value} (h : w.cell? ⟨b, o, none⟩ = some v) : w'.cell? ⟨b, o, none⟩ = some v := by
  obtain ⟨ob, hc, hcc⟩ := cells_of_cell h
  cases ob with
  | cells cs e fr =>
    have := hk.same b cs e fr (fun h => hb h.2) hc
    exact (World.cell?_of_block (a := ⟨b, o, none⟩) (this.trans hc.symm)).trans h
  | _ => cases hcc
theorem RdV.keeps {s : Nat} {w w' : World} {D : Nat} {A : Option Addr} {L : List Vc} (h : RdV w D A L) (hk : Keeps (Kd s) w w') (hD : D ≤ s) : RdV w' D A L := fun hl => by
  obtain ⟨b, off, hA, hB, hc⟩ := h hl
  refine ⟨b, off, hA, hB, fun i hi => ⟨keeps_cell hk (by omega) (hc i hi).1, fun hl2 => ?_⟩⟩
  obtain ⟨b2, off2, hA2, hB2, hc2⟩ := (hc i hi).2 hl2
  exact ⟨b2, off2, hA2, hB2, fun j hj => keeps_cell hk (by omega) (hc2 j hj)⟩
theorem OwnV.own_from {base B : Nat} : OwnFrom B (fun (x : Tl) W => OwnV W base x.1 x.2.1 x.2.2) := fun x W W' row hs hg hr => by
  have off : ∀ {v : Value} {n : Nat} {e : TypeId} {xs : List Value}, W.ownsRow base e 1 v n xs → v.ownBlock = none ∨ v.ownBlock ≠ row := fun {v n e xs} ho => by
    rcases ho.2 with ⟨hv, _⟩ | ⟨g, cap, cur, hv, _, hc, _⟩
    · rw [hv]; exact .inl rfl
    · rw [hv]
      refine .inr (fun e => ?_)
      obtain ⟨_, o, ho2, hc2⟩ := hr g e.symm
      rw [hc] at ho2
      cases ho2
      cases hc2
  exact ⟨hs.1.kept hg (off hs.1), fun y hy => (hs.2 y hy).kept hg (off (hs.2 y hy))⟩
/-- What was told last; of nothing: the first means. -/
def lastT (ms : List (List Int)) (pre : List Tl) : List (List Int) := (pre.getLast?.map fun x => vecs x.2.2).getD ms
theorem lastT_nil (ms : List (List Int)) : lastT ms [] = ms := rfl
theorem lastT_snoc (ms : List (List Int)) (pre : List Tl) (x : Tl) : lastT ms (pre ++ [x]) = vecs x.2.2 := by simp [lastT]
theorem steps_fix {vs ms : List (List Int)} {k : Nat} (h : stepL (stepsL vs k ms) vs = stepsL vs k ms) : ∀ j, stepsL vs (k + j) ms = stepsL vs k ms
  | 0 => rfl
  | j + 1 => by
    show stepL (stepsL vs (k + j) ms) vs = _
    rw [steps_fix h j, h]
theorem steps_any (A B : Option Addr) (n c m d : Nat) (r : Int) (w : World) :
    Calls Try.prog 36 #[.slice A n c, .slice B m d, .int .i64 r] w fun e w' => e = .returned (.func (.func 47) #[] #[.pointer (some ⟨w.heap.size, 0, none⟩), .pointer (some ⟨w.heap.size + 1 + 1, 0, none⟩), .pointer (some ⟨w.heap.size + 1, 0, none⟩)]) ∧
      w' = ((w.alloc (.cells #[.slice A n c] 22)).alloc (.cells #[.slice B m d] 22)).alloc (.cells #[.int .i64 r] 3) := by
  go_enter Try.func36, Try.ntmps36
  go_wp2
  go_ret
  exact ⟨rfl, rfl⟩
set_option maxRecDepth 100000 in
set_option maxHeartbeats 4000000 in
theorem steps_in (n l s base D B1 B2 B3 : Nat) (A : Option Addr) (c : Nat) (L : List Vc) (B : Option Addr) (d : Nat) (M : List Vc) (r : Nat) (hr : r ≤ 100) (N : Nat) (hN : N = r) (J Jx : List Tl → World → Prop)
    (hY : ∀ pre x W, J pre W → OwnV W base x.1 x.2.1 x.2.2 ∧ ApartL x.2.2 → pre.length < N → YieldAt Fence.wide (n - 1) Try.prog l (encT x) W fun e W' =>
      (e = .returned (.bool true) ∧ J (pre ++ [x]) W' ∧ Keeps (Kd s) W W') ∨ (e = .returned (.bool false) ∧ Jx (pre ++ [x]) W'))
    (W : World) (hJf : OwnFrom W.heap.size J) (c1 : W.cell? ⟨B1, 0, none⟩ = some (.slice A L.length c)) (c2 : W.cell? ⟨B2, 0, none⟩ = some (.int .i64 r)) (c3 : W.cell? ⟨B3, 0, none⟩ = some (.slice B M.length d)) (h3 : B3 ≠ s)
    (hO : OwnV W base A c L) (hy : RdV W D B M) (hDs : D ≤ s) (hD : D ≤ W.heap.size) (hbase : base ≤ W.heap.size) (hm : mayM (vecs L) (vecs M) = true) (hb : B8 (vecs L)) (hb2 : B8 (vecs M)) (h0 : J [] W) (hn : 1 ≤ n) :
    CallsIn Fence.wide n Try.prog 47 #[.func (.yield l) #[] #[], .pointer (some ⟨B1, 0, none⟩), .pointer (some ⟨B2, 0, none⟩), .pointer (some ⟨B3, 0, none⟩)] W fun e W' => (∃ v, e = .returned v) ∧
      ((∃ xs : List Tl, lastT (vecs L) xs = stepsL (vecs M) r (vecs L) ∧ J xs W') ∨ (∃ pre : List Tl, True ∧ Jx pre W')) := by
  have f30 : Fence.wide.fn 30 := trivial
  have f48 : Fence.wide.fn 48 := trivial
  have HN := Lib.hid hN
  have HM := Lib.hid (stepsL_may hm)
  have HB := Lib.hid (stepsL_b8 hb hb2)
  have HB2 := Lib.hid hb2
  have HJ := Lib.hid hJf
  have HY := Lib.hid hY
  have hlm : M.length ≤ 2048 := by have := (mayM_yes hm).2.2.1; rw [vecs_len] at this; exact this
  have E0 : Hid (vecs L = stepsL (vecs M) 0 (vecs L)) := rfl
  obtain ⟨ms, ems⟩ : ∃ ms, vecs L = ms := ⟨_, rfl⟩
  rw [ems] at HM HB E0 ⊢
  have EL := Lib.hid ems
  clear hN hb hb2 hm hY hJf ems
  refine callsIn_of_wp Try.func47 rfl trivial ?_ rfl
  simp only [Try.ntmps47, List.size_toArray, List.length_cons, List.length_nil, Nat.reduceAdd, Nat.reduceSub, Array.replicate_succ, Array.replicate_zero, List.push_toArray, List.append_toArray, List.nil_append, List.cons_append]
  gi_wp2
  gi_loopw [5, 9] (fun f i wr => ∃ (k : Nat) (pre : List Tl) (A' : Option Addr) (c' : Nat) (L' : List Vc), k ≤ r ∧ Hid (pre.length = k) ∧ f = .slice A' L'.length c' ∧ i = .int .i64 k ∧ OwnV wr base A' c' L' ∧ Hid (vecs L' = stepsL (vecs M) k ms) ∧ Hid (lastT ms pre = stepsL (vecs M) k ms) ∧ J pre wr ∧ RdV wr D B M ∧ wr.cell? ⟨B3, 0, none⟩ = some (.slice B M.length d) ∧ W.heap.size ≤ wr.heap.size) (fun _ i _ => r - (intOf i).toNat)
  case atStart => exact ⟨0, [], A, c, L, by omega, rfl, rfl, rfl, hO, Lib.hid (EL.out.trans E0.out), E0, h0, hy, c3, Nat.le_refl _⟩
  case round =>
    clear hO hy h0 c1 c2 c3
    obtain ⟨k, pre, A', c', L', hk, hpl, rfl, rfl, hO, hv, hla, hJ, hy, c3, hsz⟩ := hrel
    by_cases hlt : k < r
    · have hmay := HM.out k
      have hb8 := HB.out k
      rw [← hv.out] at hmay hb8
      have ST := Lib.hid (step_any A' c' L' B d M wr hO.rd (hy.more (Nat.le_trans hD hsz)) hmay hb8 HB2.out)
      have hl' : L'.length ≤ 64 := by have := (mayM_yes hmay).1; rw [vecs_len] at this; exact this
      have hlv : Hid (∀ u ∈ vecs L', u.length ≤ 64) := fun u hu => by
        have h1 := mayB_yes (mayM_yes hmay).2.1
        rw [mayB_len (mayM_yes hmay).2.1 u hu]; exact h1.2.2.2.1
      have hsm := (stepL_may hmay).1
      have hls : Hid (∀ u ∈ stepL (vecs L') (vecs M), u.length ≤ 64) := fun u hu => by
        have h1 := mayB_yes (mayM_yes hsm).2.1
        rw [mayB_len (mayM_yes hsm).2.1 u hu]; exact h1.2.2.2.1
      have HO := Lib.hid hO
      have HSZ := Lib.hid (show (stepL (vecs L') (vecs M)).length = L'.length by rw [stepL_len, vecs_len])
      clear hmay hb8 hsm hO
      by_cases hfix : stepL (vecs L') (vecs M) = vecs L'
      · have HF : Hid (stepsL (vecs M) r ms = stepsL (vecs M) k ms) := by
          rw [hv.out] at hfix
          have := steps_fix hfix (r - k)
          rw [show k + (r - k) = r by omega] at this
          exact this
        have HX := Lib.hid hfix
        clear hfix
        gi_wp2_with (first
          | (gi_at_call 30; refine (callsIn_wide.2 ST.out).mono ?_; rintro e w2 ⟨A2, c2, L2, rfl, ho2, hp2, hv2, hB2⟩
             have hle : L2.length = L'.length := by rw [← vecs_len, hv2, HSZ.out]
             have hl2 : L2.length ≤ 64 := by omega
             have SA0 := sameM_any A2 c2 L2 _ rfl A' c' L' _ rfl w2 w2.heap.size ho2.rd (HO.out.below hB2).rd hle (by omega) (by omega) (fun u hu => by rw [hv2] at hu; have := hls.out u hu; omega) (fun u hu => by have := hlv.out u hu; omega)
             have eb : decide (vecs L2 = vecs L') = true := decide_eq_true (hv2.trans HX.out)
             rw [eb] at SA0
             have SA := Lib.hid SA0
             clear SA0 eb hle)
          | (gi_at_call 48; refine (callsIn_wide.2 SA.out).mono ?_; rintro e w3 ⟨rfl, nq, hw3⟩; have hb3 : Below wr.heap.size wr w3 := (by rw [hw3]; exact below_drewN hB2 nq); clear hw3))
        refine ⟨fun f h => (by cases h), ?_⟩
        gi_wp2
        refine bodyPost_ret (results_none rfl _ _ _) rfl ?_
        exact ⟨⟨_, rfl⟩, .inl ⟨pre, by rw [HF.out]; exact hla.out, HJ.out pre wr w3 none hJ (grown_of_below hb3) (fun r hr => by cases hr)⟩⟩
      · have HX := Lib.hid hfix
        clear hfix
        gi_wp2_with (first
          | (gi_at_call 30; refine (callsIn_wide.2 ST.out).mono ?_; rintro e w2 ⟨A2, c2, L2, rfl, ho2, hp2, hv2, hB2⟩
             have hle : L2.length = L'.length := by rw [← vecs_len, hv2, HSZ.out]
             have hl2 : L2.length ≤ 64 := by omega
             have SA0 := sameM_any A2 c2 L2 _ rfl A' c' L' _ rfl w2 w2.heap.size ho2.rd (HO.out.below hB2).rd hle (by omega) (by omega) (fun u hu => by rw [hv2] at hu; have := hls.out u hu; omega) (fun u hu => by have := hlv.out u hu; omega)
             have eb : decide (vecs L2 = vecs L') = false := decide_eq_false (fun h => HX.out (hv2.symm.trans h))
             rw [eb] at SA0
             have SA := Lib.hid SA0
             clear SA0 eb hle)
          | (gi_at_call 48; refine (callsIn_wide.2 SA.out).mono ?_; rintro e w3 ⟨rfl, nq, hw3⟩
             have hb3 : Below wr.heap.size wr w3 := by rw [hw3]; exact below_drewN hB2 nq
             have hb4 : Below w2.heap.size w2 w3 := by rw [hw3]; exact below_drewN (Below.refl _ _) nq
             clear hw3
             have hJ3 := HJ.out pre wr w3 none hJ (grown_of_below hb3) (fun r hr => by cases hr)
             have ho3 := (ho2.base (show base ≤ wr.heap.size by omega)).below hb4
             obtain ⟨fn, tmps, assign, body, hyy, hR⟩ := HY.out pre (A2, c2, L2) w3 hJ3 ⟨ho3, hp2⟩ (by rw [HN.out, hpl.out]; exact hlt)
             have hy' : (Instr.yield l #[.slice A2 L2.length c2]).run Try.prog w3 = .ok (.round l fn tmps assign body) w3 := hyy
             have HR := Lib.hid hR
             clear hR hyy))
        refine HR.out.mono ?_
        rintro e W4 (⟨rfl, hJ4, hK4⟩ | ⟨rfl, hJx⟩)
        · gi_wp2
          go_roundw
          case rel =>
            refine ⟨k + 1, pre ++ [(A2, c2, L2)], A2, c2, L2, by omega, Lib.hid (by rw [List.length_append, hpl.out]; rfl), rfl, by go_num, ho3.keeps hK4, Lib.hid ?_, Lib.hid ?_, hJ4, ((hy.below (hb3.mono (Nat.le_trans hD hsz))).keeps hK4 hDs), ?_, ?_⟩
            · rw [hv2, hv.out]; rfl
            · rw [lastT_snoc]; show vecs L2 = _; rw [hv2, hv.out]; rfl
            · exact keeps_cell hK4 h3 ((hb3.cell (p := ⟨B3, 0, none⟩) (World.block_lt_of_cell? _ _ c3)).trans c3)
            · have := hb3.size
              have := hK4.size
              omega
          case measure => simp [intOf]; omega
        · gi_wp2
          refine bodyPost_ret (results_none rfl _ _ _) rfl ?_
          exact ⟨⟨_, rfl⟩, .inr ⟨_, trivial, hJx⟩⟩
    · obtain rfl : k = r := by omega
      gi_wp2
      go_end0
      exact ⟨⟨_, rfl⟩, .inl ⟨pre, hla.out, hJ⟩⟩
end Go.Proofs.Ytcakmcegcbameaa
