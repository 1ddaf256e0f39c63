/- Several texts in one. -/
import Derived.RangeFuncBox
import Derived.RangeFuncNested
import Derived.RangeFuncBound
import Derived.RangeFuncCalls
import Derived.RangeFuncLeaves
import Derived.Shelf.Abstract
import Derived.Shelf.RegionOpen
import Derived.OwnWalkIn
import Derived.TacticsInMore
import Derived.LoopNIn
import Derived.LoopIn
import Derived.Test.YthbimjkcpmffcaaGreatMg
import Derived.Test.YthbimjkcpmffcaaGreatSw
import Derived.Test.YthbimjkcpmffcaaGreatNp
import Derived.Test.YthbimjkcpmffcaaGreatNr
/- The iterator of package means: steps. -/
namespace Go.Proofs.YthbimjkcpmffcaaGreat
open Go.RowKit Go.Shelf
set_option linter.unusedVariables false
attribute [local go_sem] Oper.semAt_some
/-- Means as they are told: where they lie, and what they are. -/
abbrev Tl : Type := Option Addr × Nat × List Vc
def encT (x : Tl) : Array Value := #[.slice x.1 x.2.2.length x.2.1]
/-- All cells but the variable's. -/
def Kd (s : Nat) : Nat → TypeId → Prop := fun k t => ¬ (t = 62 ∧ k = s)
theorem own_keepsK {K : Nat → TypeId → Prop} {w w' : World} {base n size : Nat} {e : TypeId} {v : Value} {xs : List Value} (h : w.ownsRow base e size v n xs) (hk : Keeps K w w') (hK : ∀ g, K g e) : w'.ownsRow base e size v n xs := by
  refine ⟨h.1, ?_⟩
  rcases h.2 with h0 | ⟨g, cap, cur, rfl, hb, hg, rest⟩
  · exact .inl h0
  · exact .inr ⟨g, cap, cur, rfl, hb, hk.same g _ _ _ (hK g) hg, rest⟩
theorem OwnV.keeps {s : Nat} {w w' : World} {base : Nat} {A : Option Addr} {c : Nat} {L : List Vc} (h : OwnV w base A c L) (hk : Keeps (Kd s) w w') : OwnV w' base A c L :=
  ⟨own_keepsK h.1 hk (fun g hg => by have := hg.1; revert this; decide), fun x hx => own_keepsK (h.2 x hx) hk (fun g hg => by have := hg.1; revert this; decide)⟩
theorem keeps_cell {s : Nat} {w w' : World} (hk : Keeps (Kd s) w w') {b o : Nat} (hb : b ≠ s) {v : Value} (h : w.cell? ⟨b, o, none⟩ = some v) : w'.cell? ⟨b, o, none⟩ = some v := by
  obtain ⟨ob, hc, hcc⟩ := cells_of_cell h
  cases ob with
  | cells cs e fr =>
    have := hk.same b cs e fr (fun h => hb h.2) hc
    exact (World.cell?_of_block (a := ⟨b, o, none⟩) (this.trans hc.symm)).trans h
  | _ => cases hcc
theorem RdV.keeps {s : Nat} {w w' : World} {D : Nat} {A : Option Addr} {L : List Vc} (h : RdV w D A L) (hk : Keeps (Kd s) w w') (hD : D ≤ s) : RdV w' D A L := fun hl => by
  obtain ⟨b, off, hA, hB, hc⟩ := h hl
  refine ⟨b, off, hA, hB, fun i hi => ⟨keeps_cell hk (by omega) (hc i hi).1, fun hl2 => ?_⟩⟩
  obtain ⟨b2, off2, hA2, hB2, hc2⟩ := (hc i hi).2 hl2
  exact ⟨b2, off2, hA2, hB2, fun j hj => keeps_cell hk (by omega) (hc2 j hj)⟩
theorem OwnV.own_from {base B : Nat} : OwnFrom B (fun (x : Tl) W => OwnV W base x.1 x.2.1 x.2.2) := fun x W W' row hs hg hr => by
  have off : ∀ {v : Value} {n : Nat} {e : TypeId} {xs : List Value}, W.ownsRow base e 1 v n xs → v.ownBlock = none ∨ v.ownBlock ≠ row := fun {v n e xs} ho => by
    rcases ho.2 with ⟨hv, _⟩ | ⟨g, cap, cur, hv, _, hc, _⟩
    · rw [hv]; exact .inl rfl
    · rw [hv]
      refine .inr (fun e => ?_)
      obtain ⟨_, o, ho2, hc2⟩ := hr g e.symm
      rw [hc] at ho2
      cases ho2
      cases hc2
  exact ⟨hs.1.kept hg (off hs.1), fun y hy => (hs.2 y hy).kept hg (off (hs.2 y hy))⟩
/-- What was told last; of nothing: the first means. -/
def lastT (ms : List (List Int)) (pre : List Tl) : List (List Int) := (pre.getLast?.map fun x => vecs x.2.2).getD ms
theorem lastT_nil (ms : List (List Int)) : lastT ms [] = ms := rfl
theorem lastT_snoc (ms : List (List Int)) (pre : List Tl) (x : Tl) : lastT ms (pre ++ [x]) = vecs x.2.2 := by simp [lastT]
theorem steps_fix {vs ms : List (List Int)} {k : Nat} (h : stepL (stepsL vs k ms) vs = stepsL vs k ms) : ∀ j, stepsL vs (k + j) ms = stepsL vs k ms
  | 0 => rfl
  | j + 1 => by
    show stepL (stepsL vs (k + j) ms) vs = _
    rw [steps_fix h j, h]
theorem steps_any (A B : Option Addr) (n c m d : Nat) (r : Int) (w : World) :
    Calls Tryz.prog 125 #[.slice A n c, .slice B m d, .int .i64 r] w fun e w' => e = .returned (.func (.func 136) #[] #[.pointer (some ⟨w.heap.size, 0, none⟩), .pointer (some ⟨w.heap.size + 1 + 1, 0, none⟩), .pointer (some ⟨w.heap.size + 1, 0, none⟩)]) ∧
      w' = ((w.alloc (.cells #[.slice A n c] 62)).alloc (.cells #[.slice B m d] 62)).alloc (.cells #[.int .i64 r] 3) := by
  go_enter Tryz.func125, Tryz.ntmps125
  go_wp2
  go_ret
  exact ⟨rfl, rfl⟩
set_option maxRecDepth 100000 in
set_option maxHeartbeats 4000000 in
theorem steps_in (n l s base D B1 B2 B3 : Nat) (A : Option Addr) (c : Nat) (L : List Vc) (B : Option Addr) (d : Nat) (M : List Vc) (r : Nat) (hr : r ≤ 100) (N : Nat) (hN : N = r) (J Jx : List Tl → World → Prop)
    (hY : ∀ pre x W, J pre W → OwnV W base x.1 x.2.1 x.2.2 ∧ ApartL x.2.2 → pre.length < N → YieldAt Fence.wide (n - 1) Tryz.prog l (encT x) W fun e W' =>
      (e = .returned (.bool true) ∧ J (pre ++ [x]) W' ∧ Keeps (Kd s) W W') ∨ (e = .returned (.bool false) ∧ Jx (pre ++ [x]) W'))
    (W : World) (hJf : OwnFrom W.heap.size J) (c1 : W.cell? ⟨B1, 0, none⟩ = some (.slice A L.length c)) (c2 : W.cell? ⟨B2, 0, none⟩ = some (.int .i64 r)) (c3 : W.cell? ⟨B3, 0, none⟩ = some (.slice B M.length d)) (h3 : B3 ≠ s)
    (hO : OwnV W base A c L) (hy : RdV W D B M) (hDs : D ≤ s) (hD : D ≤ W.heap.size) (hbase : base ≤ W.heap.size) (hm : mayM (vecs L) (vecs M) = true) (hb : B8 (vecs L)) (hb2 : B8 (vecs M)) (h0 : J [] W) (hn : 1 ≤ n) :
    CallsIn Fence.wide n Tryz.prog 136 #[.func (.yield l) #[] #[], .pointer (some ⟨B1, 0, none⟩), .pointer (some ⟨B2, 0, none⟩), .pointer (some ⟨B3, 0, none⟩)] W fun e W' => (∃ v, e = .returned v) ∧
      ((∃ xs : List Tl, lastT (vecs L) xs = stepsL (vecs M) r (vecs L) ∧ J xs W') ∨ (∃ pre : List Tl, True ∧ Jx pre W')) := by
  have f30 : Fence.wide.fn 137 := trivial
  have f48 : Fence.wide.fn 138 := trivial
  have HN := Lib.hid hN
  have HM := Lib.hid (stepsL_may hm)
  have HB := Lib.hid (stepsL_b8 hb hb2)
  have HB2 := Lib.hid hb2
  have HJ := Lib.hid hJf
  have HY := Lib.hid hY
  have hlm : M.length ≤ 2048 := by have := (mayM_yes hm).2.2.1; rw [vecs_len] at this; exact this
  have E0 : Hid (vecs L = stepsL (vecs M) 0 (vecs L)) := rfl
  obtain ⟨ms, ems⟩ : ∃ ms, vecs L = ms := ⟨_, rfl⟩
  rw [ems] at HM HB E0 ⊢
  have EL := Lib.hid ems
  clear hN hb hb2 hm hY hJf ems
  refine callsIn_of_wp Tryz.func136 rfl trivial ?_ rfl
  simp only [Tryz.ntmps136, List.size_toArray, List.length_cons, List.length_nil, Nat.reduceAdd, Nat.reduceSub, Array.replicate_succ, Array.replicate_zero, List.push_toArray, List.append_toArray, List.nil_append, List.cons_append]
  gi_wp2
  gi_loopw [5, 9] (fun f i wr => ∃ (k : Nat) (pre : List Tl) (A' : Option Addr) (c' : Nat) (L' : List Vc), k ≤ r ∧ Hid (pre.length = k) ∧ f = .slice A' L'.length c' ∧ i = .int .i64 k ∧ OwnV wr base A' c' L' ∧ Hid (vecs L' = stepsL (vecs M) k ms) ∧ Hid (lastT ms pre = stepsL (vecs M) k ms) ∧ J pre wr ∧ RdV wr D B M ∧ wr.cell? ⟨B3, 0, none⟩ = some (.slice B M.length d) ∧ W.heap.size ≤ wr.heap.size) (fun _ i _ => r - (intOf i).toNat)
  case atStart => exact ⟨0, [], A, c, L, by omega, rfl, rfl, rfl, hO, Lib.hid (EL.out.trans E0.out), E0, h0, hy, c3, Nat.le_refl _⟩
  case round =>
    clear hO hy h0 c1 c2 c3
    obtain ⟨k, pre, A', c', L', hk, hpl, rfl, rfl, hO, hv, hla, hJ, hy, c3, hsz⟩ := hrel
    by_cases hlt : k < r
    · have hmay := HM.out k
      have hb8 := HB.out k
      rw [← hv.out] at hmay hb8
      have ST := Lib.hid (step_any A' c' L' B d M wr hO.rd (hy.more (Nat.le_trans hD hsz)) hmay hb8 HB2.out)
      have hl' : L'.length ≤ 64 := by have := (mayM_yes hmay).1; rw [vecs_len] at this; exact this
      have hlv : Hid (∀ u ∈ vecs L', u.length ≤ 64) := fun u hu => by
        have h1 := mayB_yes (mayM_yes hmay).2.1
        rw [mayB_len (mayM_yes hmay).2.1 u hu]; exact h1.2.2.2.1
      have hsm := (stepL_may hmay).1
      have hls : Hid (∀ u ∈ stepL (vecs L') (vecs M), u.length ≤ 64) := fun u hu => by
        have h1 := mayB_yes (mayM_yes hsm).2.1
        rw [mayB_len (mayM_yes hsm).2.1 u hu]; exact h1.2.2.2.1
      have HO := Lib.hid hO
      have HSZ := Lib.hid (show (stepL (vecs L') (vecs M)).length = L'.length by rw [stepL_len, vecs_len])
      clear hmay hb8 hsm hO
      by_cases hfix : stepL (vecs L') (vecs M) = vecs L'
      · have HF : Hid (stepsL (vecs M) r ms = stepsL (vecs M) k ms) := by
          rw [hv.out] at hfix
          have := steps_fix hfix (r - k)
          rw [show k + (r - k) = r by omega] at this
          exact this
        have HX := Lib.hid hfix
        clear hfix
        gi_wp2_with (first
          | (gi_at_call 137; refine (callsIn_wide.2 ST.out).mono ?_; rintro e w2 ⟨A2, c2, L2, rfl, ho2, hp2, hv2, hB2⟩
             have hle : L2.length = L'.length := by rw [← vecs_len, hv2, HSZ.out]
             have hl2 : L2.length ≤ 64 := by omega
             have SA0 := sameM_any A2 c2 L2 _ rfl A' c' L' _ rfl w2 w2.heap.size ho2.rd (HO.out.below hB2).rd hle (by omega) (by omega) (fun u hu => by rw [hv2] at hu; have := hls.out u hu; omega) (fun u hu => by have := hlv.out u hu; omega)
             have eb : decide (vecs L2 = vecs L') = true := decide_eq_true (hv2.trans HX.out)
             rw [eb] at SA0
             have SA := Lib.hid SA0
             clear SA0 eb hle)
          | (gi_at_call 138; refine (callsIn_wide.2 SA.out).mono ?_; rintro e w3 ⟨rfl, nq, hw3⟩; have hb3 : Below wr.heap.size wr w3 := (by rw [hw3]; exact below_drewN hB2 nq); clear hw3))
        refine ⟨fun f h => (by cases h), ?_⟩
        gi_wp2
        refine bodyPost_ret (results_none rfl _ _ _) rfl ?_
        exact ⟨⟨_, rfl⟩, .inl ⟨pre, by rw [HF.out]; exact hla.out, HJ.out pre wr w3 none hJ (grown_of_below hb3) (fun r hr => by cases hr)⟩⟩
      · have HX := Lib.hid hfix
        clear hfix
        gi_wp2_with (first
          | (gi_at_call 137; refine (callsIn_wide.2 ST.out).mono ?_; rintro e w2 ⟨A2, c2, L2, rfl, ho2, hp2, hv2, hB2⟩
             have hle : L2.length = L'.length := by rw [← vecs_len, hv2, HSZ.out]
             have hl2 : L2.length ≤ 64 := by omega
             have SA0 := sameM_any A2 c2 L2 _ rfl A' c' L' _ rfl w2 w2.heap.size ho2.rd (HO.out.below hB2).rd hle (by omega) (by omega) (fun u hu => by rw [hv2] at hu; have := hls.out u hu; omega) (fun u hu => by have := hlv.out u hu; omega)
             have eb : decide (vecs L2 = vecs L') = false := decide_eq_false (fun h => HX.out (hv2.symm.trans h))
             rw [eb] at SA0
             have SA := Lib.hid SA0
             clear SA0 eb hle)
          | (gi_at_call 138; refine (callsIn_wide.2 SA.out).mono ?_; rintro e w3 ⟨rfl, nq, hw3⟩
             have hb3 : Below wr.heap.size wr w3 := by rw [hw3]; exact below_drewN hB2 nq
             have hb4 : Below w2.heap.size w2 w3 := by rw [hw3]; exact below_drewN (Below.refl _ _) nq
             clear hw3
             have hJ3 := HJ.out pre wr w3 none hJ (grown_of_below hb3) (fun r hr => by cases hr)
             have ho3 := (ho2.base (show base ≤ wr.heap.size by omega)).below hb4
             obtain ⟨fn, tmps, assign, body, hyy, hR⟩ := HY.out pre (A2, c2, L2) w3 hJ3 ⟨ho3, hp2⟩ (by rw [HN.out, hpl.out]; exact hlt)
             have hy' : (Instr.yield l #[.slice A2 L2.length c2]).run Tryz.prog w3 = .ok (.round l fn tmps assign body) w3 := hyy
             have HR := Lib.hid hR
             clear hR hyy))
        refine HR.out.mono ?_
        rintro e W4 (⟨rfl, hJ4, hK4⟩ | ⟨rfl, hJx⟩)
        · gi_wp2
          go_roundw
          case rel =>
            refine ⟨k + 1, pre ++ [(A2, c2, L2)], A2, c2, L2, by omega, Lib.hid (by rw [List.length_append, hpl.out]; rfl), rfl, by go_num, ho3.keeps hK4, Lib.hid ?_, Lib.hid ?_, hJ4, ((hy.below (hb3.mono (Nat.le_trans hD hsz))).keeps hK4 hDs), ?_, ?_⟩
            · rw [hv2, hv.out]; rfl
            · rw [lastT_snoc]; show vecs L2 = _; rw [hv2, hv.out]; rfl
            · exact keeps_cell hK4 h3 ((hb3.cell (p := ⟨B3, 0, none⟩) (World.block_lt_of_cell? _ _ c3)).trans c3)
            · have := hb3.size
              have := hK4.size
              omega
          case measure => simp [intOf]; omega
        · gi_wp2
          refine bodyPost_ret (results_none rfl _ _ _) rfl ?_
          exact ⟨⟨_, rfl⟩, .inr ⟨_, trivial, hJx⟩⟩
    · obtain rfl : k = r := by omega
      gi_wp2
      go_end0
      exact ⟨⟨_, rfl⟩, .inl ⟨pre, hla.out, hJ⟩⟩
end Go.Proofs.YthbimjkcpmffcaaGreat
/- The walk of package means: Train. -/
namespace Go.Proofs.YthbimjkcpmffcaaGreat
open Go.RowKit Go.Shelf
set_option linter.unusedVariables false
attribute [local go_sem] Oper.semAt_some
/-- The iterator's contract. -/
theorem steps_seq (n s base D B1 B2 B3 : Nat) (A : Option Addr) (c : Nat) (L : List Vc) (B : Option Addr) (d : Nat) (M : List Vc) (r : Nat) (hr : r ≤ 100) (hn : 1 ≤ n) (w : World)
    (hb1 : Whole w B1 62 #[.slice A L.length c]) (hb2 : Whole w B2 3 #[.int .i64 r]) (hb3 : Whole w B3 62 #[.slice B M.length d]) (h3 : B3 ≠ s)
    (hO : OwnV w base A c L) (hy : RdV w D B M) (hDs : D ≤ s) (hD : D ≤ w.heap.size) (hbase : base ≤ w.heap.size) (hm : mayM (vecs L) (vecs M) = true) (hb : B8 (vecs L)) (hb2' : B8 (vecs M)) :
    SeqW Fence.wide n Tryz.prog 136 #[.pointer (some ⟨B1, 0, none⟩), .pointer (some ⟨B2, 0, none⟩), .pointer (some ⟨B3, 0, none⟩)] (fun x : Tl => encT x) (Keeps (Kd s)) (fun x W => OwnV W base x.1 x.2.1 x.2.2 ∧ ApartL x.2.2)
      (fun xs => lastT (vecs L) xs = stepsL (vecs M) r (vecs L)) (fun _ => True) r w :=
  fun l J Jx W hW hl hJ hJx hY h0 => steps_in n l s base D B1 B2 B3 A c L B d M r hr r rfl J Jx (fun pre x W1 hJ1 hT1 hlen => (hY pre x W1 hJ1 hT1 hlen).mono fun e W' h => h.2) W hJ
    ((hW.cell (p := ⟨B1, 0, none⟩) hb1.lt).trans (hb1.cell 0)) ((hW.cell (p := ⟨B2, 0, none⟩) hb2.lt).trans (hb2.cell 0)) ((hW.cell (p := ⟨B3, 0, none⟩) hb3.lt).trans (hb3.cell 0)) h3
    (hO.below hW) (hy.below (hW.mono hD)) hDs (Nat.le_trans hD hW.size) (Nat.le_trans hbase hW.size) hm hb hb2' h0 hn
set_option maxRecDepth 100000 in
set_option maxHeartbeats 1000000 in
theorem trainM_no (A : Option Addr) (c : Nat) (L : List Vc) (k r : Int) (s : Nat) (w : World) (hx : RdV w w.heap.size A L) (hl : L.length ≤ 140737488355328) (h : ¬ mayT (vecs L) k r) :
    Calls Tryz.prog 85 #[.slice A L.length c, .int .i64 k, .int .i64 r, .int .u64 s] w fun e w' => e = .returned (.tuple #[.slice none 0 0, .int .i64 1]) ∧ Below w.heap.size w w' := by
  have HA := Lib.hid (alike_any A c L _ rfl 2048 w _ hx hl)
  rw [likeB_all] at HA
  have hlen : ((vecs L).length : Int) = L.length := by rw [vecs_len]
  clear hx
  cases hb : mayB (vecs L) with
  | false =>
    rw [hb] at HA
    clear h hlen hb
    go_enter Tryz.func85, Tryz.ntmps85
    go_wp2_with (go_at_call 122; refine HA.out.mono ?_; rintro e w' ⟨rfl, rfl⟩)
    go_ret2
    exact ⟨rfl, Below.refl _ _⟩
  | true =>
    rw [hb] at HA
    by_cases h1 : k < 1
    · have e1 : decide (k < 1) = true := decide_eq_true h1
      clear h hlen hb
      go_enter Tryz.func85, Tryz.ntmps85
      go_wp2_with (go_at_call 122; refine HA.out.mono ?_; rintro e w' ⟨rfl, rfl⟩)
      go_ret2
      exact ⟨rfl, Below.refl _ _⟩
    · have e1 : decide (k < 1) = false := decide_eq_false h1
      by_cases h2 : 64 < k
      · have e2 : decide (64 < k) = true := decide_eq_true h2
        clear h hlen hb
        go_enter Tryz.func85, Tryz.ntmps85
        go_wp2_with (go_at_call 122; refine HA.out.mono ?_; rintro e w' ⟨rfl, rfl⟩)
        go_ret2
        exact ⟨rfl, Below.refl _ _⟩
      · have e2 : decide (64 < k) = false := decide_eq_false h2
        by_cases h3 : r < 0
        · have e3 : decide (r < 0) = true := decide_eq_true h3
          clear h hlen hb
          go_enter Tryz.func85, Tryz.ntmps85
          go_wp2_with (go_at_call 122; refine HA.out.mono ?_; rintro e w' ⟨rfl, rfl⟩)
          go_ret2
          exact ⟨rfl, Below.refl _ _⟩
        · have e3 : decide (r < 0) = false := decide_eq_false h3
          by_cases h4 : 100 < r
          · have e4 : decide (100 < r) = true := decide_eq_true h4
            clear h hlen hb
            go_enter Tryz.func85, Tryz.ntmps85
            go_wp2_with (go_at_call 122; refine HA.out.mono ?_; rintro e w' ⟨rfl, rfl⟩)
            go_ret2
            exact ⟨rfl, Below.refl _ _⟩
          · have e4 : decide (100 < r) = false := decide_eq_false h4
            have HP := Lib.hid (pick_no s (L.length : Nat) k (fun h5 => h ⟨hb, by omega, by omega, by omega, by omega, by omega⟩) w)
            clear h hlen hb
            go_enter Tryz.func85, Tryz.ntmps85
            go_wp2_with (first | (go_at_call 122; refine HA.out.mono ?_; rintro e w' ⟨rfl, rfl⟩) | (go_at_call 123; refine HP.out.mono ?_; rintro e w' ⟨rfl, hB⟩))
            go_ret2
            exact ⟨rfl, hB⟩
/-- Train's state behind some steps. -/
structure TrSt (b s : Nat) (w : World) (ms : List (List Int)) (pre : List Tl) (W : World) : Prop where
  is : ∃ A c L, Whole W s 62 #[.slice A (L : List Vc).length c] ∧ OwnV W b A c L ∧ ApartL L ∧ vecs L = lastT ms pre
  bel : Below w.heap.size w W
theorem TrSt.grown {b s : Nat} {w : World} {ms : List (List Int)} {pre : List Tl} {W W' : World} {row : Option Nat} (hs : TrSt b s w ms pre W) (hg : W.grownBy W' row) (hr : ∀ r, row = some r → w.heap.size ≤ r ∧ ∃ o : Obj, W.heap[r]? = some o ∧ o.isCells = false) : TrSt b s w ms pre W' := by
  obtain ⟨⟨A, c, L, h1, h2, h3, h4⟩, hb⟩ := hs
  exact ⟨⟨A, c, L, h1.kept hg hr, OwnV.own_from (B := w.heap.size) (A, c, L) W W' row h2 hg hr, h3, h4⟩, hb.grown hg hb.size (fun k e => (hr k e).1)⟩
theorem keeps_set {s : Nat} {W : World} {v : Value} {cs : Array Value} (hw : Whole W s 62 cs) : Keeps (Kd s) W (W.setCell ⟨s, 0, none⟩ v) :=
  ⟨by simp [World.setCell], fun k c t fr hK hk => by
    by_cases e : k = s
    · subst e
      rw [show W.heap[k]? = _ from hw] at hk
      injection hk with hk
      injection hk with _ hk _
      exact absurd ⟨hk.symm, rfl⟩ hK
    · rw [heap_setCell_other W ⟨s, 0, none⟩ k v e]; exact hk⟩
theorem TrSt.put {b s : Nat} {w : World} {F : List (List Int)} {pre : List Tl} {W : World} {v0 : Value} {x : Tl} (hw : Whole W s 62 #[v0]) (hb : Below w.heap.size w W) (hs : w.heap.size ≤ s) (ht : OwnV W b x.1 x.2.1 x.2.2 ∧ ApartL x.2.2) :
    Keeps (Kd s) W (W.setCell ⟨s, 0, none⟩ (.slice x.1 x.2.2.length x.2.1)) ∧ TrSt b s w F (pre ++ [x]) (W.setCell ⟨s, 0, none⟩ (.slice x.1 x.2.2.length x.2.1)) :=
  ⟨keeps_set hw, ⟨⟨x.1, x.2.1, x.2.2, hw.set 0 _, OwnV.keeps ht.1 (keeps_set hw), ht.2, (lastT_snoc _ _ _).symm⟩, hb.setCell (p := ⟨s, 0, none⟩) hs _⟩⟩
theorem four_boxes (W2 : World) (S : Nat) (e : W2.heap.size = S) (v0 v1 v2 v3 : Value) (t0 t1 t2 t3 : TypeId) {w : World} (hb : Below w.heap.size w W2) {A : Option Addr} {c : Nat} {L : List Vc} {b : Nat} (ho : OwnV W2 b A c L) :
    Whole ((((W2.alloc (.cells #[v0] t0)).alloc (.cells #[v1] t1)).alloc (.cells #[v2] t2)).alloc (.cells #[v3] t3)) S t0 #[v0] ∧ Whole ((((W2.alloc (.cells #[v0] t0)).alloc (.cells #[v1] t1)).alloc (.cells #[v2] t2)).alloc (.cells #[v3] t3)) (S + 1) t1 #[v1] ∧
    Whole ((((W2.alloc (.cells #[v0] t0)).alloc (.cells #[v1] t1)).alloc (.cells #[v2] t2)).alloc (.cells #[v3] t3)) (S + 1 + 1) t2 #[v2] ∧ Whole ((((W2.alloc (.cells #[v0] t0)).alloc (.cells #[v1] t1)).alloc (.cells #[v2] t2)).alloc (.cells #[v3] t3)) (S + 1 + 1 + 1) t3 #[v3] ∧
    Below w.heap.size w ((((W2.alloc (.cells #[v0] t0)).alloc (.cells #[v1] t1)).alloc (.cells #[v2] t2)).alloc (.cells #[v3] t3)) ∧ ((((W2.alloc (.cells #[v0] t0)).alloc (.cells #[v1] t1)).alloc (.cells #[v2] t2)).alloc (.cells #[v3] t3)).heap.size = S + 1 + 1 + 1 + 1 ∧ OwnV ((((W2.alloc (.cells #[v0] t0)).alloc (.cells #[v1] t1)).alloc (.cells #[v2] t2)).alloc (.cells #[v3] t3)) b A c L := by
  subst e
  have hs := hb.size
  have b4 : Below W2.heap.size W2 ((((W2.alloc (.cells #[v0] t0)).alloc (.cells #[v1] t1)).alloc (.cells #[v2] t2)).alloc (.cells #[v3] t3)) := below_one (below_one (below_one (below_one (Below.refl _ _) _) _) _) _
  have a1 := Whole.new (W2.alloc (.cells #[v0] t0)) t1 #[v1]
  have a2 := Whole.new ((W2.alloc (.cells #[v0] t0)).alloc (.cells #[v1] t1)) t2 #[v2]
  have a3 := Whole.new (((W2.alloc (.cells #[v0] t0)).alloc (.cells #[v1] t1)).alloc (.cells #[v2] t2)) t3 #[v3]
  simp only [World.size_alloc] at a1 a2 a3
  exact ⟨(((Whole.new W2 t0 #[v0]).alloc _).alloc _).alloc _, (a1.alloc _).alloc _, a2.alloc _, a3, hb.trans (b4.mono hs), by simp, ho.below b4⟩
set_option maxRecDepth 100000 in
set_option maxHeartbeats 4000000 in
theorem trainM_yes (A : Option Addr) (c : Nat) (L : List Vc) (k r s : Nat) (w : World) (hs : s < 18446744073709551616) (hx : RdV w w.heap.size A L) (hb : mayB (vecs L) = true) (h1 : 1 ≤ k) (h2 : k ≤ 64) (h3 : k ≤ L.length) (h4 : r ≤ 100) (hb8 : B8 (vecs L)) :
    CallsIn Fence.wide 9 Tryz.prog 85 #[.slice A L.length c, .int .i64 k, .int .i64 r, .int .u64 s] w fun e w' => ∃ A' c' L', e = .returned (.tuple #[.slice A' (L' : List Vc).length c', .int .i64 0]) ∧ OwnV w' w.heap.size A' c' L' ∧ ApartL L' ∧ vecs L' = stepsL (vecs L) r (firstL (vecs L) s k) ∧ Below w.heap.size w w' := by
  have f33 : Fence.wide.fn 122 := trivial
  have f34 : Fence.wide.fn 123 := trivial
  have f35 : Fence.wide.fn 124 := trivial
  have f36 : Fence.wide.fn 125 := trivial
  have h9 : 1 ≤ 9 := by omega
  have hm := mayB_yes hb
  have hl2 : L.length ≤ 2048 := by have := hm.2.1; rw [vecs_len] at this; exact this
  have HA := Lib.hid (alike_any A c L _ rfl 2048 w _ hx (by omega))
  rw [likeB_all, hb] at HA
  have HD : Hid (∀ u ∈ vecs L, 1 ≤ u.length ∧ u.length ≤ 64) := fun u hu => by rw [mayB_len hb u hu]; exact ⟨hm.2.2.1, hm.2.2.2.1⟩
  have HB8 := Lib.hid hb8
  have HMAY := Lib.hid (firstL_may (s := s) hb h1 h2 (by rw [vecs_len]; exact h3))
  have HB8F : Hid (B8 (firstL (vecs L) s k)) := fun v hv => hb8 v (firstL_mem hv)
  have HPK := Lib.hid (pick_yes s L.length k hl2 h3 w)
  have HPL := Lib.hid (pkL_len (s := s) h3)
  have HPX := Lib.hid (fun x (hx : x ∈ pkL s L.length k) => pkL_lt hx)
  have EF : Hid (firstL (vecs L) s k = (pkL s L.length k).map (vAt (vecs L))) := by unfold firstL; rw [vecs_len]; rfl
  obtain ⟨F, eF⟩ : ∃ F, firstL (vecs L) s k = F := ⟨_, rfl⟩
  rw [eF] at HMAY HB8F EF ⊢
  obtain ⟨ps, eP⟩ : ∃ ps, pkL s L.length k = ps := ⟨_, rfl⟩
  simp only [eP] at HPK HPL HPX EF
  obtain ⟨T, eT⟩ : ∃ T, shufS s L.length = T := ⟨_, rfl⟩
  simp only [eT] at HPK
  have e1 : decide ((k : Int) < 1) = false := decide_eq_false (by omega)
  have e2 : decide ((64 : Int) < (k : Int)) = false := decide_eq_false (by omega)
  have e3 : decide ((r : Int) < 0) = false := decide_eq_false (by omega)
  have e4 : decide ((100 : Int) < (r : Int)) = false := decide_eq_false (by omega)
  clear hm hb hb8 eF eP eT
  refine callsIn_of_wp_marks Tryz.func85 rfl trivial ?_ rfl
  simp only [Tryz.ntmps85, List.size_toArray, List.length_cons, List.length_nil, Nat.reduceAdd, Nat.reduceSub, Array.replicate_succ, Array.replicate_zero, List.push_toArray, List.append_toArray, List.nil_append, List.cons_append]
  gi_wp2_with (first
    | (gi_at_call 122; refine (callsIn_wide.2 HA.out).mono ?_; rintro e w' ⟨rfl, rfl⟩)
    | (gi_at_call 123; refine (callsIn_wide.2 HPK.out).mono ?_; rintro e W1 ⟨v, rfl, hv0, hown, hb1⟩
       obtain ⟨pa, pm, pc, rfl⟩ := own_form hown
       obtain rfl := own_len hown
       have hpr : Rd .i64 W1 W1.heap.size pa (ints ps) := by
         obtain ⟨A', c', hv, _, _, hrd, _⟩ := own_slice hown
         injection hv with q1 q2 q3
         rw [q1]; exact hrd
       have CP0 := copiesAt_any A c L pa pc ps W1 ((hx.below hb1).more hb1.size) hpr HPX.out (by rw [HPL.out]; exact h2) hl2 HD.out
       rw [HPL.out, ← EF.out] at CP0
       have CP := Lib.hid CP0
       have OB1 := Lib.hid hb1
       clear CP0 hpr hv0 hown hb1)
    | (gi_at_call 124; refine (callsIn_wide.2 CP.out).mono ?_; rintro e W2 ⟨A2, c2, L2, rfl, ho, hp, hv, hb2⟩
       have cz : (W2.alloc (.cells #[.slice none 0 0] 62)).cell? ⟨W2.heap.size, 0, none⟩ = some (.slice none 0 0) := (Whole.new W2 62 _).cell 0
       have fz : (W2.alloc (.cells #[.slice none 0 0] 62)).frozen? ⟨W2.heap.size, 0, none⟩ = false := (Whole.new W2 62 _).frozen 0)
    | (gi_at_call 125; refine (callsIn_wide.2 (steps_any _ _ _ _ _ _ _ _)).mono ?_; rintro e W3 ⟨rfl, hW3⟩))
  have hb1 := OB1.out
  have hs2 : w.heap.size ≤ W2.heap.size := Nat.le_trans hb1.size hb2.size
  have hbw2 : Below w.heap.size w W2 := hb1.trans (hb2.mono hb1.size)
  have ho2 := ho.base hb1.size
  have HAP := Lib.hid hp
  obtain ⟨S, eS⟩ : ∃ S, W2.heap.size = S := ⟨_, rfl⟩
  obtain ⟨q0, q1, q2, q3, qb, qs, qo⟩ := four_boxes W2 S eS (.slice A2 L2.length c2) (.slice A2 L2.length c2) (.slice A L.length c) (.int .i64 r) 62 62 62 3 hbw2 ho2
  rw [eS] at hs2 ⊢
  clear cz fz ho hb1 hb2 hbw2 ho2 eS CP OB1 hp
  generalize (((W2.alloc (.cells #[.slice A2 L2.length c2] 62)).alloc (.cells #[.slice A2 L2.length c2] 62)).alloc (.cells #[.slice A L.length c] 62)).alloc (.cells #[.int .i64 r] 3) = W3 at q0 q1 q2 q3 qb qs qo ⊢
  have HST := steps_seq (9 - 1) S w.heap.size w.heap.size (S + 1) (S + 1 + 1 + 1) (S + 1 + 1) A2 c2 L2 A c L r h4 (by omega) W3 q1 q3 q2 (by omega) qo (hx.below qb) hs2 qb.size qb.size (by rw [hv]; exact HMAY.out) (by rw [hv]; exact HB8F.out) HB8.out
  rw [hv] at HST
  refine wpIn_rangeFunc_W rfl h9 (gf := 136) (lb := #[.pointer (some ⟨S + 1, 0, none⟩), .pointer (some ⟨S + 1 + 1 + 1, 0, none⟩), .pointer (some ⟨S + 1 + 1, 0, none⟩)]) rfl trivial (enters_of Tryz.func136 (by kernel_rfl) rfl)
    HST Keeps.trans (fun W l o o' _ h hc _ => Keeps.put W l o o' h hc) (Below.refl _ _) (fun _ => rfl)
    (fun x W W' row hs hg hr => ⟨OwnV.own_from x W W' row hs.1 hg (fun r e => ⟨Nat.zero_le _, (hr r e).2⟩), hs.2⟩)
    (fun pre W => TrSt w.heap.size S w F pre W) (fun _ _ _ => False)
    (fun pre W W' row hs hg hr => hs.grown hg (fun r e => ⟨Nat.le_trans (by omega) (hr r e).1, (hr r e).2⟩))
    (fun _ _ _ _ _ hs _ _ => hs)
    ⟨⟨A2, c2, L2, q0, qo, HAP.out, by rw [lastT_nil]; exact hv⟩, qb⟩
    (fun x => { tmps := #[.slice A L.length c, .int .i64 pm, .int .i64 r, .int .u64 s, undef, undef, undef, undef, .slice none 0 0, .int .i64 0, .slice pa pm pc, .int .u64 T, .int .i64 0, .pointer (some ⟨S, 0, none⟩), .slice x.1 x.2.2.length x.2.1,
      .slice A L.length c, .bool true, .bool false, .bool false, .int .i64 pm, .bool false, .bool false, .bool false, .int .i64 pm, .bool false, .bool false, .bool false, .int .i64 r, .bool false, .bool false, .bool false, .int .i64 r, .bool false, .bool false,
      .tuple #[.slice pa pm pc, .int .u64 T, .int .i64 0], .int .u64 s, .slice A L.length c, .int .i64 L.length, .int .i64 pm, .tuple #[.slice pa pm pc, .int .u64 T, .int .i64 0], .slice pa pm pc, .int .u64 T, .int .i64 0, .int .i64 0, .bool false, undef,
      .slice A L.length c, .slice pa pm pc, .slice A2 L2.length c2, .slice A2 L2.length c2, .slice A L.length c, .int .i64 r,
      .func (.func 136) #[] #[.pointer (some ⟨S + 1, 0, none⟩), .pointer (some ⟨S + 1 + 1 + 1, 0, none⟩), .pointer (some ⟨S + 1 + 1, 0, none⟩)], .slice x.1 x.2.2.length x.2.1, undef, undef], defers := [] }) ?assign ?body ?done ?stop
  case assign =>
    intro l x W K hK
    simp only [encT]
    gi_wp2
    exact hK
  case body =>
    rintro l pre x W hs ht hlen
    obtain ⟨⟨A3, c3, L3, hw, ho, ha, hv3⟩, hbl⟩ := hs
    have cw : W.cell? ⟨S, 0, none⟩ = some (.slice A3 L3.length c3) := hw.cell 0
    have fw : W.frozen? ⟨S, 0, none⟩ = false := hw.frozen 0
    have HP := Lib.hid (TrSt.put (F := F) (pre := pre) hw hbl hs2 ht)
    have hk := keepsFrom_turn (B := W3.heap.size) ((Turn.refl [S] W).setCell (p := ⟨S, 0, none⟩) (.inl (by simp)) (.slice x.1 x.2.2.length x.2.1)) (by simp; omega)
    clear ho ha hv3 ht hbl
    gi_wp2
    exact ⟨hk, HP.out⟩
  case done =>
    rintro D ys W hD hys hs hK
    obtain ⟨⟨A3, c3, L3, hw, ho, ha, hv3⟩, hbl⟩ := hs
    have cw : W.cell? ⟨S, 0, none⟩ = some (.slice A3 L3.length c3) := hw.cell 0
    have HO := Lib.hid (OwnFrom.putObj (OwnV.own_from (base := w.heap.size) (B := 0)) (s := (A3, c3, L3)) (.deferred none) ho (Nat.zero_le _) hK rfl)
    have HV := Lib.hid (hv3.trans hys)
    have HA2 := Lib.hid ha
    clear ho hv3 ha hw
    gi_wp2
    refine ⟨by simp, .inl ⟨_, _, rfl, run_takeDeferred hK, ?_⟩⟩
    exact ⟨_, results_tmp2 rfl _ _ _, A3, c3, L3, rfl, HO.out, HA2.out, HV.out, hbl.trans (belowK_b (w := w) (Nat.le_refl _) W D _ _ (by omega) hK rfl rfl)⟩
  case stop =>
    rintro D c pre W _ _ h _
    exact h.elim
theorem train_spec : TrainSpec := by
  intro A c L k r s w hx hs
  by_cases h : mayTB (vecs L) k r = true
  · have hm := mayTB_yes h
    obtain ⟨h1, h2, h3, h4, h5, h6⟩ := hm
    obtain ⟨K, rfl⟩ := Int.eq_ofNat_of_zero_le (show 0 ≤ k by omega)
    obtain ⟨R, rfl⟩ := Int.eq_ofNat_of_zero_le h5
    rw [vecs_len] at h4
    have e : trainA (vecs L) (K : Int) (R : Int) s = stepsL (vecs L) R (firstL (vecs L) s K) := by unfold trainA; rw [h]; simp
    rw [h, e]
    refine (callsIn_wide.1 (trainM_yes A c L K R s w hs hx.rd h1 (by omega) (by omega) (by omega) (by omega) hx.b8)).mono ?_
    rintro e' w' ⟨A', c', L', rfl, q1, q2, q3, q4⟩
    exact ⟨A', c', L', rfl, q1, q2, q3, q4⟩
  · have hf : mayTB (vecs L) k r = false := by simpa using h
    have e : trainA (vecs L) k r s = [] := by unfold trainA; rw [hf]; rfl
    rw [hf, e]
    refine (trainM_no A c L k r s w hx.rd (by have := hx.len; omega) (mayTB_no hf)).mono ?_
    rintro e' w' ⟨rfl, q⟩
    exact ⟨none, 0, [], rfl, OwnV.nil _ _, ApartL.nil, rfl, q⟩
end Go.Proofs.YthbimjkcpmffcaaGreat
