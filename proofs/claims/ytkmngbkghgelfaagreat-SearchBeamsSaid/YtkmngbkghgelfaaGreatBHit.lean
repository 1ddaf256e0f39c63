/- The Book of the statements, the kind Hit: filling, growing, looking, keeping. -/
import Derived.Test.YtkmngbkghgelfaaGreatProg
import Derived.Test.YtkmngbkghgelfaaGreatBn
import Derived.Test.YtkmngbkghgelfaaGreatBl
import Derived.Maps.AppendAt
import Derived.ArgAppend
import Derived.WalkKit
import Derived.WalkSpells
import Derived.WalkLawsBesides
import Derived.Deep.QuietTactic
import Derived.Deep.RegionWith
import Derived.Deep.AppendLies
import Derived.Deep.RegionHeld3
import Derived.Deep.RegionLaw
import Derived.BigQuiet
import Derived.Lib.Hide
import Derived.Shelf.SlSortCmp.QuietGrown
namespace Go.Proofs.YtkmngbkghgelfaaGreat
open Go.RowKit
set_option linter.unusedVariables false
set_option linter.unusedSimpArgs false
namespace Bk
def mkHit (n : Nat) : List Value := [.int .u64 (1000 + (n : Int)), .int .i64 0]
theorem markHit_any (n : Nat) (hn : n ≤ 1000000) (w : World) : Calls Tryz.prog 100 #[.int .i64 (n : Int)] w fun e w' => e = .returned (.agg #[.int .u64 (1000 + (n : Int)), .int .i64 0]) ∧ w' = w.alloc (.cells #[.int .u64 (1000 + (n : Int)), .int .i64 0] 78) := by
  go_enter Tryz.func100, Tryz.ntmps100
  go_wp2
  refine bodyPost_ret (v := .agg #[.int .u64 (1000 + (n : Int)), .int .i64 0]) ?_ rfl ⟨rfl, rfl⟩
  exact results_cell_row rfl _ _ w.heap.size 78 #[.int .u64 (1000 + (n : Int)), .int .i64 0] (0, 0) _ rfl (heap_alloc_new w _) Tryz.underlying78 rfl (by kernel_rfl)
theorem isHit_any (n : Nat) (hn : n ≤ 1000000) (w : World) : Calls Tryz.prog 112 #[.agg #[.int .u64 (1000 + (n : Int)), .int .i64 0], .int .i64 (n : Int)] w fun e w' => e = .returned (.bool true) ∧ w' = w.alloc (.cells #[.int .u64 (1000 + (n : Int)), .int .i64 0] 78) := by
  go_enter Tryz.func112, Tryz.ntmps112
  go_wp2
  go_ret
  exact ⟨rfl, rfl⟩
theorem fill_endHit {base lim t T B c k g : Nat} {es : List Ent} {e : Ent} {mk : Nat → List Value} {cs : Array Value} {v0 v1 : Value} {w wr : World} {X : Obj} (hb : base ≤ w.heap.size) (hF : FrmL base lim t w wr) (hL : Lists wr base t 2 es mk k) (hB : wr.heap[B]? = some (.cells cs T (0, 0))) (hne : T ≠ t)
    (hU : Upto wr base t 2 e (mk e.num) (c * 2)) (hA : e.A = some ⟨g, 0, none⟩) (hgl : ∀ b, e.blk = some b → b < lim) (he : es[k]? = some e) (hc : c < e.len) (hm : (mk e.num).length = 2) (h0 : (mk e.num)[0]? = some v0) (h1 : (mk e.num)[1]? = some v1) :
    FrmL base lim t w (((wr.setCell ⟨g, c * 2, none⟩ v0).setCell ⟨g, c * 2 + 1, none⟩ v1).alloc X).drew ∧ Lists (((wr.setCell ⟨g, c * 2, none⟩ v0).setCell ⟨g, c * 2 + 1, none⟩ v1).alloc X).drew base t 2 es mk k ∧ (((wr.setCell ⟨g, c * 2, none⟩ v0).setCell ⟨g, c * 2 + 1, none⟩ v1).alloc X).drew.heap[B]? = some (.cells cs T (0, 0)) ∧ Upto (((wr.setCell ⟨g, c * 2, none⟩ v0).setCell ⟨g, c * 2 + 1, none⟩ v1).alloc X).drew base t 2 e (mk e.num) ((c + 1) * 2) := by
  obtain ⟨xs, hown, _⟩ := id hU
  obtain ⟨g', cur, hA', hgb, hg⟩ := own_parts hown (by omega)
  rw [hA] at hA'
  have eg : g' = g := by injection hA' with h; injection h with h; exact h.symm
  subst eg
  have hgl' : g' < lim := hgl g' (by unfold Ent.blk Ent.val; rw [hA]; rfl)
  have t0 : ∃ cur, wr.heap[g']? = some (.cells cur t (0, 0)) := ⟨_, hg⟩
  have F0 := hF.set hb hgb hgl' t0 (c * 2) v0
  have t1 := type_set (c * 2) v0 t0
  have L0 := hL.stored (c := c * 2) (m := v0) he hA
  have U0 := hU.step (v := v0) (by omega) hA (by rw [hm, show (c * 2) % 2 = 0 by omega]; exact h0)
  have F1 := F0.set hb hgb hgl' t1 (c * 2 + 1) v1
  have t2 := type_set (c * 2 + 1) v1 t1
  have L1 := L0.stored (c := c * 2 + 1) (m := v1) he hA
  have U1 := U0.step (v := v1) (by omega) hA (by rw [hm, show (c * 2 + 1) % 2 = 1 by omega]; exact h1)
  have nB : B ≠ g' := HB.ne ⟨cs, hB⟩ hg hne
  have hl : B < wr.heap.size := (Array.getElem?_eq_some_iff.1 hB).1
  have bl : Below ((wr.setCell ⟨g', c * 2, none⟩ v0).setCell ⟨g', c * 2 + 1, none⟩ v1).heap.size ((wr.setCell ⟨g', c * 2, none⟩ v0).setCell ⟨g', c * 2 + 1, none⟩ v1) (((wr.setCell ⟨g', c * 2, none⟩ v0).setCell ⟨g', c * 2 + 1, none⟩ v1).alloc X) := (Below.refl _ _).alloc (Nat.le_refl _) X
  have sz := F1.below.size
  refine ⟨(F1.trans (FrmL.of_below bl (by omega))).drewN 1, (L1.kept bl).drewN 1, ?_, ?_⟩
  · show (((wr.setCell ⟨g', c * 2, none⟩ v0).setCell ⟨g', c * 2 + 1, none⟩ v1).alloc X).heap[B]? = _
    rw [Below.heap_alloc _ _ _ (by simp [World.setCell]; exact hl)]
    rw [Below.heap_setCell _ _ _ _ nB, Below.heap_setCell _ _ _ _ nB]
    exact hB
  · have := U1.alloc X
    rw [show c * 2 + 1 + 1 = (c + 1) * 2 by omega] at this
    exact this
set_option maxRecDepth 100000 in
set_option maxHeartbeats 1000000 in
theorem fillHit_any (bk h hcap base lim : Nat) (es : List Ent) (lg : Nat → Ent) (w : World) (hes : es.length ≤ 1000000) (hcap1 : es.length ≤ hcap) (hb : base ≤ w.heap.size)
    (hbk : w.cell? ⟨bk, 10, none⟩ = some (.slice (some ⟨h, 0, none⟩) es.length hcap)) (obk : OtherL lim w 78 bk) (oh : OtherL lim w 78 h) (hrow : Held w h es lg) (hl : Lists w base 78 2 es mkHit 0)
    (hnum : ∀ e ∈ es, e.num ≤ 1000000 ∧ e.len ≤ 10000000) (hold : ∀ (j : Nat) (e : Ent), es[j]? = some e → ∀ b, e.blk = some b → b < lim) :
    Calls Tryz.prog 43 #[.pointer (some ⟨bk, 0, none⟩)] w fun e w' => e = .returned (.tuple #[]) ∧ FrmL base lim 78 w w' ∧ Lists w' base 78 2 es mkHit es.length := by
  have HOLD := Lib.hid hold
  clear hold
  go_enter Tryz.func43, Tryz.ntmps43
  go_wp2
  go_loopw [2] (fun i wr => ∃ k : Nat, k ≤ es.length ∧ i = .int .i64 k ∧ FrmL base lim 78 w wr ∧ Lists wr base 78 2 es mkHit k) (fun i _ => es.length - (intOf i).toNat)
  case atStart => exact ⟨0, by omega, rfl, FrmL.refl _ _ _ _, hl⟩
  case round =>
    clear hl
    obtain ⟨k, hk, rfl, hF, hL⟩ := hrel
    have hbk' : wr.cell? ⟨bk, 10, none⟩ = some (.slice (some ⟨h, 0, none⟩) es.length hcap) := (hF.cell (p := ⟨bk, 10, none⟩) obk).trans hbk
    by_cases hlt : k < es.length
    · obtain ⟨e, he⟩ : ∃ e, es[k]? = some e := ⟨_, List.getElem?_eq_getElem hlt⟩
      obtain ⟨q0, q1, q2⟩ := hrow k e he
      have p0 : wr.cell? ⟨h, k * 3, none⟩ = some (.slice e.A e.len e.cap) := (hF.cell (p := ⟨h, k * 3, none⟩) oh).trans q0
      have p1 : wr.cell? ⟨h, k * 3 + 1, none⟩ = some (.slice (lg k).A (lg k).len (lg k).cap) := (hF.cell (p := ⟨h, k * 3 + 1, none⟩) oh).trans q1
      have p2 : wr.cell? ⟨h, k * 3 + 2, none⟩ = some (.int .i64 e.num) := (hF.cell (p := ⟨h, k * 3 + 2, none⟩) oh).trans q2
      have he' := Lib.hid he
      clear q0 q1 q2 he
      have hne := hnum e (List.mem_of_getElem? he'.out)
      obtain ⟨box, hbox⟩ : ∃ box : Obj, box = .cells #[.slice e.A e.len e.cap, .slice (lg k).A (lg k).len (lg k).cap, .int .i64 e.num] 114 := ⟨_, rfl⟩
      have hsz := hF.below.size
      have hFa : FrmL base lim 78 w (wr.alloc box) := hF.trans (FrmL.of_below ((Below.refl _ _).alloc (Nat.le_refl _) _) (by omega))
      have hLa : Lists (wr.alloc box) base 78 2 es mkHit k := hL.kept ((Below.refl _ _).alloc (Nat.le_refl _) _)
      have hBx : (wr.alloc box).heap[wr.heap.size]? = some box := heap_alloc_new wr box
      obtain ⟨xs0, hown0, _⟩ := hLa.own k e he'.out
      have hU : Upto (wr.alloc box) base 78 2 e (mkHit e.num) (0 * 2) := ⟨xs0, hown0, fun i hi => by omega⟩
      rw [hbox] at hFa hLa hBx hU
      clear hbox hown0 hL hF
      go_wp2
      clear p0 p1 p2 hbk'
      obtain ⟨wo, rfl⟩ : ∃ wo : World, wo = wr := ⟨_, rfl⟩
      go_loopw [4] (fun i w2 => ∃ c : Nat, c ≤ e.len ∧ i = .int .i64 c ∧ FrmL base lim 78 w w2 ∧ Lists w2 base 78 2 es mkHit k ∧ w2.heap[wo.heap.size]? = some (.cells #[.slice e.A e.len e.cap, .slice (lg k).A (lg k).len (lg k).cap, .int .i64 e.num] 114) ∧ Upto w2 base 78 2 e (mkHit e.num) (c * 2)) (fun i _ => e.len - (intOf i).toNat)
      case atStart => exact ⟨0, by omega, rfl, hFa, hLa, hBx, hU⟩
      case round =>
        clear hFa hLa hBx hU
        obtain ⟨c, hc, rfl, hF, hL, hB, hU⟩ := hrel
        have b0 : wr.cell? ⟨wo.heap.size, 0, none⟩ = some (.slice e.A e.len e.cap) := cell_of_row wr _ 0 _ _ _ hB
        have b2 : wr.cell? ⟨wo.heap.size, 2, none⟩ = some (.int .i64 e.num) := cell_of_row wr _ 2 _ _ _ hB
        by_cases hclt : c < e.len
        · have hU0 := Lib.hid hU
          obtain ⟨xs, hown, hxs⟩ := hU
          obtain ⟨g, cur, hA, hgb, hg⟩ := own_parts hown (by omega)
          have hv : e.val = .slice (some ⟨g, 0, none⟩) e.len e.cap := by unfold Ent.val; rw [hA]
          have hlen : xs.length = e.len * 2 := hown.1
          have hlg : g < wr.heap.size := (Array.getElem?_eq_some_iff.1 hg).1
          have hlB : wo.heap.size < wr.heap.size := (Array.getElem?_eq_some_iff.1 hB).1
          obtain ⟨u0, hu0⟩ : ∃ u, wr.cell? ⟨g, c * 2, none⟩ = some u := by
            rw [hv] at hown
            rw [hown.cellAt (c * 2) (by omega), List.getElem?_eq_getElem (by omega)]; exact ⟨_, rfl⟩
          obtain ⟨u1, hu1⟩ : ∃ u, wr.cell? ⟨g, c * 2 + 1, none⟩ = some u := by
            rw [hv] at hown
            rw [hown.cellAt (c * 2 + 1) (by omega), List.getElem?_eq_getElem (by omega)]; exact ⟨_, rfl⟩
          have hf : ∀ j, wr.frozen? ⟨g, j, none⟩ = false := fun j => by rw [hv] at hown; exact hown.frozenAt j
          have HA := Lib.hid hA
          rw [hA] at b0
          clear hA hv
          have MK := Lib.hid (fun W => markHit_any e.num hne.1 W)
          have c0 : (0 : Int) ≤ (c : Int) := by omega
          have c1 : (c : Int) < (e.len : Int) := by omega
          go_wp2
          have HE : Hid (FrmL base lim 78 w (((wr.setCell ⟨g, c * 2, none⟩ (.int .u64 (1000 + (e.num : Int)))).setCell ⟨g, c * 2 + 1, none⟩ (.int .i64 0)).alloc (.cells #[.int .u64 (1000 + (e.num : Int)), .int .i64 0] 78)).drew ∧
              Lists (((wr.setCell ⟨g, c * 2, none⟩ (.int .u64 (1000 + (e.num : Int)))).setCell ⟨g, c * 2 + 1, none⟩ (.int .i64 0)).alloc (.cells #[.int .u64 (1000 + (e.num : Int)), .int .i64 0] 78)).drew base 78 2 es mkHit k ∧
              (((wr.setCell ⟨g, c * 2, none⟩ (.int .u64 (1000 + (e.num : Int)))).setCell ⟨g, c * 2 + 1, none⟩ (.int .i64 0)).alloc (.cells #[.int .u64 (1000 + (e.num : Int)), .int .i64 0] 78)).drew.heap[wo.heap.size]? = some (.cells #[.slice e.A e.len e.cap, .slice (lg k).A (lg k).len (lg k).cap, .int .i64 e.num] 114) ∧
              Upto (((wr.setCell ⟨g, c * 2, none⟩ (.int .u64 (1000 + (e.num : Int)))).setCell ⟨g, c * 2 + 1, none⟩ (.int .i64 0)).alloc (.cells #[.int .u64 (1000 + (e.num : Int)), .int .i64 0] 78)).drew base 78 2 e (mkHit e.num) ((c + 1) * 2)) :=
            fill_endHit hb hF hL hB (by decide) hU0.out HA.out (HOLD.out _ _ he'.out) he'.out hclt (show (mkHit e.num).length = 2 from rfl) rfl rfl
          clear hF hL hB hown hxs hU0 hlen hg
          have W2 : Hid (∀ X, (wr.drew.alloc X).cell? ⟨wo.heap.size, 0, none⟩ = some (.slice (some ⟨g, 0, none⟩) e.len e.cap) ∧ (wr.drew.alloc X).cell? ⟨wo.heap.size, 2, none⟩ = some (.int .i64 e.num)) := fun X => ⟨(World.cell?_alloc_lt wr.drew X _ hlB).trans b0, (World.cell?_alloc_lt wr.drew X _ hlB).trans b2⟩
          go_region_with (go_at_call 100; refine (MK.out _).mono ?_; rintro e' w' ⟨rfl, rfl⟩)
          all_goals
            go_wp2
            go_roundw
            case rel => exact ⟨c + 1, by omega, by go_num, HE.out⟩
            case measure => simp [intOf]; omega
        · obtain rfl : c = e.len := by omega
          have hL' := hL.next he'.out (hU.full rfl)
          clear hU hB hL
          go_wp2
          go_roundw
          case rel => exact ⟨k + 1, by omega, by go_num, hF, hL'⟩
          case measure => simp [intOf]; omega
    · go_wp2
      go_end0
      obtain rfl : k = es.length := by omega
      exact ⟨rfl, hF, hL⟩
theorem Tryz.info78v : (Tryz.prog.info? 78).map (fun i => (i.zero, i.size, i.bytes)) = some (some (.agg #[.int .u64 0, .int .i64 0]), 2, 16) := by kernel_rfl
set_option maxRecDepth 100000 in
set_option maxHeartbeats 2000000 in
theorem growHit_any (bk h hcap base lim : Nat) (es : List Ent) (lg0 : Nat → Ent) (w : World) (hes : es.length ≤ 1000000) (hcap1 : es.length ≤ hcap) (hb : base ≤ w.heap.size) (hbh : base ≤ h)
    (hbk : w.cell? ⟨bk, 10, none⟩ = some (.slice (some ⟨h, 0, none⟩) es.length hcap)) (obk : OtherL lim w 78 bk) (obk2 : OtherL lim w 114 bk) (hh : HB w h 114) (hrow : Held w h es lg0) (hl : Grown3 w w base 78 2 es mkHit lg0 0)
    (hnum : ∀ e ∈ es, e.num ≤ 1000000 ∧ e.len ≤ 10000000) (hhl : h < lim) (hold : ∀ (j : Nat) (e : Ent), es[j]? = some e → ∀ b, e.blk = some b → b < lim) :
    Calls Tryz.prog 55 #[.pointer (some ⟨bk, 0, none⟩)] w fun e w' => e = .returned (.tuple #[]) ∧ Frm2L base lim 78 114 w w' ∧ HB w' h 114 ∧ ∃ lg, Held w' h es lg ∧ Grown3 w w' base 78 2 es mkHit lg es.length := by
  obtain ⟨i0, hi, hz0, hz1, hz2⟩ := info_parts Tryz.info78v
  have HOLD := Lib.hid hold
  clear hold
  go_enter Tryz.func55, Tryz.ntmps55
  go_wp2
  go_loopw [2] (fun i wr => ∃ k : Nat, k ≤ es.length ∧ i = .int .i64 k ∧ Frm2L base lim 78 114 w wr ∧ HB wr h 114 ∧ ∃ lg, Held wr h es lg ∧ Grown3 w wr base 78 2 es mkHit lg k) (fun i _ => es.length - (intOf i).toNat)
  case atStart => exact ⟨0, by omega, rfl, Frm2L.refl _ _ _ _ _, hh, lg0, hrow, hl⟩
  case round =>
    clear hl hh hrow
    obtain ⟨k, hk, rfl, hF, hH, lg, hR, hG⟩ := hrel
    have hbk' : wr.cell? ⟨bk, 10, none⟩ = some (.slice (some ⟨h, 0, none⟩) es.length hcap) := (hF.cell (p := ⟨bk, 10, none⟩) obk obk2).trans hbk
    by_cases hlt : k < es.length
    · obtain ⟨e, he⟩ : ∃ e, es[k]? = some e := ⟨_, List.getElem?_eq_getElem hlt⟩
      obtain ⟨p0, p1, p2⟩ := hR k e he
      have he' := Lib.hid he
      clear he
      have hne := hnum e (List.mem_of_getElem? he'.out)
      obtain ⟨box, hbox⟩ : ∃ box : Obj, box = .cells #[.slice e.A e.len e.cap, .slice (lg k).A (lg k).len (lg k).cap, .int .i64 e.num] 114 := ⟨_, rfl⟩
      have hsz := hF.below.size
      have hga : wr.grownBy (wr.alloc box) none := World.grownBy_alloc _ _ _
      have hFa : Frm2L base lim 78 114 w (wr.alloc box) := hF.grown hga hb (fun r e => by cases e)
      have hHa : HB (wr.alloc box) h 114 := hH.same (Below.heap_alloc _ _ _ hH.lt)
      have hRa : Held (wr.alloc box) h es lg := hR.same (Below.heap_alloc _ _ _ hH.lt)
      have hGa : Grown3 w (wr.alloc box) base 78 2 es mkHit lg k := hG.below hga
      have hBx : (wr.alloc box).heap[wr.heap.size]? = some box := heap_alloc_new wr box
      have hlongs : Hid (∀ (j : Nat) (e : Ent), es[j]? = some e → j < k → ∀ b, (lg j).blk = some b → b < wr.heap.size) := fun j e hj hjk b hb' => ((hG.long j e hj hjk).2.1.lt b hb').2
      rw [hbox] at hFa hHa hRa hGa hBx
      clear hbox hga hF hH hR hG
      go_wp2
      clear p0 p1 p2 hbk'
      obtain ⟨wo, rfl⟩ : ∃ wo : World, wo = wr := ⟨_, rfl⟩
      have hM0 : MidL base lim 78 114 2 es mkHit lg k h wo.heap.size (.cells #[.slice e.A e.len e.cap, .slice (lg k).A (lg k).len (lg k).cap, .int .i64 e.num] 114) w (wo.alloc (.cells #[.slice e.A e.len e.cap, .slice (lg k).A (lg k).len (lg k).cap, .int .i64 e.num] 114)) := ⟨hFa, hHa, hRa, hGa, hBx⟩
      have hfull := hGa.full k e he'.out
      clear hFa hHa hRa hGa hBx
      go_loopw [4, 5] (fun v i w2 => ∃ (c : Nat) (VA : Option Addr) (vc : Nat), c ≤ 40 ∧ i = .int .i64 c ∧ v = .slice VA (e.len + c) vc ∧ Hid ((VA = e.A ∧ vc = e.cap) ∨ ∃ b, VA = some ⟨b, 0, none⟩ ∧ wo.heap.size < b) ∧
          w2.ownsRow base 78 2 (.slice VA (e.len + c) vc) (e.len + c) (reps (e.len + c) (mkHit e.num)) ∧ MidL base lim 78 114 2 es mkHit lg k h wo.heap.size (.cells #[.slice e.A e.len e.cap, .slice (lg k).A (lg k).len (lg k).cap, .int .i64 e.num] 114) w w2) (fun _ i _ => 40 - (intOf i).toNat)
      case atStart => exact ⟨0, e.A, e.cap, by omega, rfl, rfl, .inl ⟨rfl, rfl⟩, hfull, hM0⟩
      case round =>
        clear hM0 hfull
        obtain ⟨c, VA, vc, hc, rfl, rfl, hloc, hown, hM⟩ := hrel
        have b2 : wr.cell? ⟨wo.heap.size, 2, none⟩ = some (.int .i64 e.num) := cell_of_row wr _ 2 _ _ _ hM.bx
        have hBlt : wo.heap.size < wr.heap.size := (Array.getElem?_eq_some_iff.1 hM.bx).1
        have hsz2 := hM.frm.below.size
        by_cases hclt : c < 40
        · have MK : Hid (∀ W, Calls Tryz.prog 100 #[.int .i64 (e.num : Int)] W fun e' w' => e' = .returned (.agg #[.int .u64 (1000 + (e.num : Int)), .int .i64 0]) ∧ w' = W.alloc (.cells #[.int .u64 (1000 + (e.num : Int)), .int .i64 0] 78)) := fun W => markHit_any e.num hne.1 W
          have hMb : MidL base lim 78 114 2 es mkHit lg k h wo.heap.size (.cells #[.slice e.A e.len e.cap, .slice (lg k).A (lg k).len (lg k).cap, .int .i64 e.num] 114) w (wr.alloc (.cells #[.int .u64 (1000 + (e.num : Int)), .int .i64 0] 78)) := hM.fresh (World.grownBy_alloc _ _ _) hb
          have hownb : (wr.alloc (.cells #[.int .u64 (1000 + (e.num : Int)), .int .i64 0] 78)).ownsRow base 78 2 (.slice VA (e.len + c) vc) (e.len + c) (reps (e.len + c) (mkHit e.num)) := hown.alloc _
          have hMa : MidL base lim 78 114 2 es mkHit lg k h wo.heap.size (.cells #[.slice e.A e.len e.cap, .slice (lg k).A (lg k).len (lg k).cap, .int .i64 e.num] 114) w ((wr.alloc (.cells #[.int .u64 (1000 + (e.num : Int)), .int .i64 0] 78)).alloc (.cells #[.int .u64 (1000 + (e.num : Int)), .int .i64 0] 78)) := hMb.fresh (World.grownBy_alloc _ _ _) hb
          by_cases hroom : e.len + c < vc
          · obtain ⟨g, cur, rfl, hgb, hgt⟩ := own_parts' hownb (by omega)
            go_wp2_with (first
              | (go_at_call 100; refine (MK.out _).mono ?_; rintro e' w' ⟨rfl, rfl⟩)
              | (at_builtin; refine wpList_append_fits _ rfl (.tmp 28) (.tmp 32) 30 rfl base 78 i0 2 Tryz.underlying30 hi hz1 g (e.len + c) vc _ rfl (hownb.alloc _) ⟨wr.heap.size + 1, 0, none⟩ 1 1 [.int .u64 (1000 + (e.num : Int)), .int .i64 0] rfl rfl (World.news_of_block (cs := #[.int .u64 (1000 + (e.num : Int)), .int .i64 0]) (t := 78) (fr := (0, 0)) (heap_alloc2_new wr _ _)) (by simp [Value.oneCell']) (by omega) ?_; intro w3 hown3 hg3))
            have hown3' : w3.ownsRow base 78 2 (.slice (some ⟨g, 0, none⟩) (e.len + (c + 1)) vc) (e.len + (c + 1)) (reps (e.len + (c + 1)) (mkHit e.num)) := by
              rw [← reps_snoc]; exact hown3
            have hloc' : e.blk = some g ∨ wo.heap.size ≤ g := by
              rcases hloc.out with ⟨h1, _⟩ | ⟨b, h1, h2⟩
              · left; unfold Ent.blk Ent.val; rw [← h1]; rfl
              · right; injection h1 with h1; injection h1 with h1; omega
            have hf3 : Full w3 base 78 2 e (mkHit e.num) := by
              rcases hloc.out with ⟨h1, h2⟩ | ⟨b, h1, h2⟩
              · have := own_shrink rfl hown3'
                unfold Full Ent.val
                rw [← h1, ← h2]; exact this
              · refine (hMa.grown.full k e he'.out).kept hg3 ?_
                cases hbk : e.val.ownBlock with
                | none => exact .inl rfl
                | some b' =>
                  refine .inr (fun e2 => ?_)
                  injection e2 with e2
                  have h3 := hMa.grown.old k e he'.out b' hbk
                  injection h1 with h1; injection h1 with h1
                  omega
            have hM3 := hMa.row hg3 hb hgb ((Below.heap_alloc _ _ _ (Array.getElem?_eq_some_iff.1 hgt).1).trans hgt) (by decide) he'.out (so := wo.heap.size) (by omega) hlongs.out hloc' hf3 (HOLD.out _ _ he'.out)
            clear hown3 hg3 hMa hMb hownb hown hM hgt hloc' hf3 b2
            go_wp2
            go_roundw
            case rel => exact ⟨c + 1, _, vc, by omega, by go_num, by rw [Nat.add_assoc], hloc, hown3', hM3⟩
            case measure => simp [intOf]; omega
          · go_wp2_with (first
              | (go_at_call 100; refine (MK.out _).mono ?_; rintro e' w' ⟨rfl, rfl⟩)
              | (at_builtin; refine wpList_append_grows _ rfl (.tmp 28) (.tmp 32) 30 rfl 78 i0 (.agg #[.int .u64 0, .int .i64 0]) 2 16 Tryz.underlying30 hi hz0 hz1 hz2 rfl (by decide) VA (e.len + c) vc (reps (e.len + c) (mkHit e.num)) rfl (own_nil hownb) (by rw [reps_len]; rfl) (own_olds (hownb.alloc _)) ⟨wr.heap.size + 1, 0, none⟩ 1 1 [.int .u64 (1000 + (e.num : Int)), .int .i64 0] rfl rfl (World.news_of_block (cs := #[.int .u64 (1000 + (e.num : Int)), .int .i64 0]) (t := 78) (fr := (0, 0)) (heap_alloc2_new wr _ _)) (by simp [Value.oneCell']) (by omega) (by unfold maxLen; omega) (by omega) ?_; intro v3 w3 hown3 hg3))
            have hsv : ∃ b vc3, v3 = .slice (some ⟨b, 0, none⟩) (e.len + (c + 1)) vc3 ∧ wr.heap.size + 1 ≤ b := by
              rcases hown3.2 with ⟨_, h0⟩ | ⟨b, vc3, cur, rfl, hb3, _⟩
              · omega
              · exact ⟨b, vc3, rfl, by simp at hb3; omega⟩
            obtain ⟨b, vc3, rfl, hb3⟩ := hsv
            have hown3' : w3.ownsRow base 78 2 (.slice (some ⟨b, 0, none⟩) (e.len + (c + 1)) vc3) (e.len + (c + 1)) (reps (e.len + (c + 1)) (mkHit e.num)) := by
              rw [← reps_snoc]; exact own_base hown3 (by simp; omega)
            have hM3 := hMa.fresh hg3 hb
            clear hown3 hg3 hMa hMb hownb hown hM b2
            go_wp2
            go_roundw
            case rel => exact ⟨c + 1, _, vc3, by omega, by go_num, rfl, .inr ⟨b, rfl, by omega⟩, hown3', hM3⟩
            case measure => simp [intOf]; omega
        · obtain rfl : c = 40 := by omega
          have hbk3 : wr.cell? ⟨bk, 10, none⟩ = some (.slice (some ⟨h, 0, none⟩) es.length hcap) := (hM.frm.cell (p := ⟨bk, 10, none⟩) obk obk2).trans hbk
          obtain ⟨_, r1, _⟩ := hM.held k e he'.out
          have fz := hM.hb.frozen (k * 3 + 1)
          have hblk : (⟨VA, e.len + 40, vc, 0⟩ : Ent).blk = e.blk ∨ ∃ b, (⟨VA, e.len + 40, vc, 0⟩ : Ent).blk = some b ∧ w.heap.size ≤ b := by
            rcases hloc.out with ⟨h1, h2⟩ | ⟨b, h1, h2⟩
            · left; unfold Ent.blk Ent.val; rw [h1]; cases e.A <;> rfl
            · right; exact ⟨b, by unfold Ent.blk Ent.val; rw [h1]; rfl, by omega⟩
          have hG3 := (hM.grown.stored (i := k * 3 + 1) (u := .slice VA (e.len + 40) vc) hM.hb (by decide)).next (L := ⟨VA, e.len + 40, vc, 0⟩) he'.out rfl (own_other hown hM.hb (by decide)) hblk
          have hR3 := hM.held.stored (L := ⟨VA, e.len + 40, vc, 0⟩) he'.out
          have hH3 := hM.hb.setCell (k * 3 + 1) (.slice VA (e.len + 40) vc)
          have hF3 : Frm2L base lim 78 114 w (wr.setCell ⟨h, k * 3 + 1, none⟩ (.slice VA (e.len + 40) vc)) := hM.frm.grown (grown_set _ _ _ _) hb (fun r e' => by injection e' with e'; subst e'; exact ⟨hbh, .inr hM.hb, .inl hhl⟩)
          clear hM hown hblk b2 hloc
          go_wp2
          go_roundw
          case rel => exact ⟨k + 1, by omega, by go_num, hF3, hH3, _, hR3, hG3⟩
          case measure => simp [intOf]; omega
    · go_wp2
      go_end0
      obtain rfl : k = es.length := by omega
      exact ⟨rfl, hF, hH, lg, hR, hG⟩
set_option maxRecDepth 100000 in
set_option maxHeartbeats 2000000 in
theorem lookHit_any (W0 : World) (bk h hcap base : Nat) (es : List Ent) (lg : Nat → Ent) (w : World) (hes : es.length ≤ 1000000) (hcap1 : es.length ≤ hcap)
    (hbk : w.cell? ⟨bk, 10, none⟩ = some (.slice (some ⟨h, 0, none⟩) es.length hcap)) (hbl : bk < w.heap.size) (hhl : h < w.heap.size) (hrow : Held w h es lg) (hl : Grown3 W0 w base 78 2 es mkHit lg es.length)
    (hnum : ∀ e ∈ es, e.num ≤ 1000000 ∧ e.len ≤ 10000000) :
    Calls Tryz.prog 67 #[.pointer (some ⟨bk, 0, none⟩)] w fun e w' => e = .returned (.bool true) ∧ Below w.heap.size w w' := by
  have mixed : Tryz.prog.follows .mixedOrders = true := by kernel_rfl
  go_enter Tryz.func67, Tryz.ntmps67
  go_wp2
  go_loopw [3] (fun i wr => ∃ k : Nat, k ≤ es.length ∧ i = .int .i64 k ∧ Below w.heap.size w wr) (fun i _ => es.length - (intOf i).toNat)
  case atStart => exact ⟨0, by omega, rfl, Below.refl _ _⟩
  case round =>
    obtain ⟨k, hk, rfl, hB⟩ := hrel
    have hbk' : wr.cell? ⟨bk, 10, none⟩ = some (.slice (some ⟨h, 0, none⟩) es.length hcap) := (hB.cell (p := ⟨bk, 10, none⟩) hbl).trans hbk
    have hsz := hB.size
    by_cases hlt : k < es.length
    · obtain ⟨e, he⟩ : ∃ e, es[k]? = some e := ⟨_, List.getElem?_eq_getElem hlt⟩
      obtain ⟨q0, q1, q2⟩ := hrow k e he
      obtain ⟨hll, hlo, _⟩ := hl.long k e he hlt
      have hfu := hl.full k e he
      have hne := hnum e (List.mem_of_getElem? he)
      rw [hll] at q1
      have p0 : wr.cell? ⟨h, k * 3, none⟩ = some (.slice e.A e.len e.cap) := (hB.cell (p := ⟨h, k * 3, none⟩) hhl).trans q0
      have p1 : wr.cell? ⟨h, k * 3 + 1, none⟩ = some (.slice (lg k).A (e.len + 40) (lg k).cap) := (hB.cell (p := ⟨h, k * 3 + 1, none⟩) hhl).trans q1
      have p2 : wr.cell? ⟨h, k * 3 + 2, none⟩ = some (.int .i64 e.num) := (hB.cell (p := ⟨h, k * 3 + 2, none⟩) hhl).trans q2
      have hlo' : w.ownsRow base 78 2 (.slice (lg k).A (e.len + 40) (lg k).cap) (e.len + 40) (reps (e.len + 40) (mkHit e.num)) := by unfold Ent.val at hlo; rw [hll] at hlo; exact hlo
      have HLO := Lib.hid hlo'
      have HFU := Lib.hid hfu
      clear q0 q1 q2 hll hlo hlo' hfu he
      go_wp2
      clear p0 p1 p2 hbk'
      obtain ⟨wo, rfl⟩ : ∃ wo : World, wo = wr := ⟨_, rfl⟩
      generalize (lg k).A = LA at *
      generalize (lg k).cap = Lc at *
      go_loopw [5] (fun i w2 => ∃ c : Nat, c ≤ e.len + 40 ∧ i = .int .i64 c ∧ Below w.heap.size w w2 ∧ w2.heap[wo.heap.size]? = some (.cells #[.slice e.A e.len e.cap, .slice LA (e.len + 40) Lc, .int .i64 e.num] 114)) (fun i _ => e.len + 40 - (intOf i).toNat)
      case atStart => exact ⟨0, by omega, rfl, hB.alloc hsz _, heap_alloc_new wo _⟩
      case round =>
        obtain ⟨c, hc, rfl, hB2, hBx⟩ := hrel
        have b0 : wr.cell? ⟨wo.heap.size, 0, none⟩ = some (.slice e.A e.len e.cap) := cell_of_row wr _ 0 _ _ _ hBx
        have b1 : wr.cell? ⟨wo.heap.size, 1, none⟩ = some (.slice LA (e.len + 40) Lc) := cell_of_row wr _ 1 _ _ _ hBx
        have b2 : wr.cell? ⟨wo.heap.size, 2, none⟩ = some (.int .i64 e.num) := cell_of_row wr _ 2 _ _ _ hBx
        have hBlt : wo.heap.size < wr.heap.size := (Array.getElem?_eq_some_iff.1 hBx).1
        have hsz2 := hB2.size
        have hF : Hid (∀ nq os, Below w.heap.size w (Sort.grow (wr.drewN nq) os) ∧ (Sort.grow (wr.drewN nq) os).heap[wo.heap.size]? = some (.cells #[.slice e.A e.len e.cap, .slice LA (e.len + 40) Lc, .int .i64 e.num] 114)) := fun nq os =>
          ⟨hB2.trans ((grow_below wr nq os).mono hB2.size), ((grow_below wr nq os).block _ hBlt).trans hBx⟩
        by_cases hclt : c < e.len + 40
        · obtain ⟨lb, hLA, hlb, hlc⟩ := reps_cell (s := 2) rfl HLO.out hclt
          have k0 := fun n os => Go.cell_grown (a := ⟨lb, c * 2, none⟩) (by show lb < wr.heap.size; omega) (((hB2.cell (p := ⟨lb, c * 2, none⟩) hlb).trans (hlc 0 (by omega)) : wr.cell? ⟨lb, c * 2, none⟩ = some (.int .u64 (1000 + (e.num : Int))))) n os
          have k1 := fun n os => Go.cell_grown (a := ⟨lb, c * 2 + 1, none⟩) (by show lb < wr.heap.size; omega) (((hB2.cell (p := ⟨lb, c * 2 + 1, none⟩) hlb).trans (hlc 1 (by omega)) : wr.cell? ⟨lb, c * 2 + 1, none⟩ = some (.int .i64 0))) n os
          subst hLA
          have m1 := fun n os => Go.cell_grown (a := ⟨wo.heap.size, 1, none⟩) hBlt b1 n os
          have m2 := fun n os => Go.cell_grown (a := ⟨wo.heap.size, 2, none⟩) hBlt b2 n os
          have c0 : (0 : Int) ≤ (c : Int) := by omega
          have c1 : (c : Int) < (e.len : Int) + 40 := by omega
          have IS : Hid (∀ n os, Calls Tryz.prog 112 #[.agg #[.int .u64 (1000 + (e.num : Int)), .int .i64 0], .int .i64 (e.num : Int)] (Sort.grow (wr.drewN n) os) fun e' w' => e' = .returned (.bool true) ∧ ∃ q os', w' = Sort.grow ((Sort.grow (wr.drewN n) os).drewN q) os') :=
            fun n os => (isHit_any e.num hne.1 _).mono fun e' w' h => ⟨h.1, 0, _, h.2.trans (Sort.alloc_eq_grow _ _)⟩
          have HB2 := Lib.hid hB2
          clear hlc hB2 hBx
          by_cases hin : c < e.len
          · obtain ⟨g, hA, hg, hgc⟩ := reps_cell (s := 2) rfl HFU.out hin
            have j0 := fun n os => Go.cell_grown (a := ⟨g, c * 2, none⟩) (by show g < wr.heap.size; omega) (((HB2.out.cell (p := ⟨g, c * 2, none⟩) hg).trans (hgc 0 (by omega)) : wr.cell? ⟨g, c * 2, none⟩ = some (.int .u64 (1000 + (e.num : Int))))) n os
            have j1 := fun n os => Go.cell_grown (a := ⟨g, c * 2 + 1, none⟩) (by show g < wr.heap.size; omega) (((HB2.out.cell (p := ⟨g, c * 2 + 1, none⟩) hg).trans (hgc 1 (by omega)) : wr.cell? ⟨g, c * 2 + 1, none⟩ = some (.int .i64 0))) n os
            rw [hA] at b0
            have m0 := fun n os => Go.cell_grown (a := ⟨wo.heap.size, 0, none⟩) hBlt b0 n os
            have c2 : (c : Int) < (e.len : Int) := by omega
            have HA := Lib.hid hA
            clear hgc hA
            go_wp2
            refine wp_region_quiet_grown mixed (by kernel_rfl) ?_
            repeat (go_big_quiet_step ((go_at_call 112; with_reducible refine Calls.grown_of (IS.out _ _))))
            refine wpQuiet_nil ?_
            intro _ hw'
            obtain ⟨⟨nq', osq⟩, hw''⟩ := hw'
            subst hw''
            go_wp2
            go_roundw
            case rel => exact ⟨c + 1, by omega, by go_num, hF.out _ _⟩
            case measure => simp [intOf]; omega
          · have c2 : decide ((c : Int) < (e.len : Int)) = false := by simp; omega
            have m0 := fun n os => Go.cell_grown (a := ⟨wo.heap.size, 0, none⟩) hBlt b0 n os
            go_wp2
            refine wp_region_quiet_grown mixed (by kernel_rfl) ?_
            repeat (go_big_quiet_step ((go_at_call 112; with_reducible refine Calls.grown_of (IS.out _ _))))
            refine wpQuiet_nil ?_
            intro _ hw'
            obtain ⟨⟨nq', osq⟩, hw''⟩ := hw'
            subst hw''
            go_wp2
            go_roundw
            case rel => exact ⟨c + 1, by omega, by go_num, hF.out _ _⟩
            case measure => simp [intOf]; omega
        · go_wp2
          go_roundw
          case rel => exact ⟨k + 1, by omega, by go_num, hB2⟩
          case measure => simp [intOf]; omega
    · go_wp2
      go_ret
      exact ⟨rfl, hB⟩
theorem Tryz.info114k : (Tryz.prog.info? 114).map (fun i => (i.zero, i.size, i.bytes)) = some (some (.agg #[.slice none 0 0, .slice none 0 0, .int .i64 0]), 3, 56) := by kernel_rfl
theorem keep_endHit {w w1 w2 : World} {bk base n g gc : Nat} {A B : Option Addr} {len cap bc : Nat} {sv : Nat → Value} {es : List Ent} {X : Obj} {xs : List Value} (hb : base ≤ w.heap.size) (hbb : base ≤ bk) (hk : BookAt w bk n sv) (hv : sv 10 = .slice B es.length bc)
    (hl : Lists w base 78 2 es mkHit 0) (hx : w.ownsRow base 78 2 (.slice A len cap) len xs) (hap : ∀ e' ∈ es, e'.blk = none ∨ e'.blk ≠ (Value.slice A len cap).ownBlock) (hnum : ∀ e ∈ es, e.num ≤ 1000000 ∧ e.len ≤ 10000000) (hn : n < 1000000) (hlen : len ≤ 10000000) (hes : es.length < 1000000)
    (ho : w.ownsRow base 114 3 (.slice B es.length bc) es.length (rowCells es)) (hw1 : w.setCell ⟨bk, 0, none⟩ (.int .i64 ((n : Int) + 1)) = w1)
    (ho2 : w2.ownsRow base 114 3 (.slice (some ⟨g, 0, none⟩) (es.length + 1) gc) (es.length + 1) (rowCells es ++ [.slice A len cap, .slice none 0 0, .int .i64 ((n : Int) + 1)])) (hg : (w1.alloc X).drew.grownBy w2 (Value.slice B es.length bc).ownBlock) (hat : (Value.slice B es.length bc).ownBlock = some g ∨ g = w1.heap.size + 1) :
    Kept 10 114 78 2 mkHit w bk base n sv (es ++ [⟨A, len, cap, n + 1⟩]) (.returned (.tuple #[])) (w2.setCell ⟨bk, 10, none⟩ (.slice (some ⟨g, 0, none⟩) (es.length + 1) gc)) := by
  have hlt : bk < w.heap.size := hk.hb.lt
  have hs1 : w1.heap.size = w.heap.size := by rw [← hw1]; simp [World.setCell]
  have k1 : BookAt w1 bk ((n : Int) + 1) sv := by
    rw [← hw1]
    exact (heap_setCell_same w bk 0 _ 50 _ hk).trans (by simp)
  have hrow := own_hb ho hk.hb (by decide)
  have k2 : BookAt w2 bk ((n : Int) + 1) sv := (hg.block bk (by show bk < (w1.alloc X).heap.size; simp; omega) (Ne.symm hrow)).trans ((Below.heap_alloc w1 X bk (by omega)).trans k1)
  have k3 : BookAt (w2.setCell ⟨bk, 10, none⟩ (.slice (some ⟨g, 0, none⟩) (es.length + 1) gc)) bk ((n : Int) + 1) (updB sv 10 (.slice (some ⟨g, 0, none⟩) (es.length + 1) gc)) := (heap_setCell_same w2 bk 10 _ 50 _ k2).trans (by simp [updB])
  have f1 : Frm2 base 114 50 w w1 := by
    rw [← hw1]
    exact Frm2.of_grown (grown_set _ _ _ _) hb (fun r e' => by injection e' with e'; subst e'; exact ⟨hbb, .inr hk.hb⟩)
  have f2 : Frm2 base 114 50 w1 (w1.alloc X).drew := ⟨((Below.refl _ _).alloc (by omega) X).drew, fun k hk _ _ => Below.heap_alloc w1 X k hk⟩
  have ho1 : w1.ownsRow base 114 3 (.slice B es.length bc) es.length (rowCells es) := by rw [← hw1]; exact own_other ho hk.hb (by decide)
  have f3 : Frm2 base 114 50 (w1.alloc X).drew w2 := Frm2.of_grown hg (by show base ≤ (w1.alloc X).heap.size; simp; omega) (fun r e' => by
    rcases (ho1.alloc X).2 with ⟨hv, _⟩ | ⟨g', cap', cur, hv, hbg, hgt, _⟩
    · rw [hv] at e'; simp [Value.ownBlock] at e'
    · rw [hv] at e'
      have : g' = r := by simpa [Value.ownBlock] using e'
      subst this
      exact ⟨hbg, .inl ⟨cur, hgt⟩⟩)
  have f4 : Frm2 base 114 50 w2 (w2.setCell ⟨bk, 10, none⟩ (.slice (some ⟨g, 0, none⟩) (es.length + 1) gc)) :=
    Frm2.of_grown (grown_set _ _ _ _) (by have := hg.size; simp at this; omega) (fun r e' => by injection e' with e'; subst e'; exact ⟨hbb, .inr k2.hb⟩)
  have F := ((f1.trans f2).trans f3).trans f4
  refine ⟨rfl, _, fun j hj => if_neg hj, k3, ⟨?_, .inr ⟨g, gc, ?_, ?_⟩, fun e he => ?_, by simp; omega⟩, F, fun g' hg' => ?_, fun k hk1 hk2 hk3 => ?_⟩
  · refine Lists.snoc (hl.map (fun h => own_frm2 h F (by decide) (by decide))) (xs := xs) ?_ ?_
    · exact own_frm2 hx F (by decide) (by decide)
    · exact hap
  · simp [updB]
  · rw [rowCells_snoc]
    simp only [updB, if_pos, List.length_append, List.length_singleton]
    exact own_other ho2 k2.hb (by decide)
  · rcases List.mem_append.1 he with h | h
    · exact hnum e h
    · simp only [List.mem_singleton] at h
      subst h
      exact ⟨by show n + 1 ≤ 1000000; omega, hlen⟩
  · have e2 : g = g' := by simpa [updB, Value.ownBlock] using hg'
    subst e2
    rw [hv]
    rcases hat with h | h
    · exact .inl h
    · exact .inr (by omega)
  · have q1 : (w.setCell ⟨bk, 0, none⟩ (.int .i64 ((n : Int) + 1))).heap[k]? = w.heap[k]? := (grown_set _ _ _ _).block k hk1 (fun e => hk2 (by injection e))
    rw [hw1] at q1
    have q2 := (Below.heap_alloc w1 X k (by omega)).trans q1
    have q3 := (hg.block k (by show k < (w1.alloc X).heap.size; simp; omega) (by rw [← hv]; exact Ne.symm hk3)).trans q2
    exact ((grown_set _ _ _ _).block k (by have := hg.size; simp at this; omega) (fun e => hk2 (by injection e))).trans q3
set_option maxRecDepth 100000 in
set_option maxHeartbeats 2000000 in
theorem keepHit_any (bk base n : Nat) (A : Option Addr) (len cap : Nat) (sv : Nat → Value) (es : List Ent) (xs : List Value) (w : World) (hn : n < 1000000) (hb : base ≤ w.heap.size) (hbb : base ≤ bk) (hk : BookAt w bk n sv)
    (hK : KIn w base 78 114 2 es mkHit 0 (sv 10)) (hx : w.ownsRow base 78 2 (.slice A len cap) len xs) (hap : ∀ e' ∈ es, e'.blk = none ∨ e'.blk ≠ (Value.slice A len cap).ownBlock) (hlen : len ≤ 10000000) (hes : es.length < 1000000) :
    Calls Tryz.prog 33 #[.pointer (some ⟨bk, 0, none⟩), .slice A len cap] w (Kept 10 114 78 2 mkHit w bk base n sv (es ++ [⟨A, len, cap, n + 1⟩])) := by
  obtain ⟨B, bc, hv, ho⟩ : ∃ B bc, sv 10 = .slice B es.length bc ∧ w.ownsRow base 114 3 (.slice B es.length bc) es.length (rowCells es) := by
    rcases hK.row with ⟨h1, h2⟩ | ⟨h, c, h1, h2⟩
    · subst h1; exact ⟨none, 0, h2, World.ownsRow_nil _ _ _ _⟩
    · exact ⟨_, _, h1, by rw [← h1]; exact h2⟩
  obtain ⟨i0, hi, hz0, hz1, hz2⟩ := info_parts Tryz.info114k
  have c0 : w.cell? ⟨bk, 0, none⟩ = some (.int .i64 n) := hk.cell 0
  have c1 : w.cell? ⟨bk, 10, none⟩ = some (.slice B es.length bc) := by rw [← hv]; exact hk.cell 10
  have f0 := hk.hb.frozen 0
  have f1 := hk.hb.frozen 10
  obtain ⟨w1, hw1⟩ : ∃ w1, w.setCell ⟨bk, 0, none⟩ (.int .i64 ((n : Int) + 1)) = w1 := ⟨_, rfl⟩
  have d0 : w1.cell? ⟨bk, 0, none⟩ = some (.int .i64 ((n : Int) + 1)) := by rw [← hw1]; exact World.cell?_setCell_same' _ _ _ (by rw [c0]; rfl)
  have d1 : w1.cell? ⟨bk, 10, none⟩ = some (.slice B es.length bc) := by rw [← hw1, World.cell?_setCell_other _ _ _ _ (fun e => by injection e with _ e; omega)]; exact c1
  have g1 : w1.frozen? ⟨bk, 10, none⟩ = false := by rw [← hw1, World.frozen?_setCell]; exact f1
  have ho1 : w1.ownsRow base 114 3 (.slice B es.length bc) es.length (rowCells es) := by rw [← hw1]; exact own_other ho hk.hb (by decide)
  have hlt : bk < w1.heap.size := World.block_lt_of_cell? w1 _ d1
  have hb1 : base ≤ w1.heap.size := by omega
  have hrow : (Value.slice B es.length bc).ownBlock ≠ some bk := own_hb ho hk.hb (by decide)
  have HW1 := Lib.hid hw1
  have K1 : Hid (∀ X, (w1.alloc X).drew.cell? ⟨bk, 0, none⟩ = some (.int .i64 ((n : Int) + 1)) ∧ (w1.alloc X).drew.cell? ⟨bk, 10, none⟩ = some (.slice B es.length bc) ∧ (w1.alloc X).drew.frozen? ⟨bk, 10, none⟩ = false) := fun X =>
    ⟨(World.cell?_alloc_lt w1 X ⟨bk, 0, none⟩ hlt).trans d0, (World.cell?_alloc_lt w1 X ⟨bk, 10, none⟩ hlt).trans d1, (World.frozen?_of_block (w := w1) (w' := w1.alloc X) (Below.heap_alloc w1 X bk hlt)).trans g1⟩
  have EN := Lib.hid (fun w2 g gc ho2 X hg hat => keep_endHit (w2 := w2) (g := g) (gc := gc) (X := X) hb hbb hk hv hK.lists hx hap hK.num hn hlen hes ho hw1 ho2 hg hat)
  go_enter Tryz.func33, Tryz.ntmps33
  go_wp2
  clear hw1 c0 c1 f0 f1 hK hx hap hv
  go_region_law
    ((refine step_append_lies _ (by rfl) _ _ _ (by rfl) base 114 i0 _ 3 56 Tryz.underlying46 hi hz0 hz1 hz2 rfl (by omega) (.slice B es.length bc) es.length (rowCells es) (by rfl) ((ho1.alloc _).drew)
        ⟨w1.heap.size, 0, none⟩ 1 1 [.slice A len cap, .slice none 0 0, .int .i64 ((n : Int) + 1)] (by rfl) (by rfl) (World.news_of_block (cs := #[.slice A len cap, .slice none 0 0, .int .i64 ((n : Int) + 1)]) (t := 114) (fr := (0, 0)) (heap_alloc_new w1 _)) (by simp [Value.oneCell'])
        (by omega) (by unfold maxLen; omega) (by omega) (by simp; omega) (w1.heap.size + 1) (by simp) ?_; intro gg gcap w2 hown2 hgrow hat hlt2; have e1 := (hgrow.cell_far (a := ⟨bk, 10, none⟩) (by simp; omega) (Ne.symm hrow)).trans (K1.out _).2.1; have e2 := (hgrow.frozen_far (a := ⟨bk, 10, none⟩) (by simp; omega) (Ne.symm hrow)).trans (K1.out _).2.2))
  all_goals
    go_end0
    exact EN.out _ _ _ hown2 _ hgrow hat
theorem fillHit_gen {w : World} {bk base lim : Nat} {n : Int} {sv : Nat → Value} {es : List Ent} (hb : base ≤ w.heap.size) (hk : BookAt w bk n sv) (h : KIn w base 78 114 2 es mkHit 0 (sv 10)) (hold : ∀ (j : Nat) (e : Ent), es[j]? = some e → ∀ b, e.blk = some b → b < lim) :
    Calls Tryz.prog 43 #[.pointer (some ⟨bk, 0, none⟩)] w fun e w' => e = .returned (.tuple #[]) ∧ FrmL base lim 78 w w' ∧ KIn w' base 78 114 2 es mkHit es.length (sv 10) := by
  rcases h.row with ⟨h1, h2⟩ | ⟨b, c, h1, h2⟩
  · subst h1
    exact (fillHit_nil bk w (by rw [← h2]; exact hk.cell 10)).mono fun e w' ⟨he, hw⟩ => ⟨he, hw ▸ FrmL.refl _ _ _ _, hw ▸ h⟩
  · rw [h1] at h2
    have hcap := (own_capv h2).1
    have hB : HB w b 114 := own_HB h2
    refine (fillHit_any bk b c base lim es _ w h.len hcap hb (by rw [← h1]; exact hk.cell 10) (hk.hb.other (by decide)).l (hB.other (by decide)).l (held_own h2) h.lists h.num hold).mono fun e w' ⟨he, hf, hl⟩ => ⟨he, hf, hl, .inr ⟨b, c, h1, by rw [h1]; exact own_frmL h2 hf (by decide)⟩, h.num, h.len⟩
theorem growHit_gen {w : World} {bk base lim : Nat} {n : Int} {sv : Nat → Value} {es : List Ent} (hb : base ≤ w.heap.size) (hk : BookAt w bk n sv) (h : KIn w base 78 114 2 es mkHit es.length (sv 10)) (hold : ∀ (j : Nat) (e : Ent), es[j]? = some e → ∀ b, e.blk = some b → b < lim) (hrow : ∀ g, (sv 10).ownBlock = some g → g < lim) :
    Calls Tryz.prog 55 #[.pointer (some ⟨bk, 0, none⟩)] w fun e w' => e = .returned (.tuple #[]) ∧ Frm2L base lim 78 114 w w' ∧ KOut w' base 78 114 2 es mkHit (sv 10) := by
  rcases h.row with ⟨h1, h2⟩ | ⟨b, c, h1, h2⟩
  · subst h1
    exact (growHit_nil bk w (by rw [← h2]; exact hk.cell 10)).mono fun e w' ⟨he, hw⟩ => ⟨he, hw ▸ Frm2L.refl _ _ _ _ _, .inl ⟨rfl, h2⟩, h.num, h.len⟩
  · rw [h1] at h2
    have hcap := (own_capv h2).1
    have hB : HB w b 114 := own_HB h2
    have hbb : base ≤ b := (h2.lt b rfl).1
    have hG : Grown3 w w base 78 2 es mkHit (fun _ => ⟨none, 0, 0, 0⟩) 0 := ⟨fun j e hj => by
      obtain ⟨xs, q1, q2⟩ := h.lists.own j e hj
      rw [q2 (List.getElem?_eq_some_iff.1 hj).1] at q1
      exact q1, fun j e hj hk => by omega, h.lists.apart, fun j e hj b hb => by
      obtain ⟨xs, q1, q2⟩ := h.lists.own j e hj
      exact (q1.lt b hb).2⟩
    refine (growHit_any bk b c base lim es _ w h.len hcap hb hbb (by rw [← h1]; exact hk.cell 10) (hk.hb.other (by decide)).l (hk.hb.other (by decide)).l hB (held_own h2) hG h.num (hrow b (by rw [h1]; rfl)) hold).mono fun e w' ⟨he, hf, hh, lg, hr, hg⟩ => ⟨he, hf, .inr ⟨b, c, lg, w, h1, hcap, hh, hr, hg⟩, h.num, h.len⟩
theorem lookHit_gen {w : World} {bk base : Nat} {n : Int} {sv : Nat → Value} {es : List Ent} (hk : BookAt w bk n sv) (h : KOut w base 78 114 2 es mkHit (sv 10)) :
    Calls Tryz.prog 67 #[.pointer (some ⟨bk, 0, none⟩)] w fun e w' => e = .returned (.bool true) ∧ Below w.heap.size w w' := by
  rcases h.row with ⟨h1, h2⟩ | ⟨b, c, lg, W0, h1, h2, h3, h4, h5⟩
  · subst h1
    exact (lookHit_nil bk w (by rw [← h2]; exact hk.cell 10)).mono fun e w' ⟨he, hw⟩ => ⟨he, hw ▸ Below.refl _ _⟩
  · exact lookHit_any W0 bk b c base es lg w h.len h2 (by rw [← h1]; exact hk.cell 10) hk.hb.lt h3.lt h4 h5 h.num
end Bk
end Go.Proofs.YtkmngbkghgelfaaGreat
