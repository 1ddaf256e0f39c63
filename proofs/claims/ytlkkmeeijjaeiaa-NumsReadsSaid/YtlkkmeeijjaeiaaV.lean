/- The Book of the statements, lists of bytes: filling. -/
import Derived.Test.YtlkkmeeijjaeiaaProg
import Derived.Test.YtlkkmeeijjaeiaaW
import Derived.Maps.AppendAt
import Derived.ArgAppend
import Derived.WalkKit
import Derived.WalkSpells
import Derived.WalkLawsBesides
import Derived.StillTailTactics
import Derived.Deep.QuietTactic
import Derived.BigQuiet
import Derived.Lib.Hide
namespace Go.Proofs.Ytlkkmeeijjaeiaa
open Go.RowKit
set_option linter.unusedVariables false
def mkByte (n : Nat) : Value := .int .u8 (1 + (n : Int) % 250)
theorem markByte_any (n : Nat) (hn : n ≤ 1000000) (w : World) : Calls Try.prog 81 #[.int .i64 (n : Int)] w fun e w' => e = .returned (mkByte n) ∧ w = w' := by
  go_enter Try.func81, Try.ntmps81
  go_wp2
  go_ret
  exact ⟨rfl, rfl⟩
set_option maxRecDepth 100000 in
set_option maxHeartbeats 1000000 in
theorem fillByte_any (bk h hcap base : Nat) (es : List Ent) (lg : Nat → Ent) (w : World) (hes : es.length ≤ 1000) (hcap1 : es.length ≤ hcap) (hb : base ≤ w.heap.size)
    (hbk : w.cell? ⟨bk, 1, none⟩ = some (.slice (some ⟨h, 0, none⟩) es.length hcap)) (obk : Other w 5 bk) (oh : Other w 5 h) (hrow : Held w h es lg) (hl : Lists w base 5 es mkByte 0)
    (hnum : ∀ e ∈ es, e.num ≤ 1000000 ∧ e.len ≤ 10000000) :
    Calls Try.prog 37 #[.pointer (some ⟨bk, 0, none⟩)] w fun e w' => e = .returned (.tuple #[]) ∧ Frm base 5 w w' ∧ Lists w' base 5 es mkByte es.length := by
  go_enter Try.func37, Try.ntmps37
  go_wp2
  go_loopw [2] (fun i wr => ∃ k : Nat, k ≤ es.length ∧ i = .int .i64 k ∧ Frm base 5 w wr ∧ Lists wr base 5 es mkByte k) (fun i _ => es.length - (intOf i).toNat)
  case atStart => exact ⟨0, by omega, rfl, Frm.refl _ _ _, hl⟩
  case round =>
    clear hl
    obtain ⟨k, hk, rfl, hF, hL⟩ := hrel
    have hbk' : wr.cell? ⟨bk, 1, none⟩ = some (.slice (some ⟨h, 0, none⟩) es.length hcap) := (hF.cell (p := ⟨bk, 1, none⟩) obk).trans hbk
    by_cases hlt : k < es.length
    · obtain ⟨e, he⟩ : ∃ e, es[k]? = some e := ⟨_, List.getElem?_eq_getElem hlt⟩
      obtain ⟨q0, q1, q2⟩ := hrow k e he
      have p0 : wr.cell? ⟨h, k * 3, none⟩ = some (.slice e.A e.len e.cap) := (hF.cell (p := ⟨h, k * 3, none⟩) oh).trans q0
      have p1 : wr.cell? ⟨h, k * 3 + 1, none⟩ = some (.slice (lg k).A (lg k).len (lg k).cap) := (hF.cell (p := ⟨h, k * 3 + 1, none⟩) oh).trans q1
      have p2 : wr.cell? ⟨h, k * 3 + 2, none⟩ = some (.int .i64 e.num) := (hF.cell (p := ⟨h, k * 3 + 2, none⟩) oh).trans q2
      have he' := Lib.hid he
      clear q0 q1 q2 he
      have hne := hnum e (List.mem_of_getElem? he'.out)
      obtain ⟨box, hbox⟩ : ∃ box : Obj, box = .cells #[.slice e.A e.len e.cap, .slice (lg k).A (lg k).len (lg k).cap, .int .i64 e.num] 82 := ⟨_, rfl⟩
      have hsz := hF.below.size
      have hFa : Frm base 5 w (wr.alloc box) := hF.trans (Frm.of_below ((Below.refl _ _).alloc (Nat.le_refl _) _) (by omega))
      have hLa : Lists (wr.alloc box) base 5 es mkByte k := hL.kept ((Below.refl _ _).alloc (Nat.le_refl _) _)
      have hBx : (wr.alloc box).heap[wr.heap.size]? = some box := heap_alloc_new wr box
      obtain ⟨xs0, hown0, _⟩ := hLa.own k e he'.out
      have hU : Upto (wr.alloc box) base 5 e (mkByte e.num) 0 := ⟨xs0, hown0, fun i hi => by omega⟩
      rw [hbox] at hFa hLa hBx hU
      clear hbox hown0 hL hF
      go_wp2
      clear p0 p1 p2 hbk'
      obtain ⟨wo, rfl⟩ : ∃ wo : World, wo = wr := ⟨_, rfl⟩
      go_loopw [4] (fun i w2 => ∃ c : Nat, c ≤ e.len ∧ i = .int .i64 c ∧ Frm base 5 w w2 ∧ Lists w2 base 5 es mkByte k ∧ w2.heap[wo.heap.size]? = some (.cells #[.slice e.A e.len e.cap, .slice (lg k).A (lg k).len (lg k).cap, .int .i64 e.num] 82) ∧ Upto w2 base 5 e (mkByte e.num) c) (fun i _ => e.len - (intOf i).toNat)
      case atStart => exact ⟨0, by omega, rfl, hFa, hLa, hBx, hU⟩
      case round =>
        clear hFa hLa hBx hU
        obtain ⟨c, hc, rfl, hF, hL, hB, hU⟩ := hrel
        have b0 : wr.cell? ⟨wo.heap.size, 0, none⟩ = some (.slice e.A e.len e.cap) := cell_of_row wr _ 0 _ _ _ hB
        have b2 : wr.cell? ⟨wo.heap.size, 2, none⟩ = some (.int .i64 e.num) := cell_of_row wr _ 2 _ _ _ hB
        by_cases hclt : c < e.len
        · obtain ⟨xs, hown, hxs⟩ := hU
          obtain ⟨g, cur, hA, hgb, hg⟩ := own_parts hown (by omega)
          have hv : e.val = .slice (some ⟨g, 0, none⟩) e.len e.cap := by unfold Ent.val; rw [hA]
          have hlen : xs.length = e.len := by have := hown.1; omega
          obtain ⟨u, hu⟩ : ∃ u, wr.cell? ⟨g, c, none⟩ = some u := by
            rw [hv] at hown
            rw [hown.cellAt c (by omega), List.getElem?_eq_getElem (by omega)]; exact ⟨_, rfl⟩
          have hf : wr.frozen? ⟨g, c, none⟩ = false := by rw [hv] at hown; exact hown.frozenAt c
          have HA := Lib.hid hA
          rw [hA] at b0
          clear hA hv
          have MK := Lib.hid (fun W => markByte_any e.num hne.1 W)
          have c0 : (0 : Int) ≤ (c : Int) := by omega
          have c1 : (c : Int) < (e.len : Int) := by omega
          go_wp2
          refine wp_region_still_tail 7 (by kernel_rfl) (by kernel_rfl) ?_
          simp only [List.take_succ_cons, List.take_zero, List.drop_succ_cons, List.drop_zero]
          obtain ⟨w2, hw2⟩ : ∃ w2, w2 = wr.drew := ⟨_, rfl⟩
          have hF2 : Frm base 5 w w2 := by rw [hw2]; exact hF.drewN 1
          have hL2 : Lists w2 base 5 es mkByte k := by rw [hw2]; exact hL.drewN 1
          have hB2 : w2.heap[wo.heap.size]? = some (.cells #[.slice e.A e.len e.cap, .slice (lg k).A (lg k).len (lg k).cap, .int .i64 e.num] 82) := by rw [hw2]; exact hB
          have hU2 : Upto w2 base 5 e (mkByte e.num) c := by rw [hw2]; exact ⟨xs, hown, hxs⟩
          have d0 : w2.cell? ⟨wo.heap.size, 0, none⟩ = some (.slice (some ⟨g, 0, none⟩) e.len e.cap) := by rw [hw2]; exact b0
          have d2 : w2.cell? ⟨wo.heap.size, 2, none⟩ = some (.int .i64 e.num) := by rw [hw2]; exact b2
          have du : w2.cell? ⟨g, c, none⟩ = some u := by rw [hw2]; exact hu
          have df : w2.frozen? ⟨g, c, none⟩ = false := by rw [hw2]; exact hf
          have hgt : w2.heap[g]? = some (.cells cur 5 (0, 0)) := by rw [hw2]; exact hg
          change wpStill _ _ wr.drew (fun a' => wpList _ _ _ _ a' wr.drew) _ _
          rw [← hw2]
          clear hw2 hF hL hB hown hxs b0 b2 hu hf hg
          have MK2 : Hid (Calls Try.prog 81 #[.int .i64 (e.num : Int)] w2 fun e' w' => e' = .returned (.int .u8 (1 + (e.num : Int) % 250)) ∧ w' = w2) := (MK.out w2).mono fun _ _ ⟨h1, h2⟩ => ⟨h1, h2.symm⟩
          still_step
          still_step
          still_step
          still_step
          still_step
          still_call MK2.out
          still_step
          refine wpStill_nil ?_
          have hne2 : wo.heap.size ≠ g := by
            intro e'
            rw [e', hgt] at hB2
            injection hB2 with hB2
            injection hB2 with _ hT
            cases hT
          go_wp2
          go_roundw
          case rel =>
            refine ⟨c + 1, by omega, by go_num, hF2.trans (Frm.of_grown (g := g) ⟨rfl, rfl, rfl, by simp [World.setCell], fun i _ hi => Below.heap_setCell _ _ _ _ (fun e' => hi (by rw [e']))⟩ (by have := hF2.below.size; omega) hgb ⟨_, _, hgt⟩), hL2.stored he'.out HA.out, ?_, hU2.step hclt HA.out⟩
            rw [Below.heap_setCell _ _ _ _ hne2]
            exact hB2
          case measure => simp [intOf]; omega
        · obtain rfl : c = e.len := by omega
          have hL' := hL.next he'.out hU.full
          clear hU hB hL
          go_wp2
          go_roundw
          case rel => exact ⟨k + 1, by omega, by go_num, hF, hL'⟩
          case measure => simp [intOf]; omega
    · go_wp2
      go_end0
      obtain rfl : k = es.length := by omega
      exact ⟨rfl, hF, hL⟩
theorem Try.info5v : (Try.prog.info? 5).map (fun i => (i.zero, i.size, i.bytes)) = some (some (.int .u8 0), 1, 1) := by kernel_rfl
set_option maxRecDepth 100000 in
set_option maxHeartbeats 2000000 in
theorem growByte_any (bk h hcap base : Nat) (es : List Ent) (lg0 : Nat → Ent) (w : World) (hes : es.length ≤ 1000) (hcap1 : es.length ≤ hcap) (hb : base ≤ w.heap.size) (hbh : base ≤ h)
    (hbk : w.cell? ⟨bk, 1, none⟩ = some (.slice (some ⟨h, 0, none⟩) es.length hcap)) (obk : Other w 5 bk) (obk2 : Other w 82 bk) (hh : HB w h 82) (hrow : Held w h es lg0) (hl : Grown3 w w base 5 es mkByte lg0 0)
    (hnum : ∀ e ∈ es, e.num ≤ 1000000 ∧ e.len ≤ 10000000) :
    Calls Try.prog 49 #[.pointer (some ⟨bk, 0, none⟩)] w fun e w' => e = .returned (.tuple #[]) ∧ Frm2 base 5 82 w w' ∧ HB w' h 82 ∧ ∃ lg, Held w' h es lg ∧ Grown3 w w' base 5 es mkByte lg es.length := by
  obtain ⟨i0, hi, hz0, hz1, hz2⟩ := info_parts Try.info5v
  go_enter Try.func49, Try.ntmps49
  go_wp2
  go_loopw [2] (fun i wr => ∃ k : Nat, k ≤ es.length ∧ i = .int .i64 k ∧ Frm2 base 5 82 w wr ∧ HB wr h 82 ∧ ∃ lg, Held wr h es lg ∧ Grown3 w wr base 5 es mkByte lg k) (fun i _ => es.length - (intOf i).toNat)
  case atStart => exact ⟨0, by omega, rfl, Frm2.refl _ _ _ _, hh, lg0, hrow, hl⟩
  case round =>
    clear hl hh hrow
    obtain ⟨k, hk, rfl, hF, hH, lg, hR, hG⟩ := hrel
    have hbk' : wr.cell? ⟨bk, 1, none⟩ = some (.slice (some ⟨h, 0, none⟩) es.length hcap) := (hF.cell (p := ⟨bk, 1, none⟩) obk obk2).trans hbk
    by_cases hlt : k < es.length
    · obtain ⟨e, he⟩ : ∃ e, es[k]? = some e := ⟨_, List.getElem?_eq_getElem hlt⟩
      obtain ⟨p0, p1, p2⟩ := hR k e he
      have he' := Lib.hid he
      clear he
      have hne := hnum e (List.mem_of_getElem? he'.out)
      obtain ⟨box, hbox⟩ : ∃ box : Obj, box = .cells #[.slice e.A e.len e.cap, .slice (lg k).A (lg k).len (lg k).cap, .int .i64 e.num] 82 := ⟨_, rfl⟩
      have hsz := hF.below.size
      have hga : wr.grownBy (wr.alloc box) none := World.grownBy_alloc _ _ _
      have hFa : Frm2 base 5 82 w (wr.alloc box) := hF.trans (Frm2.of_grown hga (by omega) (fun r e => by cases e))
      have hHa : HB (wr.alloc box) h 82 := hH.same (Below.heap_alloc _ _ _ hH.lt)
      have hRa : Held (wr.alloc box) h es lg := hR.same (Below.heap_alloc _ _ _ hH.lt)
      have hGa : Grown3 w (wr.alloc box) base 5 es mkByte lg k := hG.below hga
      have hBx : (wr.alloc box).heap[wr.heap.size]? = some box := heap_alloc_new wr box
      have hlongs : Hid (∀ (j : Nat) (e : Ent), es[j]? = some e → j < k → ∀ b, (lg j).blk = some b → b < wr.heap.size) := fun j e hj hjk b hb' => ((hG.long j e hj hjk).2.1.lt b hb').2
      rw [hbox] at hFa hHa hRa hGa hBx
      clear hbox hga hF hH hR hG
      go_wp2
      clear p0 p1 p2 hbk'
      obtain ⟨wo, rfl⟩ : ∃ wo : World, wo = wr := ⟨_, rfl⟩
      have hM0 : Mid base 5 82 es mkByte lg k h wo.heap.size (.cells #[.slice e.A e.len e.cap, .slice (lg k).A (lg k).len (lg k).cap, .int .i64 e.num] 82) w (wo.alloc (.cells #[.slice e.A e.len e.cap, .slice (lg k).A (lg k).len (lg k).cap, .int .i64 e.num] 82)) := ⟨hFa, hHa, hRa, hGa, hBx⟩
      have hfull := hGa.full k e he'.out
      clear hFa hHa hRa hGa hBx
      go_loopw [4, 5] (fun v i w2 => ∃ (c : Nat) (VA : Option Addr) (vc : Nat), c ≤ 40 ∧ i = .int .i64 c ∧ v = .slice VA (e.len + c) vc ∧ Hid ((VA = e.A ∧ vc = e.cap) ∨ ∃ b, VA = some ⟨b, 0, none⟩ ∧ wo.heap.size < b) ∧
          w2.ownsRow base 5 1 (.slice VA (e.len + c) vc) (e.len + c) (List.replicate (e.len + c) (mkByte e.num)) ∧ Mid base 5 82 es mkByte lg k h wo.heap.size (.cells #[.slice e.A e.len e.cap, .slice (lg k).A (lg k).len (lg k).cap, .int .i64 e.num] 82) w w2) (fun _ i _ => 40 - (intOf i).toNat)
      case atStart => exact ⟨0, e.A, e.cap, by omega, rfl, rfl, .inl ⟨rfl, rfl⟩, hfull, hM0⟩
      case round =>
        clear hM0 hfull
        obtain ⟨c, VA, vc, hc, rfl, rfl, hloc, hown, hM⟩ := hrel
        have b2 : wr.cell? ⟨wo.heap.size, 2, none⟩ = some (.int .i64 e.num) := cell_of_row wr _ 2 _ _ _ hM.bx
        have hBlt : wo.heap.size < wr.heap.size := (Array.getElem?_eq_some_iff.1 hM.bx).1
        have hsz2 := hM.frm.below.size
        by_cases hclt : c < 40
        · have MK : Hid (∀ W, Calls Try.prog 81 #[.int .i64 (e.num : Int)] W fun e' w' => e' = .returned (.int .u8 (1 + (e.num : Int) % 250)) ∧ W = w') := fun W => markByte_any e.num hne.1 W
          have hMa : Mid base 5 82 es mkByte lg k h wo.heap.size (.cells #[.slice e.A e.len e.cap, .slice (lg k).A (lg k).len (lg k).cap, .int .i64 e.num] 82) w (wr.alloc (.cells #[.int .u8 (1 + (e.num : Int) % 250)] 5)) := hM.fresh (World.grownBy_alloc _ _ _) hb
          by_cases hroom : e.len + c < vc
          · obtain ⟨g, cur, rfl, hgb, hgt⟩ := own_parts' hown (by omega)
            go_wp2_with (first
              | (go_at_call 81; refine (MK.out _).mono ?_; rintro e' w' ⟨rfl, rfl⟩)
              | (at_builtin; refine wpList_append_fits _ rfl (.tmp 28) (.tmp 32) 23 rfl base 5 i0 1 Try.underlying23 hi hz1 g (e.len + c) vc _ rfl (hown.alloc _) ⟨wr.heap.size, 0, none⟩ 1 1 [.int .u8 (1 + (e.num : Int) % 250)] rfl rfl (cell_one_new _ _ _) (by simp [Value.oneCell']) (by omega) ?_; intro w3 hown3 hg3))
            have hown3' : w3.ownsRow base 5 1 (.slice (some ⟨g, 0, none⟩) (e.len + (c + 1)) vc) (e.len + (c + 1)) (List.replicate (e.len + (c + 1)) (mkByte e.num)) := by
              rw [← rep_snoc]; exact hown3
            have hloc' : e.blk = some g ∨ wo.heap.size ≤ g := by
              rcases hloc.out with ⟨h1, _⟩ | ⟨b, h1, h2⟩
              · left; unfold Ent.blk Ent.val; rw [← h1]; rfl
              · right; injection h1 with h1; injection h1 with h1; omega
            have hf3 : Full w3 base 5 e (mkByte e.num) := by
              rcases hloc.out with ⟨h1, h2⟩ | ⟨b, h1, h2⟩
              · have := own_shrink hown3'
                unfold Full Ent.val
                rw [← h1, ← h2]; exact this
              · refine (hMa.grown.full k e he'.out).kept hg3 ?_
                cases hbk : e.val.ownBlock with
                | none => exact .inl rfl
                | some b' =>
                  refine .inr (fun e2 => ?_)
                  injection e2 with e2
                  have h3 := hMa.grown.old k e he'.out b' hbk
                  injection h1 with h1; injection h1 with h1
                  omega
            have hM3 := hMa.row hg3 hb hgb ((Below.heap_alloc _ _ _ (Array.getElem?_eq_some_iff.1 hgt).1).trans hgt) (by decide) he'.out (so := wo.heap.size) (by omega) hlongs.out hloc' hf3
            clear hown3 hg3 hMa hown hM hgt hloc' hf3 b2
            go_wp2
            go_roundw
            case rel => exact ⟨c + 1, _, vc, by omega, by go_num, by rw [Nat.add_assoc], hloc, hown3', hM3⟩
            case measure => simp [intOf]; omega
          · go_wp2_with (first
              | (go_at_call 81; refine (MK.out _).mono ?_; rintro e' w' ⟨rfl, rfl⟩)
              | (at_builtin; refine wpList_append_grows _ rfl (.tmp 28) (.tmp 32) 23 rfl 5 i0 (.int .u8 0) 1 1 Try.underlying23 hi hz0 hz1 hz2 rfl (by decide) VA (e.len + c) vc (List.replicate (e.len + c) (mkByte e.num)) rfl (own_nil hown) (by simp) (own_olds (hown.alloc _)) ⟨wr.heap.size, 0, none⟩ 1 1 [.int .u8 (1 + (e.num : Int) % 250)] rfl rfl (cell_one_new _ _ _) (by simp [Value.oneCell']) (by omega) (by unfold maxLen; omega) (by omega) ?_; intro v3 w3 hown3 hg3))
            have hsv : ∃ b vc3, v3 = .slice (some ⟨b, 0, none⟩) (e.len + (c + 1)) vc3 ∧ wr.heap.size + 1 ≤ b := by
              rcases hown3.2 with ⟨_, h0⟩ | ⟨b, vc3, cur, rfl, hb3, _⟩
              · omega
              · exact ⟨b, vc3, rfl, by simpa using hb3⟩
            obtain ⟨b, vc3, rfl, hb3⟩ := hsv
            have hown3' : w3.ownsRow base 5 1 (.slice (some ⟨b, 0, none⟩) (e.len + (c + 1)) vc3) (e.len + (c + 1)) (List.replicate (e.len + (c + 1)) (mkByte e.num)) := by
              rw [← rep_snoc]; exact own_base' hown3 (by simp; omega)
            have hM3 := hMa.fresh hg3 hb
            clear hown3 hg3 hMa hown hM b2
            go_wp2
            go_roundw
            case rel => exact ⟨c + 1, _, vc3, by omega, by go_num, rfl, .inr ⟨b, rfl, by omega⟩, hown3', hM3⟩
            case measure => simp [intOf]; omega
        · obtain rfl : c = 40 := by omega
          have hbk3 : wr.cell? ⟨bk, 1, none⟩ = some (.slice (some ⟨h, 0, none⟩) es.length hcap) := (hM.frm.cell (p := ⟨bk, 1, none⟩) obk obk2).trans hbk
          obtain ⟨_, r1, _⟩ := hM.held k e he'.out
          have fz := hM.hb.frozen (k * 3 + 1)
          have hblk : (⟨VA, e.len + 40, vc, 0⟩ : Ent).blk = e.blk ∨ ∃ b, (⟨VA, e.len + 40, vc, 0⟩ : Ent).blk = some b ∧ w.heap.size ≤ b := by
            rcases hloc.out with ⟨h1, h2⟩ | ⟨b, h1, h2⟩
            · left; unfold Ent.blk Ent.val; rw [h1]; cases e.A <;> rfl
            · right; exact ⟨b, by unfold Ent.blk Ent.val; rw [h1]; rfl, by omega⟩
          have hG3 := (hM.grown.stored (i := k * 3 + 1) (u := .slice VA (e.len + 40) vc) hM.hb (by decide)).next (L := ⟨VA, e.len + 40, vc, 0⟩) he'.out rfl (own_other hown hM.hb (by decide)) hblk
          have hR3 := hM.held.stored (L := ⟨VA, e.len + 40, vc, 0⟩) he'.out
          have hH3 := hM.hb.setCell (k * 3 + 1) (.slice VA (e.len + 40) vc)
          have hF3 : Frm2 base 5 82 w (wr.setCell ⟨h, k * 3 + 1, none⟩ (.slice VA (e.len + 40) vc)) := hM.frm.trans (Frm2.of_grown (row := some h) ⟨rfl, rfl, rfl, by simp [World.setCell], fun i _ hi => Below.heap_setCell _ _ _ _ (fun e' => hi (by rw [e']))⟩ (by omega) (fun r e' => by injection e' with e'; subst e'; exact ⟨hbh, .inr hM.hb⟩))
          clear hM hown hblk b2 hloc
          go_wp2
          go_roundw
          case rel => exact ⟨k + 1, by omega, by go_num, hF3, hH3, _, hR3, hG3⟩
          case measure => simp [intOf]; omega
    · go_wp2
      go_end0
      obtain rfl : k = es.length := by omega
      exact ⟨rfl, hF, hH, lg, hR, hG⟩
theorem isByte_any (n : Nat) (hn : n ≤ 1000000) (w : World) : Calls Try.prog 93 #[.int .u8 (1 + (n : Int) % 250), .int .i64 (n : Int)] w fun e w' => e = .returned (.bool true) ∧ w' = w := by
  go_enter Try.func93, Try.ntmps93
  go_wp2
  go_ret
  exact ⟨rfl, rfl⟩
/-- A full row's cell. -/
theorem rep_cell {w : World} {base : Nat} {t : TypeId} {A : Option Addr} {n cap c : Nat} {m : Value} (h : w.ownsRow base t 1 (.slice A n cap) n (List.replicate n m)) (hc : c < n) : ∃ g, A = some ⟨g, 0, none⟩ ∧ g < w.heap.size ∧ w.cell? ⟨g, c, none⟩ = some m := by
  obtain ⟨g, cur, rfl, _, hg⟩ := own_parts h (by omega)
  refine ⟨g, rfl, (Array.getElem?_eq_some_iff.1 hg).1, ?_⟩
  rw [h.cellAt c (by omega), List.getElem?_replicate, if_pos hc]
set_option maxRecDepth 100000 in
set_option maxHeartbeats 2000000 in
theorem lookByte_any (W0 : World) (bk h hcap base : Nat) (es : List Ent) (lg : Nat → Ent) (w : World) (hes : es.length ≤ 1000) (hcap1 : es.length ≤ hcap)
    (hbk : w.cell? ⟨bk, 1, none⟩ = some (.slice (some ⟨h, 0, none⟩) es.length hcap)) (hbl : bk < w.heap.size) (hhl : h < w.heap.size) (hrow : Held w h es lg) (hl : Grown3 W0 w base 5 es mkByte lg es.length)
    (hnum : ∀ e ∈ es, e.num ≤ 1000000 ∧ e.len ≤ 10000000) :
    Calls Try.prog 61 #[.pointer (some ⟨bk, 0, none⟩)] w fun e w' => e = .returned (.bool true) ∧ Below w.heap.size w w' := by
  go_enter Try.func61, Try.ntmps61
  go_wp2
  go_loopw [3] (fun i wr => ∃ k : Nat, k ≤ es.length ∧ i = .int .i64 k ∧ Below w.heap.size w wr) (fun i _ => es.length - (intOf i).toNat)
  case atStart => exact ⟨0, by omega, rfl, Below.refl _ _⟩
  case round =>
    obtain ⟨k, hk, rfl, hB⟩ := hrel
    have hbk' : wr.cell? ⟨bk, 1, none⟩ = some (.slice (some ⟨h, 0, none⟩) es.length hcap) := (hB.cell (p := ⟨bk, 1, none⟩) hbl).trans hbk
    have hsz := hB.size
    by_cases hlt : k < es.length
    · obtain ⟨e, he⟩ : ∃ e, es[k]? = some e := ⟨_, List.getElem?_eq_getElem hlt⟩
      obtain ⟨q0, q1, q2⟩ := hrow k e he
      obtain ⟨hll, hlo, _⟩ := hl.long k e he hlt
      have hfu := hl.full k e he
      have hne := hnum e (List.mem_of_getElem? he)
      rw [hll] at q1
      have p0 : wr.cell? ⟨h, k * 3, none⟩ = some (.slice e.A e.len e.cap) := (hB.cell (p := ⟨h, k * 3, none⟩) hhl).trans q0
      have p1 : wr.cell? ⟨h, k * 3 + 1, none⟩ = some (.slice (lg k).A (e.len + 40) (lg k).cap) := (hB.cell (p := ⟨h, k * 3 + 1, none⟩) hhl).trans q1
      have p2 : wr.cell? ⟨h, k * 3 + 2, none⟩ = some (.int .i64 e.num) := (hB.cell (p := ⟨h, k * 3 + 2, none⟩) hhl).trans q2
      have hlo' : w.ownsRow base 5 1 (.slice (lg k).A (e.len + 40) (lg k).cap) (e.len + 40) (List.replicate (e.len + 40) (mkByte e.num)) := by unfold Ent.val at hlo; rw [hll] at hlo; exact hlo
      have HLO := Lib.hid hlo'
      have HFU := Lib.hid hfu
      clear q0 q1 q2 hll hlo hlo' hfu he
      go_wp2
      clear p0 p1 p2 hbk'
      obtain ⟨wo, rfl⟩ : ∃ wo : World, wo = wr := ⟨_, rfl⟩
      generalize (lg k).A = LA at *
      generalize (lg k).cap = Lc at *
      go_loopw [5] (fun i w2 => ∃ c : Nat, c ≤ e.len + 40 ∧ i = .int .i64 c ∧ Below w.heap.size w w2 ∧ w2.heap[wo.heap.size]? = some (.cells #[.slice e.A e.len e.cap, .slice LA (e.len + 40) Lc, .int .i64 e.num] 82)) (fun i _ => e.len + 40 - (intOf i).toNat)
      case atStart => exact ⟨0, by omega, rfl, hB.alloc hsz _, heap_alloc_new wo _⟩
      case round =>
        obtain ⟨c, hc, rfl, hB2, hBx⟩ := hrel
        have b0 : wr.cell? ⟨wo.heap.size, 0, none⟩ = some (.slice e.A e.len e.cap) := cell_of_row wr _ 0 _ _ _ hBx
        have b1 : wr.cell? ⟨wo.heap.size, 1, none⟩ = some (.slice LA (e.len + 40) Lc) := cell_of_row wr _ 1 _ _ _ hBx
        have b2 : wr.cell? ⟨wo.heap.size, 2, none⟩ = some (.int .i64 e.num) := cell_of_row wr _ 2 _ _ _ hBx
        have hF : Hid (∀ nq, Below w.heap.size w (wr.drewN nq) ∧ (wr.drewN nq).heap[wo.heap.size]? = some (.cells #[.slice e.A e.len e.cap, .slice LA (e.len + 40) Lc, .int .i64 e.num] 82)) := fun nq => ⟨⟨hB2.os, hB2.tape, hB2.output, hB2.size, hB2.block⟩, hBx⟩
        by_cases hclt : c < e.len + 40
        · obtain ⟨lb, hLA, hlb, hlc⟩ := rep_cell HLO.out hclt
          have hlc' : wr.cell? ⟨lb, c, none⟩ = some (.int .u8 (1 + (e.num : Int) % 250)) := (hB2.cell (p := ⟨lb, c, none⟩) hlb).trans hlc
          subst hLA
          have c0 : (0 : Int) ≤ (c : Int) := by omega
          have c1 : (c : Int) < (e.len : Int) + 40 := by omega
          have IS := Lib.hid (fun W => isByte_any e.num hne.1 W)
          clear hlc hB2 hBx
          by_cases hin : c < e.len
          · obtain ⟨g, hA, hg, hgc⟩ := rep_cell HFU.out hin
            have hgc' : wr.cell? ⟨g, c, none⟩ = some (.int .u8 (1 + (e.num : Int) % 250)) := ((hF.out 0).1.cell (p := ⟨g, c, none⟩) hg).trans hgc
            rw [hA] at b0
            have c2 : (c : Int) < (e.len : Int) := by omega
            have HA := Lib.hid hA
            clear hgc hA
            go_wp2
            go_quiet ((go_at_call 93; exact Calls.quiet_of_same (IS.out _)))
            go_wp2
            go_roundw
            case rel => exact ⟨c + 1, by omega, by go_num, hF.out _⟩
            case measure => simp [intOf]; omega
          · have c2 : decide ((c : Int) < (e.len : Int)) = false := by simp; omega
            go_wp2
            go_quiet ((go_at_call 93; exact Calls.quiet_of_same (IS.out _)))
            go_wp2
            go_roundw
            case rel => exact ⟨c + 1, by omega, by go_num, hF.out _⟩
            case measure => simp [intOf]; omega
        · go_wp2
          go_roundw
          case rel => exact ⟨k + 1, by omega, by go_num, hB2⟩
          case measure => simp [intOf]; omega
    · go_wp2
      go_ret
      exact ⟨rfl, hB⟩
end Go.Proofs.Ytlkkmeeijjaeiaa
