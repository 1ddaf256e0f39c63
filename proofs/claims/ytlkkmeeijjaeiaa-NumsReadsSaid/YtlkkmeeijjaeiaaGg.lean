/- The walk of the statement NumsReads, to its end. -/
import Derived.Test.YtlkkmeeijjaeiaaFf
namespace Go.Proofs.Ytlkkmeeijjaeiaa
open Go.RowKit
set_option linter.unusedVariables false
/-- An item in a block. -/
def Itm (W : World) (p : Nat) (id : Int) (v : Value) : Prop := W.heap[p]? = some (.cells #[.int .u64 id, v] 54 (0, 0))
theorem Itm.hb {W : World} {p : Nat} {id : Int} {v : Value} (h : Itm W p id v) : HB W p 54 := ⟨_, h⟩
theorem Itm.c0 {W : World} {p : Nat} {id : Int} {v : Value} (h : Itm W p id v) : W.cell? ⟨p, 0, none⟩ = some (.int .u64 id) := cell_of_row W p 0 _ _ _ h
theorem Itm.c1 {W : World} {p : Nat} {id : Int} {v : Value} (h : Itm W p id v) : W.cell? ⟨p, 1, none⟩ = some v := cell_of_row W p 1 _ _ _ h
theorem Itm.next {W W' : World} {p : Nat} {id : Int} {v : Value} (h : Itm W p id v) (hB : Below W.heap.size W W') : Itm W' p id v := (hB.block p h.hb.lt).trans h
theorem Itm.frm {W W' : World} {p base : Nat} {t T : TypeId} {id : Int} {v : Value} (h : Itm W p id v) (f : Frm2 base t T W W') (h1 : 54 ≠ t) (h2 : 54 ≠ T) : Itm W' p id v := (f.block p h.hb.lt (h.hb.other h1) (h.hb.other h2)).trans h
theorem Itm.new (W : World) (id : Int) (v : Value) : Itm (W.alloc (.cells #[.int .u64 id, v] 54)) W.heap.size id v := heap_alloc_new W _
theorem bel_alloc (W : World) (X : Obj) : Below W.heap.size W (W.alloc X) := (Below.refl _ _).alloc (Nat.le_refl _) _
set_option maxRecDepth 100000 in
set_option maxHeartbeats 1000000 in
theorem numsReads_far (A : Option Addr) (c : Nat) (xs : List Int) (w : World) (hc : xs.length ≤ c) (hm : c ≤ 140737488351232) (hbey : bey [(xs.length : Int)] = true) :
    Calls Try.prog 6 #[.slice A xs.length c] w fun e w' => e = .returned (.bool true) ∧ Below w.heap.size w w' := by
  have BY := Lib.hid (fun W => bey_one W xs.length (by omega))
  rw [hbey] at BY
  clear hbey
  go_enter Try.func6, Try.ntmps6
  go_wp2_with fail
  refine (BY.out w).mono ?_
  rintro e w' ⟨rfl, rfl⟩
  go_wp2
  go_ret
  exact ⟨rfl, bel_alloc _ _⟩
set_option maxRecDepth 100000 in
set_option maxHeartbeats 4000000 in
theorem numsReads_main (A : Option Addr) (c : Nat) (xs : List Int) (w : World) (hx : Rd .u8 w w.heap.size A xs) (hc : xs.length ≤ c) (hm : c ≤ 140737488351232) (hbey : bey [(xs.length : Int)] = false)
    (id K E : Int) (ys : List Int) (hys : ys.length ≤ 1000) (pn : ∀ T tc W, Rd .u8 W W.heap.size T xs → xs.length ≤ tc → tc ≤ 140737488355328 → Calls Try.prog 31 #[.slice T xs.length tc] W (GetRes W id K E ys))
    (rn : ∀ T tc W, Rd .u8 W W.heap.size T xs → xs.length ≤ tc → tc ≤ 140737488355328 → Calls Try.prog 32 #[.slice T xs.length tc] W (GetRes W id K E ys)) :
    Calls Try.prog 6 #[.slice A xs.length c] w fun e w' => e = .returned (.bool true) ∧ Below w.heap.size w w' := by
  have BY := Lib.hid (fun W => bey_one W xs.length (by omega))
  have hl := bey_false hbey
  rw [hbey] at BY
  clear hbey
  have PN := Lib.hid pn
  have RN := Lib.hid rn
  have TW := Lib.hid (fun W h => twinBytes_any A c xs xs.length rfl W h (by omega))
  have LE := Lib.hid (fun T W B h h' => leftBytes_any T A (xs.length + 1) c xs xs.length rfl W B h h' hc (by omega) (by omega) (by omega))
  have HX := Lib.hid hx
  clear pn rn hx
  have b1 := bel_alloc w (.cells #[.int .i64 (xs.length : Int)] 3)
  go_enter Try.func6, Try.ntmps6
  go_wp2_with fail
  refine (BY.out w).mono ?_
  rintro e w' ⟨rfl, rfl⟩
  generalize w.alloc (.cells #[.int .i64 (xs.length : Int)] 3) = w1 at *
  clear BY
  go_wp2_with fail
  refine (TW.out w1 ((HX.out.below b1).more b1.size)).mono ?_
  rintro e w2 ⟨rfl, hB2, o2⟩
  obtain ⟨gt, HG⟩ : ∃ gt, Hid (w1.heap.size = gt) := ⟨_, rfl⟩
  rw [HG.out] at o2 ⊢
  have oT := Lib.hid (owns_base o2 (by rw [← HG.out]; exact b1.size : w.heap.size ≤ gt))
  have BW := Lib.hid (b1.trans (hB2.mono b1.size))
  clear o2 hB2 b1 TW HG
  have rt : ∀ W, W.ownsRow w.heap.size 5 1 (.slice (some ⟨gt, 0, none⟩) (xs.length + 1) (xs.length + 1)) (xs.length + 1) ((xs ++ [77]).map (Value.int .u8)) → Rd .u8 W W.heap.size (some ⟨gt, 0, none⟩) xs := fun W S => by
    have h := (rd_own S).take xs.length
    simpa using h
  have RT := Lib.hid rt
  clear rt
  go_wp2_with fail
  refine (PN.out _ _ w2 (RT.out _ oT.out) (by omega) (by omega)).mono ?_
  rintro e w3 ⟨A1, c1, rfl, o1, hB3, r1⟩
  have oT3 := Lib.hid (own_keep oT.out hB3)
  have BW3 := Lib.hid (BW.out.trans (hB3.mono BW.out.size))
  have o1 := owns_base o1 BW.out.size
  clear hB3 oT BW
  have b4 := bel_alloc w3 (.cells #[.int .u64 id, .slice A1 ys.length c1] 54)
  have i1 := Itm.new w3 id (.slice A1 ys.length c1)
  go_wp2_with fail
  obtain ⟨p1, HP1⟩ : ∃ p1, Hid (w3.heap.size = p1) := ⟨_, rfl⟩
  generalize w3.alloc (.cells #[.int .u64 id, .slice A1 ys.length c1] 54) = w4 at *
  have oT4 := Lib.hid (own_keep oT3.out b4)
  have BW4 := Lib.hid (BW3.out.trans (b4.mono BW3.out.size))
  have o1 := own_keep o1 b4
  have r1 := (r1.below b4).more b4.size
  rw [HP1.out] at i1 ⊢
  clear b4 oT3 BW3 HP1
  refine (PN.out _ _ w4 (RT.out _ oT4.out) (by omega) (by omega)).mono ?_
  rintro e w5 ⟨A2, c2, rfl, o2, hB5, r2⟩
  have hap : ∀ g, (Value.slice A1 ys.length c1).ownBlock = some g → (Value.slice A2 ys.length c2).ownBlock ≠ some g := fun g h h' => by have := (o1.lt g h).2; have := (o2.lt g h').1; omega
  have oT5 := Lib.hid (own_keep oT4.out hB5)
  have BW5 := Lib.hid (BW4.out.trans (hB5.mono BW4.out.size))
  have o2 := owns_base o2 BW4.out.size
  have o1 := own_keep o1 hB5
  have r1 := (r1.below hB5).more hB5.size
  have i1 := i1.next hB5
  clear hB5 oT4 BW4 PN
  have b6 := bel_alloc w5 (.cells #[.int .u64 id, .slice A2 ys.length c2] 54)
  have i2 := Itm.new w5 id (.slice A2 ys.length c2)
  go_wp2_with fail
  obtain ⟨p2, HP2⟩ : ∃ p2, Hid (w5.heap.size = p2) := ⟨_, rfl⟩
  generalize w5.alloc (.cells #[.int .u64 id, .slice A2 ys.length c2] 54) = w6 at *
  have oT6 := Lib.hid (own_keep oT5.out b6)
  have BW6 := Lib.hid (BW5.out.trans (b6.mono BW5.out.size))
  have o1 := own_keep o1 b6
  have o2 := own_keep o2 b6
  have r1 := (r1.below b6).more b6.size
  have r2 := (r2.below b6).more b6.size
  have i1 := i1.next b6
  rw [HP2.out] at i2 ⊢
  clear b6 oT5 BW5 HP2
  refine (RN.out _ _ w6 ((HX.out.below BW6.out).more BW6.out.size) hc (by omega)).mono ?_
  rintro e w7 ⟨A3, c3, rfl, o3, hB7, r3⟩
  have oT7 := Lib.hid (own_keep oT6.out hB7)
  have BW7 := Lib.hid (BW6.out.trans (hB7.mono BW6.out.size))
  have o1 := own_keep o1 hB7
  have o2 := own_keep o2 hB7
  have r1 := (r1.below hB7).more hB7.size
  have r2 := (r2.below hB7).more hB7.size
  have i1 := i1.next hB7
  have i2 := i2.next hB7
  clear hB7 oT6 BW6 RN o3
  have b8 := bel_alloc w7 (.cells #[.int .u64 id, .slice A3 ys.length c3] 54)
  have i3 := Itm.new w7 id (.slice A3 ys.length c3)
  have j1 := i1.next b8
  have j2 := i2.next b8
  have x0 := j1.c0
  have x1 := j1.c1
  have y0 := i3.c0
  have y1 := i3.c1
  go_wp2_with fail
  obtain ⟨p3, HP3⟩ : ∃ p3, Hid (w7.heap.size = p3) := ⟨_, rfl⟩
  generalize w7.alloc (.cells #[.int .u64 id, .slice A3 ys.length c3] 54) = w8 at *
  have oT8 := Lib.hid (own_keep oT7.out b8)
  have BW8 := Lib.hid (BW7.out.trans (b8.mono BW7.out.size))
  have o1 := own_keep o1 b8
  have o2 := own_keep o2 b8
  have r1 := (r1.below b8).more b8.size
  have r2 := (r2.below b8).more b8.size
  have r3 := (r3.below b8).more b8.size
  rw [HP3.out] at i3 ⊢
  clear x0 x1 y0 y1 b8 oT7 BW7 HP3 i1 i2
  refine (sameItem_any id A1 A3 c1 c3 ys _ _ rfl rfl w8 r3 r1 (by omega)).mono ?_
  rintro e w9 ⟨rfl, hB9⟩
  have oT9 := Lib.hid (own_keep oT8.out hB9)
  have BW9 := Lib.hid (BW8.out.trans (hB9.mono BW8.out.size))
  have o1 := own_keep o1 hB9
  have o2 := own_keep o2 hB9
  have r2 := (r2.below hB9).more hB9.size
  have r3 := (r3.below hB9).more hB9.size
  have j1 := j1.next hB9
  have j2 := j2.next hB9
  have i3 := i3.next hB9
  have x0 := j2.c0
  have x1 := j2.c1
  have y0 := i3.c0
  have y1 := i3.c1
  clear hB9 oT8 BW8 r1
  go_wp2_with fail
  refine (sameItem_any id A2 A3 c2 c3 ys _ _ rfl rfl w9 r3 r2 (by omega)).mono ?_
  rintro e wa ⟨rfl, hBa⟩
  have oTa := Lib.hid (own_keep oT9.out hBa)
  have BWa := Lib.hid (BW9.out.trans (hBa.mono BW9.out.size))
  have o1 := own_keep o1 hBa
  have o2 := own_keep o2 hBa
  have j1 := j1.next hBa
  have j2 := j2.next hBa
  clear x0 x1 y0 y1 hBa oT9 BW9 r2 r3 i3
  go_wp2_with fail
  refine (LE.out _ wa wa.heap.size ((HX.out.below BWa.out).more BWa.out.size) (rd_own oTa.out)).mono ?_
  rintro e w' ⟨rfl, nq, rfl⟩
  have hBb : Below wa.heap.size wa (wa.drewN nq) := below_drewN (Below.refl _ _) nq
  generalize wa.drewN nq = w4 at *
  have oTb := Lib.hid (own_keep oTa.out hBb)
  have BWb := Lib.hid (BWa.out.trans (hBb.mono BWa.out.size))
  have o1 := own_keep o1 hBb
  have o2 := own_keep o2 hBb
  have j1 := j1.next hBb
  have j2 := j2.next hBb
  clear hBb oTa BWa LE HX RT
  obtain ⟨w5, hw5⟩ : ∃ w5, w4.alloc (.cells #[.int .i64 0, .slice none 0 0, .slice none 0 0, .slice none 0 0, .slice none 0 0, .slice none 0 0, .slice none 0 0, .slice none 0 0, .slice none 0 0, .slice none 0 0, .slice none 0 0, .slice none 0 0, .slice none 0 0] 43) = w5 := ⟨_, rfl⟩
  have hk5 : BookAt w5 w4.heap.size ((0 : Nat) : Int) (.slice none 0 0) (.slice none 0 0) := by rw [← hw5]; exact heap_alloc_new w4 _
  have b5 : Below w4.heap.size w4 w5 := by rw [← hw5]; exact (Below.refl _ _).alloc (Nat.le_refl _) _
  have hB4 := BWb.out
  have hsz4 := hB4.size
  have hsz5 := b5.size
  have BY1 := Lib.hid (bytes_any w4.heap.size w.heap.size 0 (some ⟨gt, 0, none⟩) none xs.length (xs.length + 1) 0 (.slice none 0 0) [] w5 (by omega) (by omega) hsz4 hk5 (World.ownsRow_nil _ _ _ _) (by simp))
  have HW5 := Lib.hid hw5
  have P1 := own_bel o1 b5
  have P2 := own_bel o2 b5
  have PT := Lib.hid (own_take (Nat.le_succ _) (own_bel oTb.out b5))
  have j1 := j1.next b5
  have j2 := j2.next b5
  clear hw5 o1 o2 oTb BWb
  go_wp2_with fail
  rw [HW5.out]
  refine BY1.out.mono ?_
  rintro e w6 ⟨g6, c6, rfl, hk6, hr6, f6⟩
  have QT := Lib.hid (own_frm2 PT.out f6 (by decide) (by decide))
  have Q1 := own_frm2 P1 f6 (by decide) (by decide)
  have Q2 := own_frm2 P2 f6 (by decide) (by decide)
  have j1 := j1.frm f6 (by decide) (by decide)
  have j2 := j2.frm f6 (by decide) (by decide)
  have x0 := j1.c0
  have x1 := j1.c1
  have hsz6 := f6.below.size
  have IT1 := Lib.hid (item_any id w4.heap.size w.heap.size 1 A1 none ys.length c1 0 (.slice (some ⟨g6, 0, none⟩) 1 c6) [] w6 (by omega) (by omega) hsz4 hk6 (World.ownsRow_nil _ _ _ _) (by simp))
  clear BY1 HW5 P1 P2 PT hk5 hk6
  go_wp2_with fail
  refine IT1.out.mono ?_
  rintro e w7 ⟨g7, c7, rfl, hk7, hr7, f7⟩
  have RT := Lib.hid (own_frm2 QT.out f7 (by decide) (by decide))
  have R1 := own_frm2 Q1 f7 (by decide) (by decide)
  have R2 := own_frm2 Q2 f7 (by decide) (by decide)
  have T7 := own_frm2 hr6 f7 (by decide) (by decide)
  have j2 := j2.frm f7 (by decide) (by decide)
  have y0 := j2.c0
  have y1 := j2.c1
  have hsz7 := f7.below.size
  have IT2 := Lib.hid (item_any id w4.heap.size w.heap.size 2 A2 (some ⟨g7, 0, none⟩) ys.length c2 c7 (.slice (some ⟨g6, 0, none⟩) 1 c6) [⟨A1, ys.length, c1, 2⟩] w7 (by omega) (by omega) hsz4 hk7 hr7 (by simp))
  clear IT1 x0 x1 j1 hk7 hr7 hr6 Q1 Q2 QT
  go_wp2_with fail
  refine IT2.out.mono ?_
  rintro e w8 ⟨g8, c8, rfl, hk8, hr8, f8⟩
  have UT := own_frm2 RT.out f8 (by decide) (by decide)
  have U1 := own_frm2 R1 f8 (by decide) (by decide)
  have U2 := own_frm2 R2 f8 (by decide) (by decide)
  have T8 := own_frm2 T7 f8 (by decide) (by decide)
  have hsz8 := f8.below.size
  have AP := Lib.hid (apart_any (w := w8) (base := w.heap.size) (eb := [⟨some ⟨gt, 0, none⟩, xs.length, xs.length + 1, 1⟩]) (es := [⟨A1, ys.length, c1, 2⟩, ⟨A2, ys.length, c2, 3⟩]) (by omega) hk8
    ⟨one_list UT, .inr ⟨g6, c6, rfl, T8⟩, by simp; omega, by simp⟩ ⟨two_lists U1 U2 hap, .inr ⟨g8, c8, rfl, hr8⟩, by simp; omega, by simp⟩)
  have hBw : Below w.heap.size w w8 := (((hB4.trans (b5.mono hsz4)).trans f6.below).trans f7.below).trans f8.below
  clear IT2 R1 R2 RT U1 U2 UT T7 T8 hk8 hr8 f6 f7 f8 b5 hB4 y0 y1 j2
  go_wp2_with fail
  refine AP.out.mono ?_
  rintro e w9 ⟨rfl, hB9⟩
  go_wp2
  go_ret
  exact ⟨rfl, hBw.trans hB9⟩
end Go.Proofs.Ytlkkmeeijjaeiaa
