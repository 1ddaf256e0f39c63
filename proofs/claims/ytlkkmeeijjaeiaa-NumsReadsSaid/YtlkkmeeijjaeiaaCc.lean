/- The walk of the statement NumsItems. -/
import Derived.Test.YtlkkmeeijjaeiaaBb
namespace Go.Proofs.Ytlkkmeeijjaeiaa
open Go.RowKit
set_option linter.unusedVariables false
set_option maxRecDepth 100000 in
set_option maxHeartbeats 1000000 in
theorem numsItems_far (id : Int) (V : Option Addr) (nv cv : Nat) (w : World) (hnv : nv ≤ 140737488355328) (hbey : bey [(nv : Int)] = true) :
    Calls Try.prog 5 #[.agg #[.int .u64 id, .slice V nv cv]] w fun e w' => e = .returned (.bool true) ∧ Below w.heap.size w w' := by
  have BY := Lib.hid (fun W => bey_one W nv hnv)
  rw [hbey] at BY
  clear hbey
  obtain ⟨w0, hw0⟩ : ∃ w0, w.alloc (.cells #[.int .u64 id, .slice V nv cv] 54) = w0 := ⟨_, rfl⟩
  have hB0 : Below w.heap.size w w0 := by rw [← hw0]; exact (Below.refl _ _).alloc (Nat.le_refl _) _
  have hs0 : w.heap.size < w0.heap.size := by rw [← hw0]; simp
  have hc1 : w0.cell? ⟨w.heap.size, 1, none⟩ = some (.slice V nv cv) := by rw [← hw0]; simp [go_sem]
  go_enter Try.func5, Try.ntmps5
  go_wp2_with fail
  refine (BY.out w0).mono ?_
  rintro e w' ⟨rfl, rfl⟩
  clear hw0
  have hB2 : Below w.heap.size w (w0.alloc (.cells #[.int .i64 (nv : Int)] 3)) := hB0.alloc hB0.size _
  go_wp2
  go_ret
  exact ⟨rfl, hB2⟩
theorem own_take {w : World} {base : Nat} {t : TypeId} {A : Option Addr} {n c cap : Nat} {xs : List Value} (hx : c ≤ n) (h : w.ownsRow base t 1 (.slice A n cap) n xs) : w.ownsRow base t 1 (.slice A c cap) c (xs.take c) := by
  refine ⟨by rw [List.length_take, h.1]; omega, ?_⟩
  rcases h.2 with ⟨hv, h0⟩ | ⟨g, cap', cur, hv, hb, hg, h1, h2, h3, h4⟩
  · injection hv with q1 q2 q3
    exact .inl ⟨by rw [q1, q3]; simp; omega, by omega⟩
  · injection hv with q1 q2 q3
    subst q1 q3
    refine .inr ⟨g, cap, cur, rfl, hb, hg, by omega, h2, h3, ?_⟩
    rw [← h4, List.take_take]
    congr 1
    omega
/-- What PutItem answers, refused or not. -/
def PutRes (w : World) (E : Int) (L : List Int) (e : Ending) (w' : World) : Prop :=
  ∃ A c, e = .returned (.tuple #[.slice A L.length c, .int .i64 E]) ∧ w'.ownsRow w.heap.size 5 1 (.slice A L.length c) L.length (L.map (Value.int .u8)) ∧ Below w.heap.size w w' ∧ Rd .u8 w' w'.heap.size A L
theorem putRes_no {w w' : World} {e : Ending} (h : e = .returned (.tuple #[.slice none 0 0, .int .i64 1])) (hB : Below w.heap.size w w') : PutRes w 1 [] e w' := ⟨none, 0, h, World.ownsRow_nil _ _ _ _, hB, fun h => by simp at h⟩
theorem putRes_yes {w w' : World} {e : Ending} {id : Nat} {vs : List Int} (h : PutItemYes w id vs e w') : PutRes w 0 (putItemL id vs) e w' := by
  obtain ⟨g, c, h1, h2, h3⟩ := h
  exact ⟨some ⟨g, 0, none⟩, c, h1, h2, h3, rd_own h2⟩
theorem one_list {w : World} {base : Nat} {t : TypeId} {A : Option Addr} {l c n : Nat} {x : List Value} {mk : Nat → Value} (h : w.ownsRow base t 1 (.slice A l c) l x) : Lists w base t [⟨A, l, c, n⟩] mk 0 := by
  refine ⟨fun j e hj => ?_, fun i j e e' hij hi hj => ?_⟩
  · match j, hj with
    | 0, hj => simp at hj; subst hj; exact ⟨x, h, fun h => by omega⟩
    | j + 1, hj => simp at hj
  · match i, j, hi, hj with
    | 0, 0, _, _ => exact absurd rfl hij
    | i + 1, _, hi, _ => simp at hi
    | 0, j + 1, _, hj => simp at hj
/-- What stands while NumsItems runs. -/
structure StI (w W : World) (id : Int) (V : Option Addr) (n cv g tb : Nat) (row : List Value) : Prop where
  x0 : W.cell? ⟨w.heap.size, 0, none⟩ = some (.int .u64 id)
  x1 : W.cell? ⟨w.heap.size, 1, none⟩ = some (.slice V n cv)
  t0 : W.cell? ⟨tb, 0, none⟩ = some (.int .u64 id)
  t1 : W.cell? ⟨tb, 1, none⟩ = some (.slice (some ⟨g, 0, none⟩) n (n + 1))
  own : W.ownsRow w.heap.size 74 1 (.slice (some ⟨g, 0, none⟩) (n + 1) (n + 1)) (n + 1) row
  bel : Below w.heap.size w W
  sx : w.heap.size < W.heap.size
  st : tb < W.heap.size
theorem StI.next {w W W' : World} {id : Int} {V : Option Addr} {n cv g tb : Nat} {row : List Value} (h : StI w W id V n cv g tb row) (hB : Below W.heap.size W W') : StI w W' id V n cv g tb row :=
  ⟨(hB.cell (p := ⟨w.heap.size, 0, none⟩) h.sx).trans h.x0, (hB.cell (p := ⟨w.heap.size, 1, none⟩) h.sx).trans h.x1, (hB.cell (p := ⟨tb, 0, none⟩) h.st).trans h.t0, (hB.cell (p := ⟨tb, 1, none⟩) h.st).trans h.t1, own_keep h.own hB, h.bel.trans (hB.mono h.bel.size), by have := hB.size; have := h.sx; omega, by have := hB.size; have := h.st; omega⟩
set_option maxRecDepth 100000 in
set_option maxHeartbeats 4000000 in
theorem numsItems_main (id : Int) (V : Option Addr) (cv : Nat) (vs : List Int) (w : World) (hcv : vs.length ≤ cv) (hmv : cv ≤ 140737488351232) (hbey : bey [(vs.length : Int)] = false) (hx : Rd .i8 w w.heap.size V vs)
    (E : Int) (L : List Int) (hL : L.length ≤ 1000) (pn : ∀ T tc W, Rd .i8 W W.heap.size T vs → Calls Try.prog 27 #[.agg #[.int .u64 id, .slice T vs.length tc]] W (PutRes W E L)) (rn : ∀ T tc W, Rd .i8 W W.heap.size T vs → Calls Try.prog 28 #[.agg #[.int .u64 id, .slice T vs.length tc]] W (PutRes W E L)) :
    Calls Try.prog 5 #[.agg #[.int .u64 id, .slice V vs.length cv]] w fun e w' => e = .returned (.bool true) ∧ Below w.heap.size w w' := by
  have BY := Lib.hid (fun W => bey_one W vs.length (by omega))
  have hl := bey_false hbey
  rw [hbey] at BY
  clear hbey
  have PN := Lib.hid pn
  have RN := Lib.hid rn
  clear pn rn
  have TW := Lib.hid (fun W h => twinItem_any id V cv vs W h (by omega))
  have LE := Lib.hid (fun T tc W h h' hh hh' => leftItem_any id T V tc cv vs vs.length rfl W h h' hcv hh (by omega) hh')
  obtain ⟨w0, hw0⟩ : ∃ w0, w.alloc (.cells #[.int .u64 id, .slice V vs.length cv] 54) = w0 := ⟨_, rfl⟩
  have hB0 : Below w.heap.size w w0 := by rw [← hw0]; exact (Below.refl _ _).alloc (Nat.le_refl _) _
  have hs0 : w.heap.size < w0.heap.size := by rw [← hw0]; simp
  have hc0 : w0.cell? ⟨w.heap.size, 0, none⟩ = some (.int .u64 id) := by rw [← hw0]; simp [go_sem]
  have hc1 : w0.cell? ⟨w.heap.size, 1, none⟩ = some (.slice V vs.length cv) := by rw [← hw0]; simp [go_sem]
  go_enter Try.func5, Try.ntmps5
  go_wp2_with fail
  refine (BY.out w0).mono ?_
  rintro e w' ⟨rfl, rfl⟩
  clear hw0
  have hB2 : Below w.heap.size w (w0.alloc (.cells #[.int .i64 (vs.length : Int)] 3)) := hB0.alloc hB0.size _
  have hBb : Below w0.heap.size w0 (w0.alloc (.cells #[.int .i64 (vs.length : Int)] 3)) := (Below.refl _ _).alloc (Nat.le_refl _) _
  generalize w0.alloc (.cells #[.int .i64 (vs.length : Int)] 3) = w2 at *
  have hd0 : w2.cell? ⟨w.heap.size, 0, none⟩ = some (.int .u64 id) := (hBb.cell (p := ⟨w.heap.size, 0, none⟩) hs0).trans hc0
  have hd1 : w2.cell? ⟨w.heap.size, 1, none⟩ = some (.slice V vs.length cv) := (hBb.cell (p := ⟨w.heap.size, 1, none⟩) hs0).trans hc1
  have hs2 : w.heap.size < w2.heap.size := by have := hBb.size; omega
  clear hc0 hc1 hB0 hBb hs0 BY
  go_wp2_with fail
  refine (TW.out w2 ((hx.below hB2).more (by omega))).mono ?_
  rintro e w3 ⟨g3, rfl, hB3, o3⟩
  obtain ⟨w4, hw4⟩ : ∃ w4, w3.alloc (.cells #[.int .u64 id, .slice (some ⟨g3, 0, none⟩) vs.length (vs.length + 1)] 54) = w4 := ⟨_, rfl⟩
  have b4 : Below w3.heap.size w3 w4 := by rw [← hw4]; exact (Below.refl _ _).alloc (Nat.le_refl _) _
  have S4 : Hid (StI w w4 id V vs.length cv g3 w3.heap.size ((vs ++ [77]).map (Value.int .i8))) := by
    have z3 := hB3.size
    have z4 := b4.size
    refine ⟨(b4.cell (p := ⟨w.heap.size, 0, none⟩) (by show w.heap.size < w3.heap.size; omega)).trans ((hB3.cell (p := ⟨w.heap.size, 0, none⟩) hs2).trans hd0), (b4.cell (p := ⟨w.heap.size, 1, none⟩) (by show w.heap.size < w3.heap.size; omega)).trans ((hB3.cell (p := ⟨w.heap.size, 1, none⟩) hs2).trans hd1), by rw [← hw4]; simp [go_sem], by rw [← hw4]; simp [go_sem], owns_base (own_keep o3 b4) (by omega), hB2.trans ((hB3.mono (by omega)).trans (b4.mono (by omega))), by omega, by rw [← hw4]; simp⟩
  have HW4 := Lib.hid hw4
  have HX := Lib.hid hx
  generalize hT : w3.heap.size = tb at S4
  have HT := Lib.hid hT
  clear hw4 hx TW hd0 hd1 hB2 hs2 b4 hB3 o3 hT
  have rt : ∀ W, StI w W id V vs.length cv g3 tb ((vs ++ [77]).map (Value.int .i8)) → Rd .i8 W W.heap.size (some ⟨g3, 0, none⟩) vs := fun W S => by
    have h := (rd_own S.own).take vs.length
    simpa using h
  have RT := Lib.hid rt
  clear rt
  go_wp2_with fail
  rw [HW4.out]
  rw [HT.out]
  clear HW4
  refine (PN.out _ _ w4 (RT.out _ S4.out)).mono ?_
  rintro e w5 ⟨A1, c1, rfl, o1, hB5, r1⟩
  have S5 := Lib.hid (S4.out.next hB5)
  have o1 := owns_base o1 (Nat.le_of_lt S4.out.sx)
  have x0 := S5.out.t0
  have x1 := S5.out.t1
  clear hB5 S4
  go_wp2_with fail
  refine (PN.out _ _ w5 (RT.out _ S5.out)).mono ?_
  rintro e w6 ⟨A2, c2, rfl, o2, hB6, r2⟩
  have S6 := Lib.hid (S5.out.next hB6)
  have hap : ∀ g, (Value.slice A1 L.length c1).ownBlock = some g → (Value.slice A2 L.length c2).ownBlock ≠ some g := fun g h h' => by have := (o1.lt g h).2; have := (o2.lt g h').1; omega
  have o1 := own_keep o1 hB6
  have o2 := owns_base o2 (Nat.le_of_lt S5.out.sx)
  have r1 := (r1.below hB6).more hB6.size
  clear x0 x1
  have x0 := S6.out.x0
  have x1 := S6.out.x1
  clear hB6 S5 PN
  go_wp2_with fail
  refine (RN.out _ _ w6 ((HX.out.below S6.out.bel).more S6.out.bel.size)).mono ?_
  rintro e w7 ⟨A3, c3, rfl, o3, hB7, r3⟩
  have S7 := Lib.hid (S6.out.next hB7)
  have o1 := own_keep o1 hB7
  have o2 := own_keep o2 hB7
  have r1 := (r1.below hB7).more hB7.size
  have r2 := (r2.below hB7).more hB7.size
  have SB := Lib.hid (sameBytes_any A1 A3 c1 c3 L L.length L.length rfl rfl w7 w7.heap.size r3 r1 (by omega))
  have SB2 := Lib.hid (fun nq => sameBytes_any A2 A3 c2 c3 L L.length L.length rfl rfl (w7.drewN nq) w7.heap.size r3 r2 (by omega))
  clear x0 x1 hB7 S6 RN o3 r1 r2 r3
  go_wp2_with fail
  refine SB.out.mono ?_
  rintro e w' ⟨rfl, nq, rfl⟩
  go_wp2_with fail
  refine (SB2.out nq).mono ?_
  rintro e w' ⟨rfl, nq2, rfl⟩
  have hB8 : Below w7.heap.size w7 ((w7.drewN nq).drewN nq2) := below_drewN (below_drewN (Below.refl _ _) nq) nq2
  generalize (w7.drewN nq).drewN nq2 = w8 at *
  have S8 := Lib.hid (S7.out.next hB8)
  have o1 := own_keep o1 hB8
  have o2 := own_keep o2 hB8
  have x0 := S8.out.x0
  have x1 := S8.out.x1
  have y0 := S8.out.t0
  have y1 := S8.out.t1
  clear hB8 S7 SB SB2
  go_wp2_with fail
  refine (LE.out _ _ w8 ((HX.out.below S8.out.bel).more S8.out.bel.size) (rd_own S8.out.own) (by omega) (by omega)).mono ?_
  rintro e w4 ⟨rfl, hB9⟩
  have S9 := Lib.hid (S8.out.next hB9)
  have o1 := own_keep o1 hB9
  have o2 := own_keep o2 hB9
  clear x0 x1 y0 y1 hB9 S8 HX LE RT
  obtain ⟨w5, hw5⟩ : ∃ w5, w4.alloc (.cells #[.int .i64 0, .slice none 0 0, .slice none 0 0, .slice none 0 0, .slice none 0 0, .slice none 0 0, .slice none 0 0, .slice none 0 0, .slice none 0 0, .slice none 0 0, .slice none 0 0, .slice none 0 0, .slice none 0 0] 43) = w5 := ⟨_, rfl⟩
  have hk5 : BookAt w5 w4.heap.size ((0 : Nat) : Int) (.slice none 0 0) (.slice none 0 0) := by rw [← hw5]; exact heap_alloc_new w4 _
  have b5 : Below w4.heap.size w4 w5 := by rw [← hw5]; exact (Below.refl _ _).alloc (Nat.le_refl _) _
  have S := Lib.hid (S9.out.next b5)
  have hB4 := S9.out.bel
  have hsz4 := hB4.size
  have hsz5 := b5.size
  have IT := Lib.hid (item_any id w4.heap.size w.heap.size 0 (some ⟨g3, 0, none⟩) none vs.length (vs.length + 1) 0 (.slice none 0 0) [] w5 (by omega) (by omega) hsz4 hk5 (World.ownsRow_nil _ _ _ _) (by simp))
  have HW5 := Lib.hid hw5
  have P1 := own_bel o1 b5
  have P2 := own_bel o2 b5
  have x0 := S.out.t0
  have x1 := S.out.t1
  rw [← hw5] at x0 x1
  clear hw5 o1 o2 S9
  go_wp2_with fail
  rw [HW5.out]
  refine IT.out.mono ?_
  rintro e w6 ⟨g6, c6, rfl, hk6, hr6, f6⟩
  have O6 := Lib.hid (own_take (Nat.le_succ _) (own_frm2 S.out.own f6 (by decide) (by decide)))
  have Q1 := own_frm2 P1 f6 (by decide) (by decide)
  have Q2 := own_frm2 P2 f6 (by decide) (by decide)
  have hsz6 := f6.below.size
  have BY1 := Lib.hid (bytes_any w4.heap.size w.heap.size 1 A1 none L.length c1 0 (.slice (some ⟨g6, 0, none⟩) 1 c6) [] w6 (by omega) (by omega) hsz4 hk6 (World.ownsRow_nil _ _ _ _) (by simp))
  clear IT HW5 P1 P2 hk5 hk6 x0 x1 S
  go_wp2_with fail
  refine BY1.out.mono ?_
  rintro e w7 ⟨g7, c7, rfl, hk7, hr7, f7⟩
  have O7 := Lib.hid (own_frm2 O6.out f7 (by decide) (by decide))
  have T7 := own_frm2 hr6 f7 (by decide) (by decide)
  have R1 := own_frm2 Q1 f7 (by decide) (by decide)
  have R2 := own_frm2 Q2 f7 (by decide) (by decide)
  have hsz7 := f7.below.size
  have BY2 := Lib.hid (bytes_any w4.heap.size w.heap.size 2 A2 (some ⟨g7, 0, none⟩) L.length c2 c7 (.slice (some ⟨g6, 0, none⟩) 1 c6) [⟨A1, L.length, c1, 2⟩] w7 (by omega) (by omega) hsz4 hk7 hr7 (by simp))
  clear BY1 Q1 Q2 hk7 hr7 hr6 O6
  go_wp2_with fail
  refine BY2.out.mono ?_
  rintro e w8 ⟨g8, c8, rfl, hk8, hr8, f8⟩
  have O8 := own_frm2 O7.out f8 (by decide) (by decide)
  have T8 := own_frm2 T7 f8 (by decide) (by decide)
  have U1 := own_frm2 R1 f8 (by decide) (by decide)
  have U2 := own_frm2 R2 f8 (by decide) (by decide)
  have hsz8 := f8.below.size
  have AP := Lib.hid (apart_any (w := w8) (base := w.heap.size) (eb := [⟨A1, L.length, c1, 2⟩, ⟨A2, L.length, c2, 3⟩]) (es := [⟨some ⟨g3, 0, none⟩, vs.length, vs.length + 1, 1⟩]) (by omega) hk8
    ⟨two_lists U1 U2 hap, .inr ⟨g8, c8, rfl, hr8⟩, by simp; omega, by simp⟩ ⟨one_list O8, .inr ⟨g6, c6, rfl, T8⟩, by simp; omega, by simp⟩)
  have hBw : Below w.heap.size w w8 := (((hB4.trans (b5.mono hsz4)).trans f6.below).trans f7.below).trans f8.below
  clear BY2 R1 R2 U1 U2 T7 T8 O7 O8 hk8 hr8 f6 f7 f8 b5 hB4
  go_wp2_with fail
  refine AP.out.mono ?_
  rintro e w9 ⟨rfl, hB9⟩
  go_wp2
  go_ret
  exact ⟨rfl, hBw.trans hB9⟩
end Go.Proofs.Ytlkkmeeijjaeiaa
