/- The walk of MeansNearest. -/
import Derived.Test.YtcakmcegcbameaaNs
import Derived.Test.YtcakmcegcbameaaBy
import Derived.Test.YtcakmcegcbameaaN3
import Derived.Test.YtcakmcegcbameaaNb
namespace Go.Proofs.Ytcakmcegcbameaa
open Go.RowKit
set_option linter.unusedVariables false
/-- A vector that was handed in. -/
structure GivenN (w : World) (B : Option Addr) (d : Nat) (v : List Int) : Prop where
  rd : Rd .i8 w w.heap.size B v
  len : v.length ≤ 140737488355328
  room : v.length ≤ d ∧ d ≤ 9223372036854775807
  b8 : ∀ x ∈ v, -128 ≤ x ∧ x ≤ 127
theorem GivenN.below {w w' : World} {B : Option Addr} {d : Nat} {v : List Int} (h : GivenN w B d v) (hb : Below w.heap.size w w') : GivenN w' B d v := ⟨(h.rd.below hb).more hb.size, h.len, h.room, h.b8⟩
theorem beyond_one (n : Nat) (hn : n ≤ 140737488355328) (w : World) : Calls Try.prog 10 #[.slice (some ⟨w.heap.size, 0, none⟩) 1 1] (w.alloc (.cells #[.int .i64 (n : Int)] 3)) fun e w' => e = .returned (.bool (bey [(n : Int)])) ∧ (w.alloc (.cells #[.int .i64 (n : Int)] 3)) = w' :=
  beyond_any (some ⟨w.heap.size, 0, none⟩) 1 [(n : Int)] 1 rfl (w.alloc (.cells #[.int .i64 (n : Int)] 3)) (w.heap.size + 1) (rd_one w .i64 3 n) (fun x hx => by simp at hx; omega) (by simp)
theorem bey_one {n : Nat} (h : bey [(n : Int)] = false) : n ≤ 1048576 := by unfold bey at h; simp at h; omega
set_option maxRecDepth 100000 in
set_option maxHeartbeats 1000000 in
theorem meansNearest_main (hN : NearSpec) (A : Option Addr) (c : Nat) (L : List Vc) (B : Option Addr) (d : Nat) (v : List Int) (w : World) (hx : Given w A L) (hr : RoomOk L) (hy : GivenN w B d v) :
    Calls Try.prog 3 #[.slice A L.length c, .slice B v.length d] w fun e w' => e = .returned (.bool true) ∧ Below w.heap.size w w' := by
  have HN := Lib.hid hN
  have HR := Lib.hid hr
  have HX := Lib.hid hx
  have HY := Lib.hid hy
  clear hN hx hy hr
  go_enter Try.func3, Try.ntmps3
  go_wp2_with fail
  refine (great_one HX.out _).mono ?_
  rintro e w1 ⟨⟨b, rfl, hb⟩, rfl⟩
  have cw1 : Below w.heap.size w (w.alloc (.cells #[.slice A L.length c] 22)) := below_one (Below.refl _ _) _
  have C1 := Lib.hid cw1
  have HX1 := Lib.hid (HX.out.below cw1)
  have HY1 := Lib.hid (HY.out.below cw1)
  obtain ⟨w1, ew1⟩ : ∃ w1, w.alloc (.cells #[.slice A L.length c] 22) = w1 := ⟨_, rfl⟩
  rw [ew1] at C1 HX1 HY1 ⊢
  clear ew1 cw1 HX HY
  dsimp only
  cases b with
  | true =>
    go_wp2
    go_ret
    exact ⟨rfl, C1.out⟩
  | false =>
    have HS := Lib.hid (hb rfl (A, c, L) (by simp))
    clear hb
    go_wp2_with fail
    refine (beyond_one v.length HY1.out.len w1).mono ?_
    rintro e w2 ⟨rfl, rfl⟩
    have cw2 : Below w1.heap.size w1 (w1.alloc (.cells #[.int .i64 (v.length : Int)] 3)) := below_one (Below.refl _ _) _
    have C2 := Lib.hid (C1.out.trans (cw2.mono C1.out.size))
    have HX2 := Lib.hid (HX1.out.below cw2)
    have HY2 := Lib.hid (HY1.out.below cw2)
    obtain ⟨w2, ew2⟩ : ∃ w2, w1.alloc (.cells #[.int .i64 (v.length : Int)] 3) = w2 := ⟨_, rfl⟩
    rw [ew2] at C2 HX2 HY2 ⊢
    clear ew2 cw2 HX1 HY1 C1
    dsimp only
    cases hbe : bey [(v.length : Int)] with
    | true =>
      go_wp2
      go_ret
      exact ⟨rfl, C2.out⟩
    | false =>
      have HV := Lib.hid (bey_one hbe)
      clear hbe
      go_wp2_with fail
      refine (twinVecs_any A c L _ rfl w2 HX2.out.rd HS.out.len (fun u hu => HS.out.vec hu)).mono ?_
      rintro e w3 ⟨rfl, ⟨T, hT, hTv⟩, b3⟩
      have HTV := Lib.hid hTv
      have HT3 := Lib.hid hT
      have HX3 := Lib.hid (HX2.out.below b3)
      have HY3 := Lib.hid (HY2.out.below b3)
      have C3 := Lib.hid (C2.out.trans (b3.mono C2.out.size))
      have HTL := Lib.hid (show T.length = L.length by rw [← vecs_len, hTv, vecs_len])
      clear b3 hT hTv HX2 HY2 C2
      dsimp only
      obtain ⟨g, eg⟩ : ∃ g, w2.heap.size = g := ⟨_, rfl⟩
      rw [eg] at HT3 ⊢
      clear eg
      go_wp2_with fail
      refine (twinInt8s_any B d v _ rfl w3 HY3.out.rd (by have := HV.out; omega)).mono ?_
      rintro e w4 ⟨rfl, b4, o4⟩
      have HO4 := Lib.hid o4
      have HT4 := Lib.hid (HT3.out.below b4)
      have HX4 := Lib.hid (HX3.out.below b4)
      have HY4 := Lib.hid (HY3.out.below b4)
      have C4 := Lib.hid (C3.out.trans (b4.mono C3.out.size))
      clear b4 o4 HT3 HX3 HY3 C3
      dsimp only
      obtain ⟨z, ez⟩ : ∃ z, w3.heap.size = z := ⟨_, rfl⟩
      rw [ez] at HO4 ⊢
      clear ez
      have NE := HN.out (some ⟨g, 0, none⟩) (L.length + 2) T (some ⟨z, 0, none⟩) (v.length + 1) v w4 (HT4.out.arg HTV.out HS.out HX4.out.b8) ⟨by
        have h1 := (mark_rd HO4.out).take v.length
        rw [List.take_left' rfl] at h1; exact h1, HV.out, HY4.out.b8⟩
      rw [HTL.out, HTV.out] at NE
      have NE' := Lib.hid NE
      clear NE
      go_wp2_with fail
      refine NE'.out.mono ?_
      rintro e w5 ⟨rfl, b5⟩
      have HO5 := Lib.hid (own_below HO4.out b5)
      have HT5 := Lib.hid (HT4.out.below b5)
      have HX5 := Lib.hid (HX4.out.below b5)
      have HY5 := Lib.hid (HY4.out.below b5)
      have C5 := Lib.hid (C4.out.trans (b5.mono C4.out.size))
      clear b5 HO4 HT4 HX4 HY4 C4 NE'
      dsimp only
      go_wp2_with fail
      refine (refNear_any A c L B d v w5 (HX5.out.arg HS.out) ⟨HY5.out.rd, HV.out, HY5.out.b8⟩).mono ?_
      rintro e w6 ⟨rfl, b6⟩
      have HO6 := Lib.hid (own_below HO5.out b6)
      have HT6 := Lib.hid (HT5.out.below b6)
      have HX6 := Lib.hid (HX5.out.below b6)
      have HY6 := Lib.hid (HY5.out.below b6)
      have C6 := Lib.hid (C5.out.trans (b6.mono C5.out.size))
      clear b6 HO5 HT5 HX5 HY5 C5
      have LV := Lib.hid (leftVecs_any g _ T A c L _ rfl w6 HT6.out HTV.out HX6.out.rd HR.out HS.out.len (fun u hu => HS.out.vec hu))
      have LI := Lib.hid (fun q => leftInt8s_any (some ⟨z, 0, none⟩) B (v.length + 1) d v _ rfl (w6.drewN q) w6.heap.size (HY6.out.rd.below (below_drewN (Below.refl _ w6) q)) ((mark_rd HO6.out).below (below_drewN (Below.refl _ w6) q)) HY6.out.room.1 (by omega) ⟨HY6.out.room.2, HY6.out.len⟩ (by have := HV.out; omega))
      have eA : (nearA (vecs L) v == nearA (vecs L) v) = true := by simp
      have eB : (errE (mayM (vecs L) [v]) == errE (mayM (vecs L) [v])) = true := by simp
      obtain ⟨x, ex⟩ : ∃ x, nearA (vecs L) v = x := ⟨_, rfl⟩
      obtain ⟨y, ey⟩ : ∃ y, errE (mayM (vecs L) [v]) = y := ⟨_, rfl⟩
      rw [ex] at eA ⊢
      rw [ey] at eB ⊢
      clear ex ey HO6 HT6 HX6 HY6
      dsimp only
      go_wp2_with (first
        | (go_at_call 15; refine LV.out.mono ?_; rintro e w7 ⟨rfl, nq, rfl⟩)
        | (go_at_call 16; refine (LI.out _).mono ?_; rintro e w8 ⟨rfl, mq, rfl⟩))
      go_ret
      exact ⟨rfl, below_drewN C6.out _⟩
end Go.Proofs.Ytcakmcegcbameaa
