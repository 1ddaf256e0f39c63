/- The walk of PqDecodes. -/
import Derived.Test.YthbimjkcpmffcaaX2
import Derived.Test.YthbimjkcpmffcaaPg
import Derived.Test.YthbimjkcpmffcaaQc
namespace Go.Proofs.Ythbimjkcpmffcaa
open Go.RowKit
set_option linter.unusedVariables false
theorem whole_row {w : World} {g base n cap : Nat} {t : TypeId} {cs : Array Value} (h : Whole w g t cs) (hc : cs.size = cap) (hn : n ≤ cap) (hm : cap ≤ 9223372036854775807) (hb : base ≤ g) : w.ownsRow base t 1 (.slice (some ⟨g, 0, none⟩) n cap) n (cs.toList.take n) := by
  refine ⟨?_, .inr ⟨g, cap, cs, rfl, hb, h, hn, hm, by rw [hc, Nat.mul_one], by rw [Nat.mul_one]⟩⟩
  rw [List.length_take, Nat.mul_one, Array.length_toList, hc]
  omega
theorem cntP_size : ∀ (L : List Pc), cntP L ≤ sizeP (words L)
  | [] => by simp [cntP]
  | x :: L => by
    have h1 := cntP_size L
    have h2 := sizeL_len (vecs x.2.2)
    rw [vecs_len] at h2
    unfold cntP sizeP words at *
    simp only [List.map_cons, List.sum_cons, List.length_cons, List.length_map] at *
    omega
/-- A twin of a book's words lies in its range. -/
theorem TwinP.inP {w : World} {lo g base : Nat} {T : List Pc} (h : TwinP w lo g 2 T) (hg : lo ≤ g) (hb : base ≤ lo) (hs : sizeP (words T) ≤ 20000) : InP w base lo w.heap.size (some ⟨g, 0, none⟩) (T.length + 2) T := by
  have hsm : PSmall T := hs
  have hl := hsm.len
  have hx2 : ∀ x ∈ T, x.2.2.length ≤ 20000 ∧ ∀ v ∈ x.2.2, v.2.2.length ≤ 20000 := fun x hx => by
    have h1 := hsm.at_ hx
    refine ⟨h1.len, fun v hv => h1.vec (List.mem_map_of_mem hv)⟩
  refine ⟨?_, fun x hx => ?_, fun x hx v hv => ?_, fun x hx => ⟨(hx2 x hx).1, fun v hv => by have := (hx2 x hx).2 v hv; omega⟩, h.apart, fun b hbb => ?_, fun x hx b hbb => ?_, fun x hx v hv b hbb => ?_⟩
  · have := whole_row (n := T.length) (base := base) h.row (cap := T.length + 2) (by rw [cellsR_size]) (by omega) (by omega) (by omega)
    have e : (cellsR T 2).toList.take T.length = cellsP T := by unfold cellsR; rw [List.take_left' (cellsP_len T)]
    rw [e] at this
    exact this
  · obtain ⟨h1, b, h2, h3, h4⟩ := h.twin x hx
    have h5 := (hx2 x hx).1
    have := whole_row (n := x.2.2.length) (base := base) h4.row (cap := x.2.2.length + 2) (by unfold cellsT; simp [cellsV]) (by omega) (by omega) (by omega)
    have e : (cellsT x.2.2 2).toList.take x.2.2.length = cellsV x.2.2 := by unfold cellsT; rw [List.take_left' (by simp [cellsV])]
    rw [e] at this
    rw [h1, h2]
    exact this
  · obtain ⟨h1, b, h2, h3, h4⟩ := h.twin x hx
    exact ⟨_, own_base (h4.twin v hv).own hb⟩
  · have : g = b := by simpa [Value.ownBlock] using hbb
    rw [← this]; exact ⟨hg, h.row.lt⟩
  · obtain ⟨h1, b', h2, h3, h4⟩ := h.twin x hx
    have : b' = b := by unfold pblk at hbb; rw [h2] at hbb; simpa [Value.ownBlock] using hbb
    rw [← this]; exact ⟨h3, h4.row.lt⟩
  · obtain ⟨h1, b', h2, h3, h4⟩ := h.twin x hx
    exact h4.vb_lt v hv b hbb
theorem InP.below {w w' : World} {base lo hi : Nat} {A : Option Addr} {c : Nat} {L : List Pc} (h : InP w base lo hi A c L) (hb : Below w.heap.size w w') : InP w' base lo hi A c L :=
  ⟨own_below h.row hb, fun x hx => own_below (h.lst x hx) hb, fun x hx v hv => by obtain ⟨ys, hy⟩ := h.vec x hx v hv; exact ⟨ys, own_below hy hb⟩, h.len, h.apart, h.ro, h.rl, h.rv⟩
theorem bt_apart {w : World} {bk base n hi : Nat} (hB : BT w bk base n hi) (hb : base ≤ w.heap.size) : Calls Try.prog 23 #[.pointer (some ⟨bk, 0, none⟩)] w fun e w' => e = .returned (.bool true) ∧ Below base w w' := by
  obtain ⟨es, ⟨sv, h⟩, _, _⟩ := hB
  exact Bk.apart_any hb h.at_ h.k1 h.k3 h.k5 h.k6 h.k7 h.k8 (h.z 2 (by decide) (by decide) (by decide) (by decide) (by decide) (by decide)) (h.z 4 (by decide) (by decide) (by decide) (by decide) (by decide) (by decide)) (h.z 9 (by decide) (by decide) (by decide) (by decide) (by decide) (by decide)) (h.z 10 (by decide) (by decide) (by decide) (by decide) (by decide) (by decide)) (h.z 11 (by decide) (by decide) (by decide) (by decide) (by decide) (by decide)) (h.z 12 (by decide) (by decide) (by decide) (by decide) (by decide) (by decide))
set_option maxRecDepth 100000 in
set_option maxHeartbeats 4000000 in
theorem pqDecodes_main (hD : PqDecodeSpec) (P : Int) (A : Option Addr) (c : Nat) (L : List Pc) (D : Option Addr) (q : Nat) (code : List Int) (w : World) (hx : PGiven w A L) (hk : GivenC w D q code) :
    Calls Try.prog 3 #[.agg #[.int .i64 P, .slice A L.length c], .slice D code.length q] w fun e w' => e = .returned (.bool true) ∧ Below w.heap.size w w' := by
  have HD := Lib.hid hD
  have hb0 : Below w.heap.size w (w.alloc (.cells #[.int .i64 P, .slice A L.length c] 24)) := below_one (Below.refl _ _) _
  have HX0 := Lib.hid (hx.below hb0)
  have HK0 := Lib.hid (hk.below hb0)
  have C0 := Lib.hid hb0
  have BX0 := Lib.hid (show Whole (w.alloc (.cells #[.int .i64 P, .slice A L.length c] 24)) w.heap.size 24 #[.int .i64 P, .slice A L.length c] from Whole.new w 24 _)
  clear hD hx hk hb0
  go_enter Try.func3, Try.ntmps3
  go_wp2_with fail
  obtain ⟨w0, ew0⟩ : ∃ w0, w.alloc (.cells #[.int .i64 P, .slice A L.length c] 24) = w0 := ⟨_, rfl⟩
  rw [ew0] at HX0 HK0 C0 BX0 ⊢
  obtain ⟨g, eg⟩ : ∃ g, w.heap.size = g := ⟨_, rfl⟩
  rw [eg] at BX0 ⊢
  clear ew0 eg
  refine (psize_any P A c L w0 HX0.out).mono ?_
  rintro e w1 ⟨⟨z, rfl, hz⟩, b⟩
  have HX1 := Lib.hid (HX0.out.below b)
  have HK1 := Lib.hid (HK0.out.below b)
  have BX1 := Lib.hid (BX0.out.below b BX0.out.lt)
  have C1 := Lib.hid (C0.out.trans (b.mono C0.out.size))
  clear HX0 HK0 BX0 C0 b
  have k0 : w1.cell? ⟨g, 0, none⟩ = some (.int .i64 P) := BX1.out.cell 0
  have k1 : w1.cell? ⟨g, 1, none⟩ = some (.slice A L.length c) := BX1.out.cell 1
  dsimp only
  by_cases hzl : 20000 < z
  · have e1 : decide ((20000 : Int) < z) = true := decide_eq_true hzl
    go_wp2
    go_ret
    exact ⟨rfl, C1.out⟩
  have e1 : decide ((20000 : Int) < z) = false := decide_eq_false hzl
  have HSM := Lib.hid (show PSmall L by rcases hz.2 with h | h <;> unfold PSmall <;> omega)
  clear hz hzl
  go_wp2_with fail
  refine (beyond_one code.length (by have := HK1.out.len; omega) w1).mono ?_
  rintro e w2 ⟨rfl, rfl⟩
  have b : Below w1.heap.size w1 (w1.alloc (.cells #[.int .i64 (code.length : Int)] 3)) := below_one (Below.refl _ _) _
  obtain ⟨w2, ew2⟩ : ∃ w2, w1.alloc (.cells #[.int .i64 (code.length : Int)] 3) = w2 := ⟨_, rfl⟩
  rw [ew2] at b ⊢
  clear ew2 k0 k1 e1
  have HX2 := Lib.hid (HX1.out.below b)
  have HK2 := Lib.hid (HK1.out.below b)
  have BX2 := Lib.hid (BX1.out.below b BX1.out.lt)
  have C2 := Lib.hid (C1.out.trans (b.mono C1.out.size))
  clear HX1 HK1 BX1 C1 b
  have k0 : w2.cell? ⟨g, 0, none⟩ = some (.int .i64 P) := BX2.out.cell 0
  have k1 : w2.cell? ⟨g, 1, none⟩ = some (.slice A L.length c) := BX2.out.cell 1
  dsimp only
  cases hbe : bey [(code.length : Int)] with
  | true =>
    go_wp2
    go_ret
    exact ⟨rfl, C2.out⟩
  | false =>
    have HBE := Lib.hid (bey_one hbe)
    clear hbe
    have CW2 := Lib.hid C2.out
    go_wp2_with fail
    refine (twinWords_any P A c L w2 HX2.out HSM.out).mono ?_
    rintro e w3 ⟨t, T, rfl, ht, hT, hTv, hTl, b⟩
    clear k0 k1
    have HX3 := Lib.hid (HX2.out.below b)
    have HK3 := Lib.hid (HK2.out.below b)
    have BX3 := Lib.hid (BX2.out.below b BX2.out.lt)
    have C3 := Lib.hid (C2.out.trans (b.mono C2.out.size))
    clear HX2 HK2 BX2 C2 b
    have k0 : w3.cell? ⟨g, 0, none⟩ = some (.int .i64 P) := BX3.out.cell 0
    have k1 : w3.cell? ⟨g, 1, none⟩ = some (.slice A L.length c) := BX3.out.cell 1
    obtain ⟨lo, elo⟩ : ∃ lo, w2.heap.size = lo := ⟨_, rfl⟩
    rw [elo] at ht hT
    have HLO := Lib.hid elo
    have HTV := Lib.hid hTv
    have HTL := Lib.hid hTl
    have HIP := Lib.hid (hT.inP ht (Nat.le_refl lo) (by rw [hTv]; exact HSM.out))
    have HT3L := Lib.hid (show t < w3.heap.size from hT.row.lt)
    have HT3 := Lib.hid hT
    have HLT := Lib.hid ht
    clear elo ht hT hTv hTl
    dsimp only
    go_wp2_with fail
    have b : Below w3.heap.size w3 (w3.alloc (.cells #[.int .i64 P, .slice (some ⟨t, 0, none⟩) L.length (L.length + 2)] 24)) := below_one (Below.refl _ _) _
    have BY4 := Lib.hid (show Whole (w3.alloc (.cells #[.int .i64 P, .slice (some ⟨t, 0, none⟩) L.length (L.length + 2)] 24)) w3.heap.size 24 #[.int .i64 P, .slice (some ⟨t, 0, none⟩) L.length (L.length + 2)] from Whole.new w3 24 _)
    obtain ⟨w4, ew4⟩ : ∃ w4, w3.alloc (.cells #[.int .i64 P, .slice (some ⟨t, 0, none⟩) L.length (L.length + 2)] 24) = w4 := ⟨_, rfl⟩
    have hw34 : w4.heap.size = w3.heap.size + 1 := by rw [← ew4]; simp
    rw [ew4] at b BY4 ⊢
    obtain ⟨h, eh⟩ : ∃ h, w3.heap.size = h := ⟨_, rfl⟩
    have HS34 := Lib.hid hw34
    rw [eh] at BY4 ⊢
    have HEH := Lib.hid eh
    clear ew4 k0 k1 eh hw34
    have B3 := Lib.hid b
    have HX4 := Lib.hid (HX3.out.below b)
    have HK4 := Lib.hid (HK3.out.below b)
    have BX4 := Lib.hid (BX3.out.below b BX3.out.lt)
    have HT4 := Lib.hid (HT3.out.below b)
    have C4 := Lib.hid (C3.out.trans (b.mono C3.out.size))
    clear HX3 HK3 BX3 HT3 C3 b
    have k0 : w4.cell? ⟨g, 0, none⟩ = some (.int .i64 P) := BX4.out.cell 0
    have k1 : w4.cell? ⟨g, 1, none⟩ = some (.slice A L.length c) := BX4.out.cell 1
    have B34 := Lib.hid (show Below w3.heap.size w3 w4 from B3.out)
    have y0 : w4.cell? ⟨h, 0, none⟩ = some (.int .i64 P) := BY4.out.cell 0
    have y1 : w4.cell? ⟨h, 1, none⟩ = some (.slice (some ⟨t, 0, none⟩) L.length (L.length + 2)) := BY4.out.cell 1
    refine (twinBytes_any D q code _ rfl w4 HK4.out.rd (by have := HBE.out; omega)).mono ?_
    rintro e w5 ⟨rfl, b, o⟩
    have HM5 := Lib.hid (show MarkRow w5 w4.heap.size w4.heap.size .u8 5 code from o)
    clear o k0 k1 y0 y1
    have B35 := Lib.hid (B34.out.trans (b.mono B34.out.size))
    have HX5 := Lib.hid (HX4.out.below b)
    have HK5 := Lib.hid (HK4.out.below b)
    have BX5 := Lib.hid (BX4.out.below b BX4.out.lt)
    have HT5 := Lib.hid (HT4.out.below b)
    have BY5 := Lib.hid (BY4.out.below b BY4.out.lt)
    have C5 := Lib.hid (C4.out.trans (b.mono C4.out.size))
    clear HX4 HK4 BX4 HT4 BY4 C4 b
    have k0 : w5.cell? ⟨g, 0, none⟩ = some (.int .i64 P) := BX5.out.cell 0
    have k1 : w5.cell? ⟨g, 1, none⟩ = some (.slice A L.length c) := BX5.out.cell 1
    have y0 : w5.cell? ⟨h, 0, none⟩ = some (.int .i64 P) := BY5.out.cell 0
    have y1 : w5.cell? ⟨h, 1, none⟩ = some (.slice (some ⟨t, 0, none⟩) L.length (L.length + 2)) := BY5.out.cell 1
    obtain ⟨m, em⟩ : ∃ m, w4.heap.size = m := ⟨_, rfl⟩
    rw [em] at HM5 HS34 ⊢
    have HM5L := Lib.hid (show m < w5.heap.size from (HM5.out.own.lt m rfl).2)
    have HMM := Lib.hid em
    clear em
    dsimp only
    have hpt := fun W (hb : Below w5.heap.size w5 W) => (show PArg W (some ⟨t, 0, none⟩) T from ⟨(HT5.out.below hb).rd, by unfold PSmall; rw [HTV.out]; exact HSM.out, by rw [HTV.out]; exact (HX5.out).b8⟩)
    have CD := Lib.hid (fun W (hb : Below w5.heap.size w5 W) => (by
      have q := HD.out P (some ⟨t, 0, none⟩) (L.length + 2) T (some ⟨m, 0, none⟩) (code.length + 1) code W (hpt W hb) ⟨unmark_rd (HM5.out.below hb).rd, HBE.out, HK5.out.u8⟩
      rw [HTV.out, HTL.out] at q
      exact q : Calls Try.prog 15 #[.agg #[.int .i64 P, .slice (some ⟨t, 0, none⟩) L.length (L.length + 2)], .slice (some ⟨m, 0, none⟩) code.length (code.length + 1)] W (NAns W .i8 79 (decA P (words L) code) (errE (decB P (words L) code)))))
    clear hpt
    have B55 := Lib.hid (Below.refl w5.heap.size w5)
    obtain ⟨X, eX⟩ : ∃ X, decA P (words L) code = X := ⟨_, rfl⟩
    obtain ⟨E, eE⟩ : ∃ E, errE (decB P (words L) code) = E := ⟨_, rfl⟩
    have RD := fun W (hx : PGiven W A L) (hk : GivenC W D q code) => rDecode_any P A c L D q code W (hx.arg HSM.out) (hk.arg HBE.out)
    have hX64 : X.length ≤ 20000 := by
      rw [← eX]
      unfold decA
      cases hdb : decB P (words L) code with
      | false => simp
      | true =>
        obtain ⟨h1, h2⟩ := decB_bk hdb
        rw [if_pos rfl, dec_len (bookB_yes h1).2 h2]
        have := (bookB_yes h1).2.2.1
        omega
    simp only [eX, eE] at CD RD
    have HRDC := Lib.hid RD
    clear RD eX eE
    go_wp2_with fail
    refine (CD.out w5 B55.out).mono ?_
    rintro e w6 ⟨A6, c6, rfl, o6, b⟩
    clear k0 k1 y0 y1
    have B56 := Lib.hid (B55.out.trans (b.mono B55.out.size))
    have B36 := Lib.hid (B35.out.trans (b.mono B35.out.size))
    have HSZ6 := Lib.hid b.size
    have HX6 := Lib.hid (HX5.out.below b)
    have HK6 := Lib.hid (HK5.out.below b)
    have BX6 := Lib.hid (BX5.out.below b BX5.out.lt)
    have HT6 := Lib.hid (HT5.out.below b)
    have BY6 := Lib.hid (BY5.out.below b BY5.out.lt)
    have HM6 := Lib.hid (HM5.out.below b)
    have C6 := Lib.hid (C5.out.trans (b.mono C5.out.size))
    clear HX5 HK5 BX5 HT5 BY5 HM5 C5 b
    have k0 : w6.cell? ⟨g, 0, none⟩ = some (.int .i64 P) := BX6.out.cell 0
    have k1 : w6.cell? ⟨g, 1, none⟩ = some (.slice A L.length c) := BX6.out.cell 1
    have y0 : w6.cell? ⟨h, 0, none⟩ = some (.int .i64 P) := BY6.out.cell 0
    have y1 : w6.cell? ⟨h, 1, none⟩ = some (.slice (some ⟨t, 0, none⟩) L.length (L.length + 2)) := BY6.out.cell 1
    have O66 := Lib.hid o6
    clear o6
    dsimp only
    go_wp2_with fail
    refine (CD.out w6 B56.out).mono ?_
    rintro e w7 ⟨A7, c7, rfl, o7, b⟩
    clear k0 k1 y0 y1
    have B57 := Lib.hid (B56.out.trans (b.mono B56.out.size))
    have B37 := Lib.hid (B36.out.trans (b.mono B36.out.size))
    have HSZ7 := Lib.hid b.size
    have O67 := Lib.hid (own_below O66.out b)
    have HX7 := Lib.hid (HX6.out.below b)
    have HK7 := Lib.hid (HK6.out.below b)
    have BX7 := Lib.hid (BX6.out.below b BX6.out.lt)
    have HT7 := Lib.hid (HT6.out.below b)
    have BY7 := Lib.hid (BY6.out.below b BY6.out.lt)
    have HM7 := Lib.hid (HM6.out.below b)
    have C7 := Lib.hid (C6.out.trans (b.mono C6.out.size))
    clear HX6 HK6 BX6 HT6 BY6 HM6 C6 b
    have k0 : w7.cell? ⟨g, 0, none⟩ = some (.int .i64 P) := BX7.out.cell 0
    have k1 : w7.cell? ⟨g, 1, none⟩ = some (.slice A L.length c) := BX7.out.cell 1
    have y0 : w7.cell? ⟨h, 0, none⟩ = some (.int .i64 P) := BY7.out.cell 0
    have y1 : w7.cell? ⟨h, 1, none⟩ = some (.slice (some ⟨t, 0, none⟩) L.length (L.length + 2)) := BY7.out.cell 1
    have O77 := Lib.hid o7
    clear o7
    dsimp only
    go_wp2_with fail
    refine (HRDC.out w7 HX7.out HK7.out).mono ?_
    rintro e w8 ⟨A8, c8, rfl, o8, b⟩
    clear k0 k1 y0 y1
    have B58 := Lib.hid (B57.out.trans (b.mono B57.out.size))
    have B38 := Lib.hid (B37.out.trans (b.mono B37.out.size))
    have HSZ8 := Lib.hid b.size
    have O68 := Lib.hid (own_below O67.out b)
    have O78 := Lib.hid (own_below O77.out b)
    have HX8 := Lib.hid (HX7.out.below b)
    have HK8 := Lib.hid (HK7.out.below b)
    have BX8 := Lib.hid (BX7.out.below b BX7.out.lt)
    have HT8 := Lib.hid (HT7.out.below b)
    have BY8 := Lib.hid (BY7.out.below b BY7.out.lt)
    have HM8 := Lib.hid (HM7.out.below b)
    have C8 := Lib.hid (C7.out.trans (b.mono C7.out.size))
    clear HX7 HK7 BX7 HT7 BY7 HM7 C7 b
    have k0 : w8.cell? ⟨g, 0, none⟩ = some (.int .i64 P) := BX8.out.cell 0
    have k1 : w8.cell? ⟨g, 1, none⟩ = some (.slice A L.length c) := BX8.out.cell 1
    have y0 : w8.cell? ⟨h, 0, none⟩ = some (.int .i64 P) := BY8.out.cell 0
    have y1 : w8.cell? ⟨h, 1, none⟩ = some (.slice (some ⟨t, 0, none⟩) L.length (L.length + 2)) := BY8.out.cell 1
    have hr6 := (own_cap O68.out).2.2
    have hr8 := (own_cap o8).2.2
    clear o8
    dsimp only
    have S8 := Lib.hid (same8_any A6 A8 c6 c8 X X w8 _ hr6 hr8 (by omega) (by omega))
    have e9 : eqB X X = true := decide_eq_true rfl
    have ee : (E != E) = false := by simp
    clear hr6 hr8
    go_wp2_with fail
    refine S8.out.mono ?_
    rintro e w9 ⟨rfl, nq, hnq⟩
    have b : Below w8.heap.size w8 w9 := by rw [hnq]; exact below_drewN (Below.refl _ _) nq
    clear hnq S8 k0 k1 y0 y1
    have B59 := Lib.hid (B58.out.trans (b.mono B58.out.size))
    have B39 := Lib.hid (B38.out.trans (b.mono B38.out.size))
    have O69 := Lib.hid (own_below O68.out b)
    have O79 := Lib.hid (own_below O78.out b)
    have HX9 := Lib.hid (HX8.out.below b)
    have HK9 := Lib.hid (HK8.out.below b)
    have BX9 := Lib.hid (BX8.out.below b BX8.out.lt)
    have HT9 := Lib.hid (HT8.out.below b)
    have BY9 := Lib.hid (BY8.out.below b BY8.out.lt)
    have HM9 := Lib.hid (HM8.out.below b)
    have C9 := Lib.hid (C8.out.trans (b.mono C8.out.size))
    clear HX8 HK8 BX8 HT8 BY8 HM8 C8 b
    have k0 : w9.cell? ⟨g, 0, none⟩ = some (.int .i64 P) := BX9.out.cell 0
    have k1 : w9.cell? ⟨g, 1, none⟩ = some (.slice A L.length c) := BX9.out.cell 1
    have y0 : w9.cell? ⟨h, 0, none⟩ = some (.int .i64 P) := BY9.out.cell 0
    have y1 : w9.cell? ⟨h, 1, none⟩ = some (.slice (some ⟨t, 0, none⟩) L.length (L.length + 2)) := BY9.out.cell 1
    rw [e9]
    dsimp only
    go_wp2_with fail
    have LW := leftWords_any P t lo T A c L _ rfl w9 HT9.out HTV.out HTL.out HX9.out HSM.out
    refine LW.mono ?_
    rintro e w10 ⟨rfl, b⟩
    clear k0 k1 y0 y1 LW
    have B510 := Lib.hid (B59.out.trans (b.mono B59.out.size))
    have B310 := Lib.hid (B39.out.trans (b.mono B39.out.size))
    have O610 := Lib.hid (own_below O69.out b)
    have O710 := Lib.hid (own_below O79.out b)
    have HX10 := Lib.hid (HX9.out.below b)
    have HK10 := Lib.hid (HK9.out.below b)
    have BX10 := Lib.hid (BX9.out.below b BX9.out.lt)
    have HT10 := Lib.hid (HT9.out.below b)
    have BY10 := Lib.hid (BY9.out.below b BY9.out.lt)
    have HM10 := Lib.hid (HM9.out.below b)
    have C10 := Lib.hid (C9.out.trans (b.mono C9.out.size))
    clear HX9 HK9 BX9 HT9 BY9 HM9 C9 b
    have k0 : w10.cell? ⟨g, 0, none⟩ = some (.int .i64 P) := BX10.out.cell 0
    have k1 : w10.cell? ⟨g, 1, none⟩ = some (.slice A L.length c) := BX10.out.cell 1
    have y0 : w10.cell? ⟨h, 0, none⟩ = some (.int .i64 P) := BY10.out.cell 0
    have y1 : w10.cell? ⟨h, 1, none⟩ = some (.slice (some ⟨t, 0, none⟩) L.length (L.length + 2)) := BY10.out.cell 1
    dsimp only
    go_wp2_with fail
    have LB := leftBytes_any (some ⟨m, 0, none⟩) D (code.length + 1) q code _ rfl w10 w10.heap.size HK10.out.rd HM10.out.rd HK10.out.room.1 (by omega) ⟨HK10.out.room.2, by have := HBE.out; omega⟩ (by have := HBE.out; omega)
    refine LB.mono ?_
    rintro e w11 ⟨rfl, nq2, hnq⟩
    have b : Below w10.heap.size w10 w11 := by rw [hnq]; exact below_drewN (Below.refl _ _) nq2
    clear hnq LB k0 k1 y0 y1
    have B511 := Lib.hid (B510.out.trans (b.mono B510.out.size))
    have B311 := Lib.hid (B310.out.trans (b.mono B310.out.size))
    have O611 := Lib.hid (own_below O610.out b)
    have O711 := Lib.hid (own_below O710.out b)
    have HX11 := Lib.hid (HX10.out.below b)
    have HK11 := Lib.hid (HK10.out.below b)
    have BX11 := Lib.hid (BX10.out.below b BX10.out.lt)
    have HT11 := Lib.hid (HT10.out.below b)
    have BY11 := Lib.hid (BY10.out.below b BY10.out.lt)
    have HM11 := Lib.hid (HM10.out.below b)
    have C11 := Lib.hid (C10.out.trans (b.mono C10.out.size))
    clear HX10 HK10 BX10 HT10 BY10 HM10 C10 b
    have k0 : w11.cell? ⟨g, 0, none⟩ = some (.int .i64 P) := BX11.out.cell 0
    have k1 : w11.cell? ⟨g, 1, none⟩ = some (.slice A L.length c) := BX11.out.cell 1
    have y0 : w11.cell? ⟨h, 0, none⟩ = some (.int .i64 P) := BY11.out.cell 0
    have y1 : w11.cell? ⟨h, 1, none⟩ = some (.slice (some ⟨t, 0, none⟩) L.length (L.length + 2)) := BY11.out.cell 1
    dsimp only
    have B12 : Below w11.heap.size w11 (w11.alloc newBk) := below_one (Below.refl _ _) _
    have BYb := BY11.out.below B12 BY11.out.lt
    have yb0 : (w11.alloc (.cells #[.int .i64 0, .slice none 0 0, .slice none 0 0, .slice none 0 0, .slice none 0 0, .slice none 0 0, .slice none 0 0, .slice none 0 0, .slice none 0 0, .slice none 0 0, .slice none 0 0, .slice none 0 0, .slice none 0 0] 50)).cell? ⟨h, 0, none⟩ = some (.int .i64 P) := BYb.cell 0
    have yb1 : (w11.alloc (.cells #[.int .i64 0, .slice none 0 0, .slice none 0 0, .slice none 0 0, .slice none 0 0, .slice none 0 0, .slice none 0 0, .slice none 0 0, .slice none 0 0, .slice none 0 0, .slice none 0 0, .slice none 0 0, .slice none 0 0] 50)).cell? ⟨h, 1, none⟩ = some (.slice (some ⟨t, 0, none⟩) L.length (L.length + 2)) := BYb.cell 1
    have hlo : lo ≤ w11.heap.size := by
      have h1 := HLT.out
      have h2 := HT11.out.row.lt
      omega
    have hcn : cntP T ≤ 20000 := by have h1 := cntP_size T; have h2 := HSM.out; unfold PSmall at h2; rw [HTV.out] at h1; omega
    have hTl : T.length ≤ 20000 := by rw [HTL.out]; exact HSM.out.len
    have b311 : Below w3.heap.size w3 w11 := B311.out
    have W1 := bt_words (P := P) (bt_new w11 lo lo) ((HIP.out.below b311).below B12) (Nat.le_trans HLT.out (by have := HT3L.out; omega)) (by simp; omega) hlo hTl (by omega) (by omega)
    rw [HTL.out] at W1
    have HWC := Lib.hid W1
    have HB12 := Lib.hid B12
    have HLW := Lib.hid hlo
    have HCN := Lib.hid hcn
    clear W1 B12 BYb hlo hTl b311 k0 k1 y0 y1 hcn
    go_wp2_with fail
    refine HWC.out.mono ?_
    rintro e w13 ⟨rfl, hB1, kq1⟩
    have szm : w3.heap.size = h := HEH.out
    have mh : m = h + 1 := by rw [HS34.out, szm]
    have m5 : m < w5.heap.size := HM5L.out
    have s13 : lo ≤ w13.heap.size := Nat.le_trans HLW.out (Nat.le_trans (by simp) kq1.below.size)
    have OM13 := kq1.ru8 (own_below (own_base HM11.out.own (show lo ≤ m by have h1 := HLT.out; have h2 := HT3L.out; omega)) HB12.out)
    have OX13 := kq1.r8 (own_below O611.out HB12.out)
    have OY13 := kq1.r8 (own_below O711.out HB12.out)
    have lo5 : lo ≤ w5.heap.size := by have h1 := HLT.out; have h2 := HT3L.out; omega
    have C13 := kq1.below
    rw [szm] at hB1
    have W2 := bt_bytes (hi := m + 1) hB1 OM13 (fun b hb => by
      have : m = b := by simpa [Value.ownBlock] using hb
      omega) (by omega) s13 HLW.out (by have := HBE.out; omega) (by have := HCN.out; omega)
    have HW2 := Lib.hid W2
    have HOX := Lib.hid OX13
    have HOY := Lib.hid OY13
    have HC13 := Lib.hid C13
    have HM5L2 := HM5L.out
    clear W2 hB1 OM13 OX13 OY13 C13 kq1 HWC mh szm m5
    dsimp only
    go_wp2_with fail
    refine HW2.out.mono ?_
    rintro e w14 ⟨rfl, hB2, kq2⟩
    have s14 : lo ≤ w14.heap.size := Nat.le_trans s13 kq2.below.size
    have OX14 := kq2.r8 HOX.out
    have OY14 := kq2.r8 HOY.out
    have W3 := bt_int8s (hi := w6.heap.size) hB2 (own_base OX14 lo5) (fun b hb => by
      have h1 := (OX14.lt b hb).1
      have h2 := (O66.out.lt b hb).2
      omega) (by have := HSZ6.out; omega) s14 HLW.out (by omega) (by have := HCN.out; omega)
    have HW3 := Lib.hid W3
    have HOY := Lib.hid OY14
    have HC14 := Lib.hid (HC13.out.trans kq2.below)
    clear W3 hB2 OX14 OY14 kq2 HW2
    dsimp only
    go_wp2_with fail
    refine HW3.out.mono ?_
    rintro e w15 ⟨rfl, hB3, kq3⟩
    have s15 : lo ≤ w15.heap.size := Nat.le_trans s14 kq3.below.size
    have OY15 := kq3.r8 HOY.out
    have W4 := bt_int8s (hi := w7.heap.size) hB3 (own_base OY15 (show lo ≤ w6.heap.size by have := HSZ6.out; omega)) (fun b hb => by
      have h1 := (OY15.lt b hb).1
      have h2 := (O77.out.lt b hb).2
      omega) (by have := HSZ7.out; omega) s15 HLW.out (by omega) (by have := HCN.out; omega)
    have HW4 := Lib.hid W4
    have HC15 := Lib.hid (HC14.out.trans kq3.below)
    clear W4 hB3 OY15 kq3 HW3
    dsimp only
    go_wp2_with fail
    refine HW4.out.mono ?_
    rintro e w16 ⟨rfl, hB4, kq4⟩
    have s16 : lo ≤ w16.heap.size := Nat.le_trans s15 kq4.below.size
    have HAP := Lib.hid (bt_apart hB4 s16)
    have HC16 := Lib.hid (HC15.out.trans kq4.below)
    clear hB4 kq4 HW4
    dsimp only
    go_wp2_with fail
    refine HAP.out.mono ?_
    rintro e w17 ⟨rfl, b17⟩
    go_wp2
    go_ret
    have wl : w.heap.size ≤ lo := by rw [← HLO.out]; exact CW2.out.size
    exact ⟨rfl, (C11.out.trans (HB12.out.mono C11.out.size)).trans ((HC16.out.trans b17).mono wl)⟩
    
end Go.Proofs.Ythbimjkcpmffcaa
