/- The walk of PqCodes. -/
import Derived.Test.YthbimjkcpmffcaaGreatZ0
import Derived.Test.YthbimjkcpmffcaaGreatY2
import Derived.Test.YthbimjkcpmffcaaGreatY3
import Derived.Test.YthbimjkcpmffcaaGreatB8
import Derived.Test.YthbimjkcpmffcaaGreatRu
namespace Go.Proofs.YthbimjkcpmffcaaGreat
open Go.RowKit
set_option linter.unusedVariables false
/-- How long a code by a book is, and how great its tables. -/
theorem encA_len {P : Int} {ps : List (List (List Int))} {v : List Int} : (encA P ps v).length ≤ 64 := by
  unfold encA
  cases h : bookB P ps v.length with
  | false => simp
  | true => rw [if_pos rfl, encL_len]; have := (bookB_yes h).2; have := this.2.2.2.1; have := (bookB_yes h).2.2.1; omega
theorem tabA_len {P : Int} {ps : List (List (List Int))} {v : List Int} : (tabA P ps v).length ≤ 64 ∧ ∀ u ∈ tabA P ps v, u.length ≤ 64 := by
  unfold tabA
  cases h : bookB P ps v.length with
  | false => simp
  | true =>
    have hb := (bookB_yes h).2
    rw [if_pos rfl]
    refine ⟨by rw [tabL_len]; have := hb.2.2.2.1; have := hb.2.1; omega, fun u hu => ?_⟩
    unfold tabL at hu
    obtain ⟨p, hp, rfl⟩ := List.mem_map.1 hu
    rw [List.length_map]
    exact (hb.2.2.2.2 p (List.mem_range.1 hp)).2.1
set_option maxRecDepth 100000 in
set_option maxHeartbeats 4000000 in
theorem pqCodes_main (hC : PqCheckSpec) (hE : PqEncodeSpec) (hT : PqTableSpec) (P : Int) (A : Option Addr) (c : Nat) (L : List Pc) (B : Option Addr) (d : Nat) (v : List Int) (D : Int) (w : World) (hx : PGiven w A L) (hv : GivenV w B d v) :
    Calls Tryz.prog 3 #[.agg #[.int .i64 P, .slice A L.length c], .slice B v.length d, .int .i64 D] w fun e w' => e = .returned (.bool true) ∧ Below w.heap.size w w' := by
  have HC := Lib.hid hC
  have HE := Lib.hid hE
  have HT := Lib.hid hT
  have hb0 : Below w.heap.size w (w.alloc (.cells #[.int .i64 P, .slice A L.length c] 24)) := below_one (Below.refl _ _) _
  have HX0 := Lib.hid (hx.below hb0)
  have HV0 := Lib.hid (hv.below hb0)
  have C0 := Lib.hid hb0
  have BX0 := Lib.hid (show Whole (w.alloc (.cells #[.int .i64 P, .slice A L.length c] 24)) w.heap.size 24 #[.int .i64 P, .slice A L.length c] from Whole.new w 24 _)
  clear hC hE hT hx hv hb0
  go_enter Tryz.func3, Tryz.ntmps3
  go_wp2_with fail
  obtain ⟨w0, ew0⟩ : ∃ w0, w.alloc (.cells #[.int .i64 P, .slice A L.length c] 24) = w0 := ⟨_, rfl⟩
  rw [ew0] at HX0 HV0 C0 BX0 ⊢
  obtain ⟨g, eg⟩ : ∃ g, w.heap.size = g := ⟨_, rfl⟩
  rw [eg] at BX0 ⊢
  clear ew0 eg
  refine (psize_any P A c L w0 HX0.out).mono ?_
  rintro e w1 ⟨⟨z, rfl, hz⟩, b⟩
  have HX1 := Lib.hid (HX0.out.below b)
  have HV1 := Lib.hid (HV0.out.below b)
  have BX1 := Lib.hid (BX0.out.below b BX0.out.lt)
  have C1 := Lib.hid (C0.out.trans (b.mono C0.out.size))
  clear HX0 HV0 BX0 C0 b
  have k0 : w1.cell? ⟨g, 0, none⟩ = some (.int .i64 P) := BX1.out.cell 0
  have k1 : w1.cell? ⟨g, 1, none⟩ = some (.slice A L.length c) := BX1.out.cell 1
  dsimp only
  by_cases hzl : 20000 < z
  · have e1 : decide ((20000 : Int) < z) = true := decide_eq_true hzl
    go_wp2
    go_ret
    exact ⟨rfl, C1.out⟩
  have e1 : decide ((20000 : Int) < z) = false := decide_eq_false hzl
  have HSM := Lib.hid (show PSmall L by rcases hz.2 with h | h <;> unfold PSmall <;> omega)
  clear hz hzl
  go_wp2_with fail
  refine (beyond_one v.length (by have := HV1.out.len; omega) w1).mono ?_
  rintro e w2 ⟨rfl, rfl⟩
  have b : Below w1.heap.size w1 (w1.alloc (.cells #[.int .i64 (v.length : Int)] 3)) := below_one (Below.refl _ _) _
  obtain ⟨w2, ew2⟩ : ∃ w2, w1.alloc (.cells #[.int .i64 (v.length : Int)] 3) = w2 := ⟨_, rfl⟩
  rw [ew2] at b ⊢
  clear ew2 k0 k1 e1
  have HX2 := Lib.hid (HX1.out.below b)
  have HV2 := Lib.hid (HV1.out.below b)
  have BX2 := Lib.hid (BX1.out.below b BX1.out.lt)
  have C2 := Lib.hid (C1.out.trans (b.mono C1.out.size))
  clear HX1 HV1 BX1 C1 b
  have k0 : w2.cell? ⟨g, 0, none⟩ = some (.int .i64 P) := BX2.out.cell 0
  have k1 : w2.cell? ⟨g, 1, none⟩ = some (.slice A L.length c) := BX2.out.cell 1
  dsimp only
  cases hbe : bey [(v.length : Int)] with
  | true =>
    go_wp2
    go_ret
    exact ⟨rfl, C2.out⟩
  | false =>
    have HBE := Lib.hid (bey_one hbe)
    clear hbe
    have CW2 := Lib.hid C2.out
    go_wp2_with fail
    refine (twinWords_any P A c L w2 HX2.out HSM.out).mono ?_
    rintro e w3 ⟨t, T, rfl, ht, hT, hTv, hTl, b⟩
    clear k0 k1
    have HX3 := Lib.hid (HX2.out.below b)
    have HV3 := Lib.hid (HV2.out.below b)
    have BX3 := Lib.hid (BX2.out.below b BX2.out.lt)
    have C3 := Lib.hid (C2.out.trans (b.mono C2.out.size))
    clear HX2 HV2 BX2 C2 b
    have k0 : w3.cell? ⟨g, 0, none⟩ = some (.int .i64 P) := BX3.out.cell 0
    have k1 : w3.cell? ⟨g, 1, none⟩ = some (.slice A L.length c) := BX3.out.cell 1
    obtain ⟨lo, elo⟩ : ∃ lo, w2.heap.size = lo := ⟨_, rfl⟩
    rw [elo] at ht hT
    have HLO := Lib.hid elo
    have HTV := Lib.hid hTv
    have HTL := Lib.hid hTl
    have HIP := Lib.hid (hT.inP ht (Nat.le_refl lo) (by rw [hTv]; exact HSM.out))
    have HT3L := Lib.hid (show t < w3.heap.size from hT.row.lt)
    have HT3 := Lib.hid hT
    have HLT := Lib.hid ht
    clear elo ht hT hTv hTl
    dsimp only
    go_wp2_with fail
    have b : Below w3.heap.size w3 (w3.alloc (.cells #[.int .i64 P, .slice (some ⟨t, 0, none⟩) L.length (L.length + 2)] 24)) := below_one (Below.refl _ _) _
    have BY4 := Lib.hid (show Whole (w3.alloc (.cells #[.int .i64 P, .slice (some ⟨t, 0, none⟩) L.length (L.length + 2)] 24)) w3.heap.size 24 #[.int .i64 P, .slice (some ⟨t, 0, none⟩) L.length (L.length + 2)] from Whole.new w3 24 _)
    obtain ⟨w4, ew4⟩ : ∃ w4, w3.alloc (.cells #[.int .i64 P, .slice (some ⟨t, 0, none⟩) L.length (L.length + 2)] 24) = w4 := ⟨_, rfl⟩
    have hw34 : w4.heap.size = w3.heap.size + 1 := by rw [← ew4]; simp
    rw [ew4] at b BY4 ⊢
    obtain ⟨h, eh⟩ : ∃ h, w3.heap.size = h := ⟨_, rfl⟩
    have HS34 := Lib.hid hw34
    rw [eh] at BY4 ⊢
    have HEH := Lib.hid eh
    clear ew4 k0 k1 eh hw34
    have B3 := Lib.hid b
    have HX4 := Lib.hid (HX3.out.below b)
    have HV4 := Lib.hid (HV3.out.below b)
    have BX4 := Lib.hid (BX3.out.below b BX3.out.lt)
    have HT4 := Lib.hid (HT3.out.below b)
    have C4 := Lib.hid (C3.out.trans (b.mono C3.out.size))
    clear HX3 HV3 BX3 HT3 C3 b
    have k0 : w4.cell? ⟨g, 0, none⟩ = some (.int .i64 P) := BX4.out.cell 0
    have k1 : w4.cell? ⟨g, 1, none⟩ = some (.slice A L.length c) := BX4.out.cell 1
    have B34 := Lib.hid (show Below w3.heap.size w3 w4 from B3.out)
    have y0 : w4.cell? ⟨h, 0, none⟩ = some (.int .i64 P) := BY4.out.cell 0
    have y1 : w4.cell? ⟨h, 1, none⟩ = some (.slice (some ⟨t, 0, none⟩) L.length (L.length + 2)) := BY4.out.cell 1
    refine (twinInt8s_any B d v _ rfl w4 HV4.out.rd (by have := HBE.out; omega)).mono ?_
    rintro e w5 ⟨rfl, b, o⟩
    have HM5 := Lib.hid (show MarkRow w5 w4.heap.size w4.heap.size .i8 74 v from o)
    clear o k0 k1 y0 y1
    have B35 := Lib.hid (B34.out.trans (b.mono B34.out.size))
    have HX5 := Lib.hid (HX4.out.below b)
    have HV5 := Lib.hid (HV4.out.below b)
    have BX5 := Lib.hid (BX4.out.below b BX4.out.lt)
    have HT5 := Lib.hid (HT4.out.below b)
    have BY5 := Lib.hid (BY4.out.below b BY4.out.lt)
    have C5 := Lib.hid (C4.out.trans (b.mono C4.out.size))
    clear HX4 HV4 BX4 HT4 BY4 C4 b
    have k0 : w5.cell? ⟨g, 0, none⟩ = some (.int .i64 P) := BX5.out.cell 0
    have k1 : w5.cell? ⟨g, 1, none⟩ = some (.slice A L.length c) := BX5.out.cell 1
    have y0 : w5.cell? ⟨h, 0, none⟩ = some (.int .i64 P) := BY5.out.cell 0
    have y1 : w5.cell? ⟨h, 1, none⟩ = some (.slice (some ⟨t, 0, none⟩) L.length (L.length + 2)) := BY5.out.cell 1
    obtain ⟨m, em⟩ : ∃ m, w4.heap.size = m := ⟨_, rfl⟩
    rw [em] at HM5 HS34 ⊢
    have HM5L := Lib.hid (show m < w5.heap.size from (HM5.out.own.lt m rfl).2)
    have HMM := Lib.hid em
    clear em
    dsimp only
    have hpt := Lib.hid (fun W (hb : Below w5.heap.size w5 W) => (show PArg W (some ⟨t, 0, none⟩) T from ⟨(HT5.out.below hb).rd, by unfold PSmall; rw [HTV.out]; exact HSM.out, by rw [HTV.out]; exact (HX5.out).b8⟩))
    have hnt := Lib.hid (fun W (hb : Below w5.heap.size w5 W) => (show NArg W (some ⟨m, 0, none⟩) v from ⟨unmark_rd (HM5.out.below hb).rd, HBE.out, HV5.out.b8⟩))
    have CE := Lib.hid (fun W (hb : Below w5.heap.size w5 W) => (by
      have q := HE.out P (some ⟨t, 0, none⟩) (L.length + 2) T (some ⟨m, 0, none⟩) (v.length + 1) v W (hpt.out W hb) (hnt.out W hb) (Nat.le_succ _)
      rw [HTV.out, HTL.out] at q
      exact q : Calls Tryz.prog 9 #[.agg #[.int .i64 P, .slice (some ⟨t, 0, none⟩) L.length (L.length + 2)], .slice (some ⟨m, 0, none⟩) v.length (v.length + 1)] W (NAns W .u8 5 (encA P (words L) v) (errE (bookB P (words L) v.length)))))
    have CT := Lib.hid (fun W (hb : Below w5.heap.size w5 W) => (by
      have q := HT.out P (some ⟨t, 0, none⟩) (L.length + 2) T (some ⟨m, 0, none⟩) (v.length + 1) v W (hpt.out W hb) (hnt.out W hb) (Nat.le_succ _)
      rw [HTV.out, HTL.out] at q
      exact q : Calls Tryz.prog 10 #[.agg #[.int .i64 P, .slice (some ⟨t, 0, none⟩) L.length (L.length + 2)], .slice (some ⟨m, 0, none⟩) v.length (v.length + 1)] W (TAns W (tabA P (words L) v) (errE (bookB P (words L) v.length)))))
    have CC := Lib.hid (fun W (hb : Below w5.heap.size w5 W) => (by
      have q := HC.out P (some ⟨t, 0, none⟩) (L.length + 2) T D W (hpt.out W hb)
      rw [HTV.out, HTL.out] at q
      exact q : Calls Tryz.prog 15 #[.agg #[.int .i64 P, .slice (some ⟨t, 0, none⟩) L.length (L.length + 2)], .int .i64 D] W fun e w' => e = .returned (.bool (bookB P (words L) D)) ∧ Below W.heap.size W w'))
    clear hpt hnt HC HE HT
    have B55 := Lib.hid (Below.refl w5.heap.size w5)
    have RE := fun W (hx : PGiven W A L) (hv : GivenV W B d v) => rEncode_any P A c L B d v W (hx.arg HSM.out) (hv.arg HBE.out) hv.room.1
    have RT := fun W (hx : PGiven W A L) (hv : GivenV W B d v) => rTable_any P A c L B d v W (hx.arg HSM.out) (hv.arg HBE.out) hv.room.1
    have RC := Lib.hid (fun W (hx : PGiven W A L) => rCheck_any P A c L D W (hx.arg HSM.out))
    have hX64 := encA_len (P := P) (ps := words L) (v := v)
    have hZ64 := tabA_len (P := P) (ps := words L) (v := v)
    obtain ⟨X, eX⟩ : ∃ X, encA P (words L) v = X := ⟨_, rfl⟩
    obtain ⟨Z, eZ⟩ : ∃ Z, tabA P (words L) v = Z := ⟨_, rfl⟩
    obtain ⟨E, eE⟩ : ∃ E, errE (bookB P (words L) v.length) = E := ⟨_, rfl⟩
    simp only [eX, eE] at CE RE
    simp only [eZ, eE] at CT RT
    rw [eX] at hX64
    rw [eZ] at hZ64
    have HRE := Lib.hid RE
    have HRT := Lib.hid RT
    have HZ := Lib.hid hZ64
    clear RE RT eX eE eZ hZ64
    go_wp2_with fail
    refine (CE.out w5 B55.out).mono ?_
    rintro e w6 ⟨A6, c6, rfl, o6, b⟩
    clear k0 k1 y0 y1
    have HSZ6 := Lib.hid b.size
    have B56 := Lib.hid (B55.out.trans (b.mono B55.out.size))
    have B36 := Lib.hid (B35.out.trans (b.mono B35.out.size))
    have HX6 := Lib.hid (HX5.out.below b)
    have HV6 := Lib.hid (HV5.out.below b)
    have BX6 := Lib.hid (BX5.out.below b BX5.out.lt)
    have HT6 := Lib.hid (HT5.out.below b)
    have BY6 := Lib.hid (BY5.out.below b BY5.out.lt)
    have HM6 := Lib.hid (HM5.out.below b)
    have C6 := Lib.hid (C5.out.trans (b.mono C5.out.size))
    clear HX5 HV5 BX5 HT5 BY5 HM5 C5 b
    have k0 : w6.cell? ⟨g, 0, none⟩ = some (.int .i64 P) := BX6.out.cell 0
    have k1 : w6.cell? ⟨g, 1, none⟩ = some (.slice A L.length c) := BX6.out.cell 1
    have y0 : w6.cell? ⟨h, 0, none⟩ = some (.int .i64 P) := BY6.out.cell 0
    have y1 : w6.cell? ⟨h, 1, none⟩ = some (.slice (some ⟨t, 0, none⟩) L.length (L.length + 2)) := BY6.out.cell 1
    have OX_6 := Lib.hid o6
    have HR6 := Lib.hid (fun g hg => o6.lt g hg)
    clear o6
    dsimp only
    go_wp2_with fail
    refine (CT.out w6 B56.out).mono ?_
    rintro e w7 ⟨A7, c7, T7, rfl, o7, p7, v7, b⟩
    clear k0 k1 y0 y1
    have HSZ7 := Lib.hid b.size
    have B57 := Lib.hid (B56.out.trans (b.mono B56.out.size))
    have B37 := Lib.hid (B36.out.trans (b.mono B36.out.size))
    have OX_7 := Lib.hid (own_below OX_6.out b)
    clear OX_6
    have HX7 := Lib.hid (HX6.out.below b)
    have HV7 := Lib.hid (HV6.out.below b)
    have BX7 := Lib.hid (BX6.out.below b BX6.out.lt)
    have HT7 := Lib.hid (HT6.out.below b)
    have BY7 := Lib.hid (BY6.out.below b BY6.out.lt)
    have HM7 := Lib.hid (HM6.out.below b)
    have C7 := Lib.hid (C6.out.trans (b.mono C6.out.size))
    clear HX6 HV6 BX6 HT6 BY6 HM6 C6 b
    have k0 : w7.cell? ⟨g, 0, none⟩ = some (.int .i64 P) := BX7.out.cell 0
    have k1 : w7.cell? ⟨g, 1, none⟩ = some (.slice A L.length c) := BX7.out.cell 1
    have y0 : w7.cell? ⟨h, 0, none⟩ = some (.int .i64 P) := BY7.out.cell 0
    have y1 : w7.cell? ⟨h, 1, none⟩ = some (.slice (some ⟨t, 0, none⟩) L.length (L.length + 2)) := BY7.out.cell 1
    have HV7T := Lib.hid v7
    have IY_7 := Lib.hid (o7.inQ (base := lo) (by have h1 := HLT.out; have h2 := HT3L.out; have h3 := B35.out.size; have h4 := HSZ6.out; omega) p7 (by rw [v7]; exact HZ.out.2))
    have TY_7 := Lib.hid o7
    have HT7L := Lib.hid (show T7.length ≤ 64 by rw [← vecs_len, v7]; exact HZ.out.1)
    clear o7 p7 v7
    dsimp only
    go_wp2_with fail
    refine (CT.out w7 B57.out).mono ?_
    rintro e w8 ⟨A8, c8, T8, rfl, o8, p8, v8, b⟩
    clear k0 k1 y0 y1
    have HSZ8 := Lib.hid b.size
    have B58 := Lib.hid (B57.out.trans (b.mono B57.out.size))
    have B38 := Lib.hid (B37.out.trans (b.mono B37.out.size))
    have OX_8 := Lib.hid (own_below OX_7.out b)
    have IY_8 := Lib.hid (IY_7.out.below b)
    have TY_8 := Lib.hid (TY_7.out.below b)
    clear OX_7 IY_7 TY_7
    have HX8 := Lib.hid (HX7.out.below b)
    have HV8 := Lib.hid (HV7.out.below b)
    have BX8 := Lib.hid (BX7.out.below b BX7.out.lt)
    have HT8 := Lib.hid (HT7.out.below b)
    have BY8 := Lib.hid (BY7.out.below b BY7.out.lt)
    have HM8 := Lib.hid (HM7.out.below b)
    have C8 := Lib.hid (C7.out.trans (b.mono C7.out.size))
    clear HX7 HV7 BX7 HT7 BY7 HM7 C7 b
    have k0 : w8.cell? ⟨g, 0, none⟩ = some (.int .i64 P) := BX8.out.cell 0
    have k1 : w8.cell? ⟨g, 1, none⟩ = some (.slice A L.length c) := BX8.out.cell 1
    have y0 : w8.cell? ⟨h, 0, none⟩ = some (.int .i64 P) := BY8.out.cell 0
    have y1 : w8.cell? ⟨h, 1, none⟩ = some (.slice (some ⟨t, 0, none⟩) L.length (L.length + 2)) := BY8.out.cell 1
    have IZ_8 := Lib.hid (o8.inQ (base := lo) (by have h1 := HLT.out; have h2 := HT3L.out; have h3 := B35.out.size; have h4 := HSZ6.out; have h5 := HSZ7.out; omega) p8 (by rw [v8]; exact HZ.out.2))
    have HT8L := Lib.hid (show T8.length ≤ 64 by rw [← vecs_len, v8]; exact HZ.out.1)
    clear o8 p8 v8
    dsimp only
    go_wp2_with fail
    refine (HRE.out w8 HX8.out HV8.out).mono ?_
    rintro e w9 ⟨A9, c9, rfl, o9, b⟩
    clear k0 k1 y0 y1
    have B59 := Lib.hid (B58.out.trans (b.mono B58.out.size))
    have B39 := Lib.hid (B38.out.trans (b.mono B38.out.size))
    have OX_9 := Lib.hid (own_below OX_8.out b)
    have IY_9 := Lib.hid (IY_8.out.below b)
    have TY_9 := Lib.hid (TY_8.out.below b)
    have IZ_9 := Lib.hid (IZ_8.out.below b)
    clear OX_8 IY_8 TY_8 IZ_8
    have HX9 := Lib.hid (HX8.out.below b)
    have HV9 := Lib.hid (HV8.out.below b)
    have BX9 := Lib.hid (BX8.out.below b BX8.out.lt)
    have HT9 := Lib.hid (HT8.out.below b)
    have BY9 := Lib.hid (BY8.out.below b BY8.out.lt)
    have HM9 := Lib.hid (HM8.out.below b)
    have C9 := Lib.hid (C8.out.trans (b.mono C8.out.size))
    clear HX8 HV8 BX8 HT8 BY8 HM8 C8 b
    have k0 : w9.cell? ⟨g, 0, none⟩ = some (.int .i64 P) := BX9.out.cell 0
    have k1 : w9.cell? ⟨g, 1, none⟩ = some (.slice A L.length c) := BX9.out.cell 1
    have y0 : w9.cell? ⟨h, 0, none⟩ = some (.int .i64 P) := BY9.out.cell 0
    have y1 : w9.cell? ⟨h, 1, none⟩ = some (.slice (some ⟨t, 0, none⟩) L.length (L.length + 2)) := BY9.out.cell 1
    have OW_9 := Lib.hid o9
    clear o9
    dsimp only
    go_wp2_with fail
    refine (HRT.out w9 HX9.out HV9.out).mono ?_
    rintro e w10 ⟨A10, c10, T10, rfl, o10, v10, b⟩
    clear k0 k1 y0 y1
    have B510 := Lib.hid (B59.out.trans (b.mono B59.out.size))
    have B310 := Lib.hid (B39.out.trans (b.mono B39.out.size))
    have OX_10 := Lib.hid (own_below OX_9.out b)
    have IY_10 := Lib.hid (IY_9.out.below b)
    have TY_10 := Lib.hid (TY_9.out.below b)
    have IZ_10 := Lib.hid (IZ_9.out.below b)
    have OW_10 := Lib.hid (own_below OW_9.out b)
    clear OX_9 IY_9 TY_9 IZ_9 OW_9
    have HX10 := Lib.hid (HX9.out.below b)
    have HV10 := Lib.hid (HV9.out.below b)
    have BX10 := Lib.hid (BX9.out.below b BX9.out.lt)
    have HT10 := Lib.hid (HT9.out.below b)
    have BY10 := Lib.hid (BY9.out.below b BY9.out.lt)
    have HM10 := Lib.hid (HM9.out.below b)
    have C10 := Lib.hid (C9.out.trans (b.mono C9.out.size))
    clear HX9 HV9 BX9 HT9 BY9 HM9 C9 b
    have k0 : w10.cell? ⟨g, 0, none⟩ = some (.int .i64 P) := BX10.out.cell 0
    have k1 : w10.cell? ⟨g, 1, none⟩ = some (.slice A L.length c) := BX10.out.cell 1
    have y0 : w10.cell? ⟨h, 0, none⟩ = some (.int .i64 P) := BY10.out.cell 0
    have y1 : w10.cell? ⟨h, 1, none⟩ = some (.slice (some ⟨t, 0, none⟩) L.length (L.length + 2)) := BY10.out.cell 1
    have HV10T := Lib.hid v10
    have TW_10 := Lib.hid o10
    have HT10L := Lib.hid (show T10.length ≤ 64 by rw [← vecs_len, v10]; exact HZ.out.1)
    clear o10 v10
    dsimp only
    go_wp2_with fail
    clear k0 k1 y0 y1
    have e9 : eqB X X = true := decide_eq_true rfl
    have ee : (E != E) = false := by simp
    have HCL : Hid (∀ W, Below w10.heap.size w10 W → W.cell? ⟨g, 0, none⟩ = some (.int .i64 P) ∧ W.cell? ⟨g, 1, none⟩ = some (.slice A L.length c) ∧ W.cell? ⟨h, 0, none⟩ = some (.int .i64 P) ∧ W.cell? ⟨h, 1, none⟩ = some (.slice (some ⟨t, 0, none⟩) L.length (L.length + 2)) ∧ Below w10.heap.size w10 W) := Lib.hid (fun W hb => ⟨(BX10.out.below hb BX10.out.lt).cell 0, (BX10.out.below hb BX10.out.lt).cell 1, (BY10.out.below hb BY10.out.lt).cell 0, (BY10.out.below hb BY10.out.lt).cell 1, hb⟩)
    have K1 := Lib.hid (fun W (hb : Below w10.heap.size w10 W) => ((sameB_any A6 A9 c6 c9 X X W w10.heap.size ((own_cap OX_10.out).2.2.below hb) ((own_cap OW_10.out).2.2.below hb) (by omega) (by omega)).mono fun e w' qq => (by
      obtain ⟨h1, nq, rfl⟩ := qq
      exact ⟨by rw [h1, e9], HCL.out _ (below_drewN hb nq)⟩ : e = .returned (.bool true) ∧ w'.cell? ⟨g, 0, none⟩ = some (.int .i64 P) ∧ w'.cell? ⟨g, 1, none⟩ = some (.slice A L.length c) ∧ w'.cell? ⟨h, 0, none⟩ = some (.int .i64 P) ∧ w'.cell? ⟨h, 1, none⟩ = some (.slice (some ⟨t, 0, none⟩) L.length (L.length + 2)) ∧ Below w10.heap.size w10 w')))
    have K2 := Lib.hid (fun W (hb : Below w10.heap.size w10 W) => ((sameTabs_any A7 c7 T7 _ rfl A10 c10 T10 _ rfl W w10.heap.size (TY_10.out.rd.below hb) (TW_10.out.rd.below hb) (by have := HT7L.out; omega) (by have := HT10L.out; omega) (fun u hu => by rw [HV7T.out] at hu; have := HZ.out.2 u hu; omega) (fun u hu => by rw [HV10T.out] at hu; have := HZ.out.2 u hu; omega)).mono fun e w' qq => (by
      obtain ⟨h1, nq, rfl⟩ := qq
      exact ⟨by rw [h1, decide_eq_true (HV7T.out.trans HV10T.out.symm)], HCL.out _ (below_drewN hb nq)⟩ : e = .returned (.bool true) ∧ w'.cell? ⟨g, 0, none⟩ = some (.int .i64 P) ∧ w'.cell? ⟨g, 1, none⟩ = some (.slice A L.length c) ∧ w'.cell? ⟨h, 0, none⟩ = some (.int .i64 P) ∧ w'.cell? ⟨h, 1, none⟩ = some (.slice (some ⟨t, 0, none⟩) L.length (L.length + 2)) ∧ Below w10.heap.size w10 w')))
    have K3 := Lib.hid (fun W (hb : Below w10.heap.size w10 W) => ((CC.out W (B510.out.trans (hb.mono B510.out.size))).mono fun e w' qq => (by
      exact ⟨qq.1, HCL.out _ (hb.trans (qq.2.mono hb.size))⟩ : e = .returned (.bool (bookB P (words L) D)) ∧ w'.cell? ⟨g, 0, none⟩ = some (.int .i64 P) ∧ w'.cell? ⟨g, 1, none⟩ = some (.slice A L.length c) ∧ w'.cell? ⟨h, 0, none⟩ = some (.int .i64 P) ∧ w'.cell? ⟨h, 1, none⟩ = some (.slice (some ⟨t, 0, none⟩) L.length (L.length + 2)) ∧ Below w10.heap.size w10 w')))
    have K4 := Lib.hid (fun W (hb : Below w10.heap.size w10 W) => ((RC.out W (HX10.out.below hb)).mono fun e w' qq => (by
      exact ⟨qq.1, HCL.out _ (hb.trans (qq.2.mono hb.size))⟩ : e = .returned (.bool (bookB P (words L) D)) ∧ w'.cell? ⟨g, 0, none⟩ = some (.int .i64 P) ∧ w'.cell? ⟨g, 1, none⟩ = some (.slice A L.length c) ∧ w'.cell? ⟨h, 0, none⟩ = some (.int .i64 P) ∧ w'.cell? ⟨h, 1, none⟩ = some (.slice (some ⟨t, 0, none⟩) L.length (L.length + 2)) ∧ Below w10.heap.size w10 w')))
    have K5 := Lib.hid (fun W (hb : Below w10.heap.size w10 W) => ((leftWords_any P t lo T A c L _ rfl W (HT10.out.below hb) HTV.out HTL.out (HX10.out.below hb) HSM.out).mono fun e w' qq => (by
      exact ⟨qq.1, HCL.out _ (hb.trans (qq.2.mono hb.size))⟩ : e = .returned (.bool true) ∧ w'.cell? ⟨g, 0, none⟩ = some (.int .i64 P) ∧ w'.cell? ⟨g, 1, none⟩ = some (.slice A L.length c) ∧ w'.cell? ⟨h, 0, none⟩ = some (.int .i64 P) ∧ w'.cell? ⟨h, 1, none⟩ = some (.slice (some ⟨t, 0, none⟩) L.length (L.length + 2)) ∧ Below w10.heap.size w10 w')))
    have K6 := Lib.hid (fun W (hb : Below w10.heap.size w10 W) => ((leftInt8s_any (some ⟨m, 0, none⟩) B (v.length + 1) d v _ rfl W W.heap.size (HV10.out.below hb).rd (HM10.out.below hb).rd HV10.out.room.1 (by omega) ⟨HV10.out.room.2, by have := HBE.out; omega⟩ (by have := HBE.out; omega)).mono fun e w' qq => (by
      obtain ⟨h1, nq, rfl⟩ := qq
      exact ⟨h1, HCL.out _ (below_drewN hb nq)⟩ : e = .returned (.bool true) ∧ w'.cell? ⟨g, 0, none⟩ = some (.int .i64 P) ∧ w'.cell? ⟨g, 1, none⟩ = some (.slice A L.length c) ∧ w'.cell? ⟨h, 0, none⟩ = some (.int .i64 P) ∧ w'.cell? ⟨h, 1, none⟩ = some (.slice (some ⟨t, 0, none⟩) L.length (L.length + 2)) ∧ Below w10.heap.size w10 w')))
    obtain ⟨bt, ebt⟩ : ∃ bt, bookB P (words L) D = bt := ⟨_, rfl⟩
    rw [ebt] at K3 K4
    clear ebt e9
    have eb : (bt != bt) = false := by simp
    obtain ⟨k0, k1, y0, y1, yb⟩ := HCL.out w10.drew (Below.refl _ _).drew
    go_region_held3 (fun w' => w'.cell? ⟨g, 0, none⟩ = some (.int .i64 P) ∧ w'.cell? ⟨g, 1, none⟩ = some (.slice A L.length c) ∧ w'.cell? ⟨h, 0, none⟩ = some (.int .i64 P) ∧ w'.cell? ⟨h, 1, none⟩ = some (.slice (some ⟨t, 0, none⟩) L.length (L.length + 2)) ∧ Below w10.heap.size w10 w')
      (first | exact ⟨by with_reducible assumption, by with_reducible assumption, by with_reducible assumption, by with_reducible assumption, by with_reducible assumption⟩)
      (first
        | (go_at_call 13; (with_reducible refine (K1.out _ (by with_reducible assumption)).mono ?_); rintro e wa ⟨rfl, ka0, ka1, ka2, ka3, kab⟩)
        | (go_at_call 14; (with_reducible refine (K2.out _ (by with_reducible assumption)).mono ?_); rintro e wb ⟨rfl, kb0, kb1, kb2, kb3, kbb⟩)
        | (go_at_call 15; (with_reducible refine (K3.out _ (by with_reducible assumption)).mono ?_); rintro e wc ⟨rfl, kc0, kc1, kc2, kc3, kcb⟩)
        | (go_at_call 16; (with_reducible refine (K4.out _ (by with_reducible assumption)).mono ?_); rintro e wd ⟨rfl, kd0, kd1, kd2, kd3, kdb⟩)
        | (go_at_call 17; (with_reducible refine (K5.out _ (by with_reducible assumption)).mono ?_); rintro e we ⟨rfl, ke0, ke1, ke2, ke3, keb⟩)
        | (go_at_call 18; (with_reducible refine (K6.out _ (by with_reducible assumption)).mono ?_); rintro e w11 ⟨rfl, kf0, kf1, kf2, kf3, b⟩)
        | fail)
    clear ka0 ka1 ka2 ka3 kab kb0 kb1 kb2 kb3 kbb kc0 kc1 kc2 kc3 kcb kd0 kd1 kd2 kd3 kdb ke0 ke1 ke2 ke3 keb kf0 kf1 kf2 kf3 k0 k1 y0 y1 yb K1 K2 K3 K4 K5 K6 HCL
    have B511 := Lib.hid (B510.out.trans (b.mono B510.out.size))
    have B311 := Lib.hid (B310.out.trans (b.mono B310.out.size))
    have OX_11 := Lib.hid (own_below OX_10.out b)
    have IY_11 := Lib.hid (IY_10.out.below b)
    have TY_11 := Lib.hid (TY_10.out.below b)
    have IZ_11 := Lib.hid (IZ_10.out.below b)
    have TW_11 := Lib.hid (TW_10.out.below b)
    clear OX_10 IY_10 TY_10 IZ_10 TW_10
    have HX11 := Lib.hid (HX10.out.below b)
    have HV11 := Lib.hid (HV10.out.below b)
    have BX11 := Lib.hid (BX10.out.below b BX10.out.lt)
    have HT11 := Lib.hid (HT10.out.below b)
    have BY11 := Lib.hid (BY10.out.below b BY10.out.lt)
    have HM11 := Lib.hid (HM10.out.below b)
    have C11 := Lib.hid (C10.out.trans (b.mono C10.out.size))
    clear HX10 HV10 BX10 HT10 BY10 HM10 C10 b
    have k0 : w11.cell? ⟨g, 0, none⟩ = some (.int .i64 P) := BX11.out.cell 0
    have k1 : w11.cell? ⟨g, 1, none⟩ = some (.slice A L.length c) := BX11.out.cell 1
    have y0 : w11.cell? ⟨h, 0, none⟩ = some (.int .i64 P) := BY11.out.cell 0
    have y1 : w11.cell? ⟨h, 1, none⟩ = some (.slice (some ⟨t, 0, none⟩) L.length (L.length + 2)) := BY11.out.cell 1
    have B12 : Below w11.heap.size w11 (w11.alloc newBk) := below_one (Below.refl _ _) _
    have BYb := BY11.out.below B12 BY11.out.lt
    have yb0 : (w11.alloc (.cells #[.int .i64 0, .slice none 0 0, .slice none 0 0, .slice none 0 0, .slice none 0 0, .slice none 0 0, .slice none 0 0, .slice none 0 0, .slice none 0 0, .slice none 0 0, .slice none 0 0, .slice none 0 0, .slice none 0 0] 55)).cell? ⟨h, 0, none⟩ = some (.int .i64 P) := BYb.cell 0
    have yb1 : (w11.alloc (.cells #[.int .i64 0, .slice none 0 0, .slice none 0 0, .slice none 0 0, .slice none 0 0, .slice none 0 0, .slice none 0 0, .slice none 0 0, .slice none 0 0, .slice none 0 0, .slice none 0 0, .slice none 0 0, .slice none 0 0] 55)).cell? ⟨h, 1, none⟩ = some (.slice (some ⟨t, 0, none⟩) L.length (L.length + 2)) := BYb.cell 1
    have hlo : lo ≤ w11.heap.size := by
      have h1 := HLT.out
      have h2 := HT11.out.row.lt
      omega
    have hcn : cntP T ≤ 20000 := by have h1 := cntP_size T; have h2 := HSM.out; unfold PSmall at h2; rw [HTV.out] at h1; omega
    have hTl : T.length ≤ 20000 := by rw [HTL.out]; exact HSM.out.len
    have b311 : Below w3.heap.size w3 w11 := B311.out
    have W1 := bt_words (P := P) (bt_new w11 lo lo) ((HIP.out.below b311).below B12) (Nat.le_trans HLT.out (by have := HT3L.out; omega)) (by rw [World.size_alloc]; omega) hlo hTl (by omega) (by omega)
    rw [HTL.out] at W1
    have HWC := Lib.hid W1
    have HB12 := Lib.hid B12
    have HLW := Lib.hid hlo
    have HCN := Lib.hid hcn
    clear W1 B12 BYb hlo hTl b311 k0 k1 y0 y1 hcn
    go_wp2_with fail
    refine HWC.out.mono ?_
    rintro e w13 ⟨rfl, hB1, kq1⟩
    have szm : w3.heap.size = h := HEH.out
    have mh : m = h + 1 := by rw [HS34.out, szm]
    have m5 : m < w5.heap.size := HM5L.out
    have s13 : lo ≤ w13.heap.size := Nat.le_trans HLW.out (Nat.le_trans (by rw [World.size_alloc]; omega) kq1.below.size)
    have OM13 := kq1.r8 (own_below (own_base HM11.out.own (show lo ≤ m by have h1 := HLT.out; have h2 := HT3L.out; omega)) HB12.out)
    have OX13 := kq1.ru8 (own_below OX_11.out HB12.out)
    have IY13 := kq1.inT (IY_11.out.below HB12.out)
    have IZ13 := kq1.inT (IZ_11.out.below HB12.out)
    have lo5 : lo ≤ w5.heap.size := by have h1 := HLT.out; have h2 := HT3L.out; omega
    have C13 := kq1.below
    rw [szm] at hB1
    have W2 := bt_int8s (hi := m + 1) hB1 OM13 (fun b hb => by
      have : m = b := by simpa [Value.ownBlock] using hb
      omega) (by omega) s13 HLW.out (by have := HBE.out; omega) (by have := HCN.out; omega)
    have HW2 := Lib.hid W2
    have HOX := Lib.hid OX13
    have HIY := Lib.hid IY13
    have HIZ := Lib.hid IZ13
    have HC13 := Lib.hid C13
    have HM5L2 := HM5L.out
    clear W2 hB1 OM13 OX13 IY13 IZ13 C13 kq1 HWC mh szm m5
    dsimp only
    go_wp2_with fail
    refine HW2.out.mono ?_
    rintro e w14 ⟨rfl, hB2, kq2⟩
    have s14 : lo ≤ w14.heap.size := Nat.le_trans s13 kq2.below.size
    have OX14 := kq2.ru8 HOX.out
    have HIY14 := Lib.hid (kq2.inT HIY.out)
    have HIZ14 := Lib.hid (kq2.inT HIZ.out)
    have W3 := bt_bytes (hi := w6.heap.size) hB2 (own_base OX14 lo5) (fun b hb => by
      have h1 := (OX14.lt b hb).1
      have h2 := (HR6.out b hb).2
      omega) (by have := HSZ6.out; omega) s14 HLW.out (by omega) (by have := HCN.out; omega)
    have HW3 := Lib.hid W3
    have HC14 := Lib.hid (HC13.out.trans kq2.below)
    clear W3 hB2 OX14 kq2 HW2 HOX HIY HIZ HC13
    dsimp only
    go_wp2_with fail
    refine HW3.out.mono ?_
    rintro e w15 ⟨rfl, hB3, kq3⟩
    have s15 : lo ≤ w15.heap.size := Nat.le_trans s14 kq3.below.size
    have W4 := bt_tables hB3 (kq3.inT HIY14.out) HSZ7.out s15 HLW.out (by have := HT7L.out; omega) (by have := HCN.out; omega)
    have HIZ15 := Lib.hid (kq3.inT HIZ14.out)
    have HW4 := Lib.hid W4
    have HC15 := Lib.hid (HC14.out.trans kq3.below)
    clear W4 hB3 kq3 HW3 HIY14 HIZ14 HC14
    dsimp only
    go_wp2_with fail
    refine HW4.out.mono ?_
    rintro e w16 ⟨rfl, hB4, kq4⟩
    have s16 : lo ≤ w16.heap.size := Nat.le_trans s15 kq4.below.size
    have W5 := bt_tables hB4 (kq4.inT HIZ15.out) HSZ8.out s16 HLW.out (by have := HT8L.out; omega) (by have := HCN.out; have := HT7L.out; omega)
    have HW5 := Lib.hid W5
    have HC16 := Lib.hid (HC15.out.trans kq4.below)
    clear W5 hB4 kq4 HW4 HIZ15 HC15
    dsimp only
    go_wp2_with fail
    refine HW5.out.mono ?_
    rintro e w17 ⟨rfl, hB5, kq5⟩
    have s17 : lo ≤ w17.heap.size := Nat.le_trans s16 kq5.below.size
    have HAP := Lib.hid (bt_apart hB5 s17)
    have HC17 := Lib.hid (HC16.out.trans kq5.below)
    clear hB5 kq5 HW5 HC16
    dsimp only
    go_wp2_with fail
    refine HAP.out.mono ?_
    rintro e w18 ⟨rfl, b18⟩
    go_wp2
    go_ret
    have wl : w.heap.size ≤ lo := by rw [← HLO.out]; exact CW2.out.size
    exact ⟨rfl, (C11.out.trans (HB12.out.mono C11.out.size)).trans ((HC17.out.trans b18).mono wl)⟩
end Go.Proofs.YthbimjkcpmffcaaGreat
