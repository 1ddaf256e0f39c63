/- The walks of the document's begins, Check, dim (layer 8). -/
import Derived.Test.YthbimjkcpmffcaaPd
namespace Go.Proofs.Ythbimjkcpmffcaa
open Go.RowKit
set_option linter.unusedVariables false
theorem beg_val (p n d : Nat) (h1 : 1 ≤ n) (hp : p ≤ 64) (hd : d ≤ 64) : p * d ≤ 4096 ∧ beg p n d ≤ 4096 ∧ ((p : Int) * (d : Int)) / (n : Int) = ((beg p n d : Nat) : Int) := by
  have e1 : p * d ≤ 64 * 64 := Nat.mul_le_mul hp hd
  have e2 : beg p n d ≤ p * d := Nat.div_le_self _ _
  refine ⟨e1, by omega, ?_⟩
  unfold beg
  rw [← Int.natCast_mul]
  rfl
set_option maxHeartbeats 400000 in
theorem begins_any (p n d : Nat) (h1 : 1 ≤ n) (hn : n ≤ 64) (hp : p ≤ 64) (hd : d ≤ 64) (w : World) :
    Calls Try.prog 103 #[.int .i64 (p : Int), .int .i64 (n : Int), .int .i64 (d : Int)] w fun e w' => e = .returned (.int .i64 ((beg p n d : Nat) : Int)) ∧ w = w' := by
  obtain ⟨b1, b2, b3⟩ := beg_val p n d h1 hp hd
  obtain ⟨m, hm⟩ : ∃ m, p * d = m := ⟨_, rfl⟩
  have em : (p : Int) * (d : Int) = (m : Int) := by rw [← Int.natCast_mul, hm]
  rw [em] at b3
  rw [hm] at b1
  have HB := Lib.hid b3
  have n0 : ((n : Int) == 0) = false := by rw [beq_eq_false_iff_ne]; omega
  have wr1 : IntKind.i64.wrap ((p : Int) * (d : Int)) = (m : Int) := by rw [em, IntKind.wrap_i64]; omega
  clear b3 hm em
  go_enter Try.func103, Try.ntmps103
  go_wp2
  go_ret
  exact ⟨ret1 (by rw [HB.out]; unfold wrap64; omega), rfl⟩
theorem pAt0 {L : List Pc} {a : Option Addr} {c : Nat} {M : List Vc} (h : L[0]? = some (a, c, M)) : (pAt (words L) 0).length = M.length := by rw [words_pAt h, vecs_len]
/-- What the first p parts of a book keep. -/
def Upto (ps : List (List (List Int))) (d p : Nat) : Prop := ∀ q, q < p → 1 ≤ (pAt ps q).length ∧ (pAt ps q).length ≤ 64 ∧ (pAt ps q).length = (pAt ps 0).length ∧ ∀ w, w < (pAt ps q).length → (vAt (pAt ps q) w).length = beg (q + 1) ps.length d - beg q ps.length d
theorem book_bad {P : Int} {ps : List (List (List Int))} {d : Int} {p : Nat} (hp : p < ps.length) (h : ¬ (1 ≤ (pAt ps p).length ∧ (pAt ps p).length ≤ 64 ∧ (pAt ps p).length = (pAt ps 0).length)) : bookB P ps d = false :=
  bookB_no (fun ⟨_, _, k⟩ => h (by have := k.2.2.2.2 p hp; exact ⟨this.1, this.2.1, this.2.2.1⟩))
theorem book_bad2 {P : Int} {ps : List (List (List Int))} {d p w : Nat} (hp : p < ps.length) (hw : w < (pAt ps p).length) (h : (vAt (pAt ps p) w).length ≠ beg (p + 1) ps.length d - beg p ps.length d) : bookB P ps d = false :=
  bookB_no (fun ⟨_, _, k⟩ => h (by have := (k.2.2.2.2 p hp).2.2.2 w hw; rwa [Int.toNat_natCast] at this))
set_option maxRecDepth 100000 in
set_option maxHeartbeats 2000000 in
theorem rCheck_any (P : Int) (A : Option Addr) (c : Nat) (L : List Pc) (d : Int) (w : World) (hx : PArg w A L) :
    Calls Try.prog 40 #[.agg #[.int .i64 P, .slice A L.length c], .int .i64 d] w fun e w' => e = .returned (.bool (bookB P (words L) d)) ∧ Below w.heap.size w w' := by
  have W0 := Whole.new w 24 #[.int .i64 P, .slice A L.length c]
  have B0 : Below w.heap.size w (w.alloc (.cells #[.int .i64 P, .slice A L.length c] 24)) := below_one (Below.refl _ _) _
  have HX := Lib.hid (hx.below B0)
  have HB0 := Lib.hid B0
  have hlen := hx.sm.len
  have HL := Lib.hid (words_len L)
  have p0 : (w.alloc (.cells #[.int .i64 P, .slice A L.length c] 24)).cell? ⟨w.heap.size, 0, none⟩ = some (.int .i64 P) := W0.cell 0
  have p1 : (w.alloc (.cells #[.int .i64 P, .slice A L.length c] 24)).cell? ⟨w.heap.size, 1, none⟩ = some (.slice A L.length c) := W0.cell 1
  clear W0 B0 hx
  by_cases h0 : d < 1
  · have e0 : decide (d < 1) = true := decide_eq_true h0
    have E := Lib.hid (bookB_no (P := P) (ps := words L) (d := d) (fun ⟨k1, k2, k3⟩ => by obtain ⟨j1, j2, j3, j4, _⟩ := k3; rw [HL.out] at *; omega))
    clear h0
    go_enter Try.func40, Try.ntmps40
    go_wp2
    go_ret
    exact ⟨retb E.out.symm, HB0.out⟩
  have e0 : decide (d < 1) = false := decide_eq_false h0
  by_cases h1 : 64 < d
  · have e1 : decide (64 < d) = true := decide_eq_true h1
    have E := Lib.hid (bookB_no (P := P) (ps := words L) (d := d) (fun ⟨k1, k2, k3⟩ => by obtain ⟨j1, j2, j3, j4, _⟩ := k3; rw [HL.out] at *; omega))
    clear h0 h1
    go_enter Try.func40, Try.ntmps40
    go_wp2
    go_ret
    exact ⟨retb E.out.symm, HB0.out⟩
  have e1 : decide (64 < d) = false := decide_eq_false h1
  by_cases h2 : P < 1
  · have e2 : decide (P < 1) = true := decide_eq_true h2
    have E := Lib.hid (bookB_no (P := P) (ps := words L) (d := d) (fun ⟨k1, k2, k3⟩ => by obtain ⟨j1, j2, j3, j4, _⟩ := k3; rw [HL.out] at *; omega))
    clear h0 h1 h2
    go_enter Try.func40, Try.ntmps40
    go_wp2
    go_ret
    exact ⟨retb E.out.symm, HB0.out⟩
  have e2 : decide (P < 1) = false := decide_eq_false h2
  by_cases h3 : d < P
  · have e3 : decide (d < P) = true := decide_eq_true h3
    have E := Lib.hid (bookB_no (P := P) (ps := words L) (d := d) (fun ⟨k1, k2, k3⟩ => by obtain ⟨j1, j2, j3, j4, _⟩ := k3; rw [HL.out] at *; omega))
    clear h0 h1 h2 h3
    go_enter Try.func40, Try.ntmps40
    go_wp2
    go_ret
    exact ⟨retb E.out.symm, HB0.out⟩
  have e3 : decide (d < P) = false := decide_eq_false h3
  by_cases h4 : (L.length : Int) ≠ P
  · have e4 : ((L.length : Int) != P) = true := by simpa using h4
    have E := Lib.hid (bookB_no (P := P) (ps := words L) (d := d) (fun ⟨k1, k2, k3⟩ => by obtain ⟨j1, j2, j3, j4, _⟩ := k3; rw [HL.out] at *; omega))
    clear h0 h1 h2 h3 h4
    go_enter Try.func40, Try.ntmps40
    go_wp2
    go_ret
    exact ⟨retb E.out.symm, HB0.out⟩
  have e4 : ((L.length : Int) != P) = false := by simpa using h4
  obtain ⟨D, rfl⟩ := Int.eq_ofNat_of_zero_le (show 0 ≤ d by omega)
  have hP : P = (L.length : Int) := by omega
  subst hP
  have hd1 : 1 ≤ D := by omega
  have hd2 : D ≤ 64 := by omega
  have hn1 : 1 ≤ L.length := by omega
  have hn2 : L.length ≤ D := by omega
  clear h0 h1 h2 h3 h4 hlen
  go_enter Try.func40, Try.ntmps40
  go_wp2
  go_loopw [5] (fun i wr => ∃ k nq : Nat, k ≤ L.length ∧ i = .int .i64 k ∧ Hid (wr = (w.alloc (.cells #[.int .i64 (L.length : Int), .slice A L.length c] 24)).drewN nq) ∧ Hid (Upto (words L) D k)) (fun i _ => L.length - (intOf i).toNat)
  case atStart => exact ⟨0, 0, by omega, rfl, rfl, (fun q hq => absurd hq (Nat.not_lt_zero _) : Upto (words L) D 0)⟩
  case round =>
    obtain ⟨k, nq0, hk, rfl, hwr, HU⟩ := hrel
    obtain ⟨w1, ew1⟩ : ∃ w1, w.alloc (.cells #[.int .i64 (L.length : Int), .slice A L.length c] 24) = w1 := ⟨_, rfl⟩
    rw [ew1] at hwr HX HB0 p0 p1
    have bw : Below w1.heap.size w1 wr := by rw [hwr.out]; exact below_drewN (Below.refl _ _) nq0
    have p0' : wr.cell? ⟨w.heap.size, 0, none⟩ = some (.int .i64 (L.length : Int)) := by rw [hwr.out]; exact p0
    have p1' : wr.cell? ⟨w.heap.size, 1, none⟩ = some (.slice A L.length c) := by rw [hwr.out]; exact p1
    have HBW := Lib.hid (HB0.out.trans (bw.mono HB0.out.size))
    by_cases hlt : k < L.length
    · have eL : decide ((k : Int) < (L.length : Int)) = true := decide_eq_true (by omega)
      have HX' := HX.out.below bw
      obtain ⟨b, off, a1, c1, M, hA, hBk, hck, hG, hv1⟩ := HX'.at_ hlt
      obtain ⟨b', off', a0, c0, M0, hA0, hBk0, hck0, hG0, hv0⟩ := HX'.at_ (i := 0) (by omega)
      have hAA : b' = b ∧ off' = off := by
        rw [hA] at hA0
        simp only [Option.some.injEq, Addr.mk.injEq, and_true] at hA0
        exact ⟨hA0.1.symm, hA0.2.symm⟩
      obtain ⟨rfl, rfl⟩ := hAA
      rw [Nat.add_zero] at hck0
      have EM := Lib.hid (show (pAt (words L) k).length = M.length by rw [words_pAt hv1.out, vecs_len])
      have E0 := Lib.hid (pAt0 hv0.out)
      have hml := hG.len
      rw [hA] at p1'
      clear hA0 hG0 hv0 HX'
      have bad : Hid (¬ (1 ≤ M.length ∧ M.length ≤ 64 ∧ M.length = M0.length) → bookB (L.length : Int) (words L) (D : Int) = false) := Lib.hid (fun h => book_bad (p := k) (by rw [HL.out]; exact hlt) (by rw [EM.out, E0.out]; exact h))
      by_cases g1 : M.length < 1
      · have f1 : decide ((M.length : Int) < 1) = true := decide_eq_true (by omega)
        have E := Lib.hid (bad.out (by omega))
        clear hG bad g1 hck0 hwr bw
        go_wp2
        go_ret
        exact ⟨retb E.out.symm, HBW.out⟩
      have f1 : decide ((M.length : Int) < 1) = false := decide_eq_false (by omega)
      by_cases g2 : 64 < M.length
      · have f2 : decide ((64 : Int) < (M.length : Int)) = true := decide_eq_true (by omega)
        have E := Lib.hid (bad.out (by omega))
        clear hG bad g1 g2 hck0 hwr bw
        go_wp2
        go_ret
        exact ⟨retb E.out.symm, HBW.out⟩
      have f2 : decide ((64 : Int) < (M.length : Int)) = false := decide_eq_false (by omega)
      by_cases g3 : M.length ≠ M0.length
      · have f3 : ((M.length : Int) != (M0.length : Int)) = true := by simp; omega
        have E := Lib.hid (bad.out (by omega))
        clear hG bad g1 g2 g3 hwr bw
        go_wp2
        go_ret
        exact ⟨retb E.out.symm, HBW.out⟩
      have f3 : ((M.length : Int) != (M0.length : Int)) = false := by simp; omega
      have G3 := Lib.hid (show M.length = M0.length by omega)
      have hG' := Lib.hid hG
      obtain ⟨t1, t2, -⟩ := beg_val (k + 1) L.length D hn1 (by omega) hd2
      obtain ⟨u1, u2, -⟩ := beg_val k L.length D hn1 (by omega) hd2
      have BG1 : Hid (∀ W, Calls Try.prog 103 #[.int .i64 ((k : Int) + 1), .int .i64 (L.length : Int), .int .i64 (D : Int)] W fun e w' => e = .returned (.int .i64 ((beg (k + 1) L.length D : Nat) : Int)) ∧ w' = W) := Lib.hid (fun W => by
        have := begins_any (k + 1) L.length D hn1 (by omega) (by omega) hd2 W
        rw [show ((k + 1 : Nat) : Int) = (k : Int) + 1 by omega] at this
        exact this.mono fun _ _ h => ⟨h.1, h.2.symm⟩)
      have BG0 : Hid (∀ W, Calls Try.prog 103 #[.int .i64 (k : Int), .int .i64 (L.length : Int), .int .i64 (D : Int)] W fun e w' => e = .returned (.int .i64 ((beg k L.length D : Nat) : Int)) ∧ w' = W) := Lib.hid (fun W => (begins_any k L.length D hn1 (by omega) (by omega) hd2 W).mono fun _ _ h => ⟨h.1, h.2.symm⟩)
      have BM := beg_mono (p := k) (q := k + 1) (n := L.length) (d := D) (by omega)
      obtain ⟨y1, ey1⟩ : ∃ y, beg (k + 1) L.length D = y := ⟨_, rfl⟩
      obtain ⟨y0, ey0⟩ : ∃ y, beg k L.length D = y := ⟨_, rfl⟩
      rw [ey1] at BG1 BM t2
      rw [ey0] at BG0 BM u2
      have EY : Hid (beg (k + 1) L.length D - beg k L.length D = y1 - y0) := Lib.hid (by rw [ey1, ey0])
      clear bad g3 hG bw t1 u1 ey1 ey0
      go_wp2
      obtain ⟨wo, rfl⟩ : ∃ wo : World, wo = wr := ⟨_, rfl⟩
      go_loopw [7] (fun i w2 => ∃ q nq : Nat, q ≤ M.length ∧ i = .int .i64 q ∧ Hid (w2 = wo.drewN nq) ∧ Hid (∀ u, u < q → (vAt (vecs M) u).length = y1 - y0)) (fun i _ => M.length - (intOf i).toNat)
      case atStart => exact ⟨0, 0, by omega, rfl, rfl, (fun u hu => absurd hu (Nat.not_lt_zero _) : ∀ u, u < 0 → (vAt (vecs M) u).length = y1 - y0)⟩
      case round =>
        obtain ⟨q, nq1, hq, rfl, hw2, HQ⟩ := hrel
        have p0'' : wr.cell? ⟨w.heap.size, 0, none⟩ = some (.int .i64 (L.length : Int)) := by rw [hw2.out]; exact p0'
        have HBQ := Lib.hid (HBW.out.trans ((show Below wo.heap.size wo wr by rw [hw2.out]; exact below_drewN (Below.refl _ _) nq1).mono HBW.out.size))
        by_cases hqt : q < M.length
        · have eq : decide ((q : Int) < (M.length : Int)) = true := decide_eq_true (by omega)
          obtain ⟨bv, ov, a2, c2, v, rfl, hBv, hcv, -, hvv⟩ := hG'.out.rd.at_ hqt
          have hcv' : wr.cell? ⟨bv, ov + q, none⟩ = some (.slice a2 v.length c2) := by rw [hw2.out]; exact hcv
          have EV := Lib.hid (vecs_vAt hvv.out)
          have hvl := hG'.out.vec v (List.mem_of_getElem? (vecs_at hvv.out))
          have z1 : (0 : Int) ≤ (q : Int) := by omega
          have z2 : (q : Int) < (M.length : Int) := by omega
          by_cases hne : v.length = y1 - y0
          · have f4 : ((v.length : Int) != ((y1 : Int) - (y0 : Int))) = false := by simp; omega
            have HN : Hid (∀ u, u < q + 1 → (vAt (vecs M) u).length = y1 - y0) := Lib.hid (fun u hu => by
              rcases Nat.lt_or_ge u q with h | h
              · exact HQ.out u h
              · obtain rfl : u = q := by omega
                rw [EV.out]; exact hne)
            have HV := Lib.hid hne
            clear hcv hvv EV HQ hne p0'
            go_wp2
            go_quiet ((go_at_call 103; first | with_reducible exact Calls.quiet_of_same (BG1.out _) | with_reducible exact Calls.quiet_of_same (BG0.out _)))
            go_wp2
            go_roundw
            case rel => exact ⟨q + 1, _, by omega, by go_num, Lib.hid (by rw [hw2.out, World.drewN_drewN]), HN⟩
            case measure => simp [intOf]; omega
          · have f4 : ((v.length : Int) != ((y1 : Int) - (y0 : Int))) = true := by simp; omega
            have E : Hid (bookB (L.length : Int) (words L) (D : Int) = false) := Lib.hid (book_bad2 (p := k) (w := q) (by rw [HL.out]; exact hlt) (by rw [EM.out]; exact hqt) (by rw [words_pAt hv1.out, EV.out, HL.out, EY.out]; exact hne))
            clear hcv hvv EV HQ hne p0'
            go_wp2
            go_quiet ((go_at_call 103; first | with_reducible exact Calls.quiet_of_same (BG1.out _) | with_reducible exact Calls.quiet_of_same (BG0.out _)))
            go_wp2
            go_ret
            exact ⟨retb E.out.symm, below_drewN HBQ.out _⟩
        · obtain rfl : q = M.length := by omega
          have HN : Hid (Upto (words L) D (k + 1)) := Lib.hid (fun u hu => by
            rcases Nat.lt_or_ge u k with h | h
            · exact HU.out u h
            · obtain rfl : u = k := by omega
              rw [EM.out, E0.out, HL.out, EY.out, words_pAt hv1.out]
              exact ⟨by omega, by omega, G3.out, HQ.out⟩)
          clear HQ HU
          go_wp2
          go_roundw
          case rel => exact ⟨k + 1, _, by omega, by go_num, Lib.hid (by rw [hw2.out, hwr.out, World.drewN_drewN, ew1]), HN⟩
          case measure => simp [intOf]; omega
    · obtain rfl : k = L.length := by omega
      have E : Hid (bookB (L.length : Int) (words L) (D : Int) = true) := Lib.hid (bookB_mk (by rw [HL.out]) ⟨hd1, hd2, by rw [HL.out]; exact hn1, by rw [HL.out]; exact hn2, by have h := HU.out; unfold Upto at h; rw [HL.out] at h ⊢; exact h⟩)
      clear HU
      go_wp2
      go_ret
      exact ⟨retb E.out.symm, HBW.out⟩
theorem dimOf_le_size (l : List (List Int)) : dimOf l ≤ sizeL l := by
  unfold dimOf
  rcases Nat.lt_or_ge 0 l.length with h | h
  · rw [List.getElem?_eq_getElem h]
    exact sizeL_v (List.getElem_mem h)
  · rw [List.getElem?_eq_none (by omega)]
    exact Nat.zero_le _
theorem sum_le_map {α : Type} (f g : α → Nat) (h : ∀ x, f x ≤ g x) : ∀ l : List α, (l.map f).sum ≤ (l.map g).sum
  | [] => by simp
  | a :: r => by
    simp only [List.map_cons, List.sum_cons]
    have := sum_le_map f g h r
    have := h a
    omega
theorem dimS_take {ps : List (List (List Int))} {i : Nat} {l : List (List Int)} (h : ps[i]? = some l) : dimS (ps.take (i + 1)) = dimS (ps.take i) + dimOf l := by
  unfold dimS
  rw [List.take_add_one, h]; simp
theorem dimS_le (ps : List (List (List Int))) : dimS ps ≤ sizeP ps := by
  have := sum_le_map dimOf sizeL dimOf_le_size ps
  unfold dimS sizeP
  omega
theorem sum_take_le {α : Type} (f : α → Nat) (l : List α) (k : Nat) : ((l.take k).map f).sum ≤ (l.map f).sum := by
  conv => rhs; rw [← List.take_append_drop k l]
  rw [List.map_append, List.sum_append]
  omega
theorem dimS_take_le (ps : List (List (List Int))) (k : Nat) : dimS (ps.take k) ≤ dimS ps := sum_take_le dimOf ps k
set_option maxRecDepth 100000 in
set_option maxHeartbeats 1000000 in
theorem rDim_any (P : Int) (A : Option Addr) (c : Nat) (L : List Pc) (w : World) (hx : PArg w A L) :
    Calls Try.prog 41 #[.agg #[.int .i64 P, .slice A L.length c]] w fun e w' => e = .returned (.int .i64 ((dimS (words L) : Nat) : Int)) ∧ Below w.heap.size w w' := by
  have W0 := Whole.new w 24 #[.int .i64 P, .slice A L.length c]
  have B0 : Below w.heap.size w (w.alloc (.cells #[.int .i64 P, .slice A L.length c] 24)) := below_one (Below.refl _ _) _
  have HX := Lib.hid (hx.below B0)
  have HB0 := Lib.hid B0
  have hlen := hx.sm.len
  have HL := Lib.hid (words_len L)
  have HD : Hid (∀ k, dimS ((words L).take k) ≤ 20000) := Lib.hid (fun k => Nat.le_trans (dimS_take_le _ _) (Nat.le_trans (dimS_le _) hx.sm))
  have p1 : (w.alloc (.cells #[.int .i64 P, .slice A L.length c] 24)).cell? ⟨w.heap.size, 1, none⟩ = some (.slice A L.length c) := W0.cell 1
  clear W0 B0 hx
  go_enter Try.func41, Try.ntmps41
  go_wp2
  go_loop [3, 4] (fun s i => ∃ k m : Nat, k ≤ L.length ∧ i = .int .i64 k ∧ s = .int .i64 m ∧ Hid (m = dimS ((words L).take k))) (fun _ i => L.length - (intOf i).toNat)
  case atStart => exact ⟨0, 0, by omega, rfl, rfl, rfl⟩
  case round =>
    obtain ⟨k, m, hk, rfl, rfl, hm⟩ := hrel
    by_cases hlt : k < L.length
    · have e1 : decide ((k : Int) < (L.length : Int)) = true := decide_eq_true (by omega)
      obtain ⟨b, off, a1, c1, M, rfl, hBk, hck, hG, hv1⟩ := HX.out.at_ hlt
      have hs := dimS_take (words_at hv1.out)
      have hb1 := HD.out k
      have hb2 := HD.out (k + 1)
      by_cases h0 : 0 < M.length
      · have e2 : decide ((0 : Int) < (M.length : Int)) = true := decide_eq_true (by omega)
        obtain ⟨bv, ov, a2, c2, v, rfl, hBv, hcv, -, hvv⟩ := hG.rd.at_ h0
        rw [Nat.add_zero] at hcv
        have HD0 : Hid (m + v.length = dimS ((words L).take (k + 1))) := Lib.hid (by rw [hs, dim0 hvv.out, hm.out])
        have hb3 : m + v.length ≤ 20000 := by rw [HD0.out]; exact hb2
        clear hs hb1 hb2 hm hG hv1 hvv
        go_wp2
        go_round
        case rel => exact ⟨k + 1, m + v.length, by omega, by go_num, by go_num, HD0⟩
        case measure => simp [intOf]; omega
      · have e2 : decide ((0 : Int) < (M.length : Int)) = false := decide_eq_false (by omega)
        have HD0 : Hid (m = dimS ((words L).take (k + 1))) := Lib.hid (by
          rw [hs, hm.out]
          have : dimOf (vecs M) = 0 := by unfold dimOf; rw [List.getElem?_eq_none (by rw [vecs_len]; omega)]; rfl
          rw [this]; rfl)
        clear hs hb1 hb2 hm hG hv1
        go_wp2
        go_round
        case rel => exact ⟨k + 1, m, by omega, by go_num, rfl, HD0⟩
        case measure => simp [intOf]; omega
    · obtain rfl : k = L.length := by omega
      have e1 : decide ((L.length : Int) < (L.length : Int)) = false := decide_eq_false (by omega)
      have h1 := hm.out
      rw [List.take_of_length_le (by rw [HL.out]; exact Nat.le_refl _)] at h1
      have HZ := Lib.hid h1
      clear hm h1
      go_wp2
      go_ret
      exact ⟨ret1 (by have h := HZ.out; omega), HB0.out⟩
end Go.Proofs.Ythbimjkcpmffcaa
