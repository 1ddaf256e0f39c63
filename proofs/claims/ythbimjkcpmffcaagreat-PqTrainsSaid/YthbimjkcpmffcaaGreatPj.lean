/- Several texts in one. -/
import Derived.Test.YthbimjkcpmffcaaGreatPd
import Derived.Laws.AppendOwn
import Derived.Maps.AppendAt
import Derived.Deep.RegionHeld3
import Derived.Deep.RegionWith
import Derived.Deep.RegionLaw
import Derived.Deep.QuietTactic
import Derived.BigQuiet
import Derived.Test.YthbimjkcpmffcaaGreatRu
/- The walks of the document's begins, Check, dim (layer 8). -/
namespace Go.Proofs.YthbimjkcpmffcaaGreat
open Go.RowKit
set_option linter.unusedVariables false
theorem beg_val (p n d : Nat) (h1 : 1 ≤ n) (hp : p ≤ 64) (hd : d ≤ 64) : p * d ≤ 4096 ∧ beg p n d ≤ 4096 ∧ ((p : Int) * (d : Int)) / (n : Int) = ((beg p n d : Nat) : Int) := by
  have e1 : p * d ≤ 64 * 64 := Nat.mul_le_mul hp hd
  have e2 : beg p n d ≤ p * d := Nat.div_le_self _ _
  refine ⟨e1, by omega, ?_⟩
  unfold beg
  rw [← Int.natCast_mul]
  rfl
set_option maxHeartbeats 400000 in
theorem begins_any (p n d : Nat) (h1 : 1 ≤ n) (hn : n ≤ 64) (hp : p ≤ 64) (hd : d ≤ 64) (w : World) :
    Calls Tryz.prog 35 #[.int .i64 (p : Int), .int .i64 (n : Int), .int .i64 (d : Int)] w fun e w' => e = .returned (.int .i64 ((beg p n d : Nat) : Int)) ∧ w = w' := by
  obtain ⟨b1, b2, b3⟩ := beg_val p n d h1 hp hd
  obtain ⟨m, hm⟩ : ∃ m, p * d = m := ⟨_, rfl⟩
  have em : (p : Int) * (d : Int) = (m : Int) := by rw [← Int.natCast_mul, hm]
  rw [em] at b3
  rw [hm] at b1
  have HB := Lib.hid b3
  have n0 : ((n : Int) == 0) = false := by rw [beq_eq_false_iff_ne]; omega
  have wr1 : IntKind.i64.wrap ((p : Int) * (d : Int)) = (m : Int) := by rw [em, IntKind.wrap_i64]; omega
  clear b3 hm em
  go_enter Tryz.func35, Tryz.ntmps35
  go_wp2
  go_ret
  exact ⟨ret1 (by rw [HB.out]; unfold wrap64; omega), rfl⟩
theorem pAt0 {L : List Pc} {a : Option Addr} {c : Nat} {M : List Vc} (h : L[0]? = some (a, c, M)) : (pAt (words L) 0).length = M.length := by rw [words_pAt h, vecs_len]
/-- What the first p parts of a book keep. -/
def Upto (ps : List (List (List Int))) (d p : Nat) : Prop := ∀ q, q < p → 1 ≤ (pAt ps q).length ∧ (pAt ps q).length ≤ 64 ∧ (pAt ps q).length = (pAt ps 0).length ∧ ∀ w, w < (pAt ps q).length → (vAt (pAt ps q) w).length = beg (q + 1) ps.length d - beg q ps.length d
theorem book_bad {P : Int} {ps : List (List (List Int))} {d : Int} {p : Nat} (hp : p < ps.length) (h : ¬ (1 ≤ (pAt ps p).length ∧ (pAt ps p).length ≤ 64 ∧ (pAt ps p).length = (pAt ps 0).length)) : bookB P ps d = false :=
  bookB_no (fun ⟨_, _, k⟩ => h (by have := k.2.2.2.2 p hp; exact ⟨this.1, this.2.1, this.2.2.1⟩))
theorem book_bad2 {P : Int} {ps : List (List (List Int))} {d p w : Nat} (hp : p < ps.length) (hw : w < (pAt ps p).length) (h : (vAt (pAt ps p) w).length ≠ beg (p + 1) ps.length d - beg p ps.length d) : bookB P ps d = false :=
  bookB_no (fun ⟨_, _, k⟩ => h (by have := (k.2.2.2.2 p hp).2.2.2 w hw; rwa [Int.toNat_natCast] at this))
set_option maxRecDepth 100000 in
set_option maxHeartbeats 2000000 in
theorem rCheck_any (P : Int) (A : Option Addr) (c : Nat) (L : List Pc) (d : Int) (w : World) (hx : PArg w A L) :
    Calls Tryz.prog 16 #[.agg #[.int .i64 P, .slice A L.length c], .int .i64 d] w fun e w' => e = .returned (.bool (bookB P (words L) d)) ∧ Below w.heap.size w w' := by
  have W0 := Whole.new w 24 #[.int .i64 P, .slice A L.length c]
  have B0 : Below w.heap.size w (w.alloc (.cells #[.int .i64 P, .slice A L.length c] 24)) := below_one (Below.refl _ _) _
  have HX := Lib.hid (hx.below B0)
  have HB0 := Lib.hid B0
  have hlen := hx.sm.len
  have HL := Lib.hid (words_len L)
  have p0 : (w.alloc (.cells #[.int .i64 P, .slice A L.length c] 24)).cell? ⟨w.heap.size, 0, none⟩ = some (.int .i64 P) := W0.cell 0
  have p1 : (w.alloc (.cells #[.int .i64 P, .slice A L.length c] 24)).cell? ⟨w.heap.size, 1, none⟩ = some (.slice A L.length c) := W0.cell 1
  clear W0 B0 hx
  by_cases h0 : d < 1
  · have e0 : decide (d < 1) = true := decide_eq_true h0
    have E := Lib.hid (bookB_no (P := P) (ps := words L) (d := d) (fun ⟨k1, k2, k3⟩ => by obtain ⟨j1, j2, j3, j4, _⟩ := k3; rw [HL.out] at *; omega))
    clear h0
    go_enter Tryz.func16, Tryz.ntmps16
    go_wp2
    go_ret
    exact ⟨retb E.out.symm, HB0.out⟩
  have e0 : decide (d < 1) = false := decide_eq_false h0
  by_cases h1 : 64 < d
  · have e1 : decide (64 < d) = true := decide_eq_true h1
    have E := Lib.hid (bookB_no (P := P) (ps := words L) (d := d) (fun ⟨k1, k2, k3⟩ => by obtain ⟨j1, j2, j3, j4, _⟩ := k3; rw [HL.out] at *; omega))
    clear h0 h1
    go_enter Tryz.func16, Tryz.ntmps16
    go_wp2
    go_ret
    exact ⟨retb E.out.symm, HB0.out⟩
  have e1 : decide (64 < d) = false := decide_eq_false h1
  by_cases h2 : P < 1
  · have e2 : decide (P < 1) = true := decide_eq_true h2
    have E := Lib.hid (bookB_no (P := P) (ps := words L) (d := d) (fun ⟨k1, k2, k3⟩ => by obtain ⟨j1, j2, j3, j4, _⟩ := k3; rw [HL.out] at *; omega))
    clear h0 h1 h2
    go_enter Tryz.func16, Tryz.ntmps16
    go_wp2
    go_ret
    exact ⟨retb E.out.symm, HB0.out⟩
  have e2 : decide (P < 1) = false := decide_eq_false h2
  by_cases h3 : d < P
  · have e3 : decide (d < P) = true := decide_eq_true h3
    have E := Lib.hid (bookB_no (P := P) (ps := words L) (d := d) (fun ⟨k1, k2, k3⟩ => by obtain ⟨j1, j2, j3, j4, _⟩ := k3; rw [HL.out] at *; omega))
    clear h0 h1 h2 h3
    go_enter Tryz.func16, Tryz.ntmps16
    go_wp2
    go_ret
    exact ⟨retb E.out.symm, HB0.out⟩
  have e3 : decide (d < P) = false := decide_eq_false h3
  by_cases h4 : (L.length : Int) ≠ P
  · have e4 : ((L.length : Int) != P) = true := by simpa using h4
    have E := Lib.hid (bookB_no (P := P) (ps := words L) (d := d) (fun ⟨k1, k2, k3⟩ => by obtain ⟨j1, j2, j3, j4, _⟩ := k3; rw [HL.out] at *; omega))
    clear h0 h1 h2 h3 h4
    go_enter Tryz.func16, Tryz.ntmps16
    go_wp2
    go_ret
    exact ⟨retb E.out.symm, HB0.out⟩
  have e4 : ((L.length : Int) != P) = false := by simpa using h4
  obtain ⟨D, rfl⟩ := Int.eq_ofNat_of_zero_le (show 0 ≤ d by omega)
  have hP : P = (L.length : Int) := by omega
  subst hP
  have hd1 : 1 ≤ D := by omega
  have hd2 : D ≤ 64 := by omega
  have hn1 : 1 ≤ L.length := by omega
  have hn2 : L.length ≤ D := by omega
  clear h0 h1 h2 h3 h4 hlen
  go_enter Tryz.func16, Tryz.ntmps16
  go_wp2
  go_loopw [5] (fun i wr => ∃ k nq : Nat, k ≤ L.length ∧ i = .int .i64 k ∧ Hid (wr = (w.alloc (.cells #[.int .i64 (L.length : Int), .slice A L.length c] 24)).drewN nq) ∧ Hid (Upto (words L) D k)) (fun i _ => L.length - (intOf i).toNat)
  case atStart => exact ⟨0, 0, by omega, rfl, rfl, (fun q hq => absurd hq (Nat.not_lt_zero _) : Upto (words L) D 0)⟩
  case round =>
    obtain ⟨k, nq0, hk, rfl, hwr, HU⟩ := hrel
    obtain ⟨w1, ew1⟩ : ∃ w1, w.alloc (.cells #[.int .i64 (L.length : Int), .slice A L.length c] 24) = w1 := ⟨_, rfl⟩
    rw [ew1] at hwr HX HB0 p0 p1
    have bw : Below w1.heap.size w1 wr := by rw [hwr.out]; exact below_drewN (Below.refl _ _) nq0
    have p0' : wr.cell? ⟨w.heap.size, 0, none⟩ = some (.int .i64 (L.length : Int)) := by rw [hwr.out]; exact p0
    have p1' : wr.cell? ⟨w.heap.size, 1, none⟩ = some (.slice A L.length c) := by rw [hwr.out]; exact p1
    have HBW := Lib.hid (HB0.out.trans (bw.mono HB0.out.size))
    by_cases hlt : k < L.length
    · have eL : decide ((k : Int) < (L.length : Int)) = true := decide_eq_true (by omega)
      have HX' := HX.out.below bw
      obtain ⟨b, off, a1, c1, M, hA, hBk, hck, hG, hv1⟩ := HX'.at_ hlt
      obtain ⟨b', off', a0, c0, M0, hA0, hBk0, hck0, hG0, hv0⟩ := HX'.at_ (i := 0) (by omega)
      have hAA : b' = b ∧ off' = off := by
        rw [hA] at hA0
        simp only [Option.some.injEq, Addr.mk.injEq, and_true] at hA0
        exact ⟨hA0.1.symm, hA0.2.symm⟩
      obtain ⟨rfl, rfl⟩ := hAA
      rw [Nat.add_zero] at hck0
      have EM := Lib.hid (show (pAt (words L) k).length = M.length by rw [words_pAt hv1.out, vecs_len])
      have E0 := Lib.hid (pAt0 hv0.out)
      have hml := hG.len
      rw [hA] at p1'
      clear hA0 hG0 hv0 HX'
      have bad : Hid (¬ (1 ≤ M.length ∧ M.length ≤ 64 ∧ M.length = M0.length) → bookB (L.length : Int) (words L) (D : Int) = false) := Lib.hid (fun h => book_bad (p := k) (by rw [HL.out]; exact hlt) (by rw [EM.out, E0.out]; exact h))
      by_cases g1 : M.length < 1
      · have f1 : decide ((M.length : Int) < 1) = true := decide_eq_true (by omega)
        have E := Lib.hid (bad.out (by omega))
        clear hG bad g1 hck0 hwr bw
        go_wp2
        go_ret
        exact ⟨retb E.out.symm, HBW.out⟩
      have f1 : decide ((M.length : Int) < 1) = false := decide_eq_false (by omega)
      by_cases g2 : 64 < M.length
      · have f2 : decide ((64 : Int) < (M.length : Int)) = true := decide_eq_true (by omega)
        have E := Lib.hid (bad.out (by omega))
        clear hG bad g1 g2 hck0 hwr bw
        go_wp2
        go_ret
        exact ⟨retb E.out.symm, HBW.out⟩
      have f2 : decide ((64 : Int) < (M.length : Int)) = false := decide_eq_false (by omega)
      by_cases g3 : M.length ≠ M0.length
      · have f3 : ((M.length : Int) != (M0.length : Int)) = true := by simp; omega
        have E := Lib.hid (bad.out (by omega))
        clear hG bad g1 g2 g3 hwr bw
        go_wp2
        go_ret
        exact ⟨retb E.out.symm, HBW.out⟩
      have f3 : ((M.length : Int) != (M0.length : Int)) = false := by simp; omega
      have G3 := Lib.hid (show M.length = M0.length by omega)
      have hG' := Lib.hid hG
      obtain ⟨t1, t2, -⟩ := beg_val (k + 1) L.length D hn1 (by omega) hd2
      obtain ⟨u1, u2, -⟩ := beg_val k L.length D hn1 (by omega) hd2
      have BG1 : Hid (∀ W, Calls Tryz.prog 35 #[.int .i64 ((k : Int) + 1), .int .i64 (L.length : Int), .int .i64 (D : Int)] W fun e w' => e = .returned (.int .i64 ((beg (k + 1) L.length D : Nat) : Int)) ∧ w' = W) := Lib.hid (fun W => by
        have := begins_any (k + 1) L.length D hn1 (by omega) (by omega) hd2 W
        rw [show ((k + 1 : Nat) : Int) = (k : Int) + 1 by omega] at this
        exact this.mono fun _ _ h => ⟨h.1, h.2.symm⟩)
      have BG0 : Hid (∀ W, Calls Tryz.prog 35 #[.int .i64 (k : Int), .int .i64 (L.length : Int), .int .i64 (D : Int)] W fun e w' => e = .returned (.int .i64 ((beg k L.length D : Nat) : Int)) ∧ w' = W) := Lib.hid (fun W => (begins_any k L.length D hn1 (by omega) (by omega) hd2 W).mono fun _ _ h => ⟨h.1, h.2.symm⟩)
      have BM := beg_mono (p := k) (q := k + 1) (n := L.length) (d := D) (by omega)
      obtain ⟨y1, ey1⟩ : ∃ y, beg (k + 1) L.length D = y := ⟨_, rfl⟩
      obtain ⟨y0, ey0⟩ : ∃ y, beg k L.length D = y := ⟨_, rfl⟩
      rw [ey1] at BG1 BM t2
      rw [ey0] at BG0 BM u2
      have EY : Hid (beg (k + 1) L.length D - beg k L.length D = y1 - y0) := Lib.hid (by rw [ey1, ey0])
      clear bad g3 hG bw t1 u1 ey1 ey0
      go_wp2
      obtain ⟨wo, rfl⟩ : ∃ wo : World, wo = wr := ⟨_, rfl⟩
      go_loopw [7] (fun i w2 => ∃ q nq : Nat, q ≤ M.length ∧ i = .int .i64 q ∧ Hid (w2 = wo.drewN nq) ∧ Hid (∀ u, u < q → (vAt (vecs M) u).length = y1 - y0)) (fun i _ => M.length - (intOf i).toNat)
      case atStart => exact ⟨0, 0, by omega, rfl, rfl, (fun u hu => absurd hu (Nat.not_lt_zero _) : ∀ u, u < 0 → (vAt (vecs M) u).length = y1 - y0)⟩
      case round =>
        obtain ⟨q, nq1, hq, rfl, hw2, HQ⟩ := hrel
        have p0'' : wr.cell? ⟨w.heap.size, 0, none⟩ = some (.int .i64 (L.length : Int)) := by rw [hw2.out]; exact p0'
        have HBQ := Lib.hid (HBW.out.trans ((show Below wo.heap.size wo wr by rw [hw2.out]; exact below_drewN (Below.refl _ _) nq1).mono HBW.out.size))
        by_cases hqt : q < M.length
        · have eq : decide ((q : Int) < (M.length : Int)) = true := decide_eq_true (by omega)
          obtain ⟨bv, ov, a2, c2, v, rfl, hBv, hcv, -, hvv⟩ := hG'.out.rd.at_ hqt
          have hcv' : wr.cell? ⟨bv, ov + q, none⟩ = some (.slice a2 v.length c2) := by rw [hw2.out]; exact hcv
          have EV := Lib.hid (vecs_vAt hvv.out)
          have hvl := hG'.out.vec v (List.mem_of_getElem? (vecs_at hvv.out))
          have z1 : (0 : Int) ≤ (q : Int) := by omega
          have z2 : (q : Int) < (M.length : Int) := by omega
          by_cases hne : v.length = y1 - y0
          · have f4 : ((v.length : Int) != ((y1 : Int) - (y0 : Int))) = false := by simp; omega
            have HN : Hid (∀ u, u < q + 1 → (vAt (vecs M) u).length = y1 - y0) := Lib.hid (fun u hu => by
              rcases Nat.lt_or_ge u q with h | h
              · exact HQ.out u h
              · obtain rfl : u = q := by omega
                rw [EV.out]; exact hne)
            have HV := Lib.hid hne
            clear hcv hvv EV HQ hne p0'
            go_wp2
            go_quiet ((go_at_call 35; first | with_reducible exact Calls.quiet_of_same (BG1.out _) | with_reducible exact Calls.quiet_of_same (BG0.out _)))
            go_wp2
            go_roundw
            case rel => exact ⟨q + 1, _, by omega, by go_num, Lib.hid (by rw [hw2.out, World.drewN_drewN]), HN⟩
            case measure => simp [intOf]; omega
          · have f4 : ((v.length : Int) != ((y1 : Int) - (y0 : Int))) = true := by simp; omega
            have E : Hid (bookB (L.length : Int) (words L) (D : Int) = false) := Lib.hid (book_bad2 (p := k) (w := q) (by rw [HL.out]; exact hlt) (by rw [EM.out]; exact hqt) (by rw [words_pAt hv1.out, EV.out, HL.out, EY.out]; exact hne))
            clear hcv hvv EV HQ hne p0'
            go_wp2
            go_quiet ((go_at_call 35; first | with_reducible exact Calls.quiet_of_same (BG1.out _) | with_reducible exact Calls.quiet_of_same (BG0.out _)))
            go_wp2
            go_ret
            exact ⟨retb E.out.symm, below_drewN HBQ.out _⟩
        · obtain rfl : q = M.length := by omega
          have HN : Hid (Upto (words L) D (k + 1)) := Lib.hid (fun u hu => by
            rcases Nat.lt_or_ge u k with h | h
            · exact HU.out u h
            · obtain rfl : u = k := by omega
              rw [EM.out, E0.out, HL.out, EY.out, words_pAt hv1.out]
              exact ⟨by omega, by omega, G3.out, HQ.out⟩)
          clear HQ HU
          go_wp2
          go_roundw
          case rel => exact ⟨k + 1, _, by omega, by go_num, Lib.hid (by rw [hw2.out, hwr.out, World.drewN_drewN, ew1]), HN⟩
          case measure => simp [intOf]; omega
    · obtain rfl : k = L.length := by omega
      have E : Hid (bookB (L.length : Int) (words L) (D : Int) = true) := Lib.hid (bookB_mk (by rw [HL.out]) ⟨hd1, hd2, by rw [HL.out]; exact hn1, by rw [HL.out]; exact hn2, by have h := HU.out; unfold Upto at h; rw [HL.out] at h ⊢; exact h⟩)
      clear HU
      go_wp2
      go_ret
      exact ⟨retb E.out.symm, HBW.out⟩
theorem dimOf_le_size (l : List (List Int)) : dimOf l ≤ sizeL l := by
  unfold dimOf
  rcases Nat.lt_or_ge 0 l.length with h | h
  · rw [List.getElem?_eq_getElem h]
    exact sizeL_v (List.getElem_mem h)
  · rw [List.getElem?_eq_none (by omega)]
    exact Nat.zero_le _
theorem sum_le_map {α : Type} (f g : α → Nat) (h : ∀ x, f x ≤ g x) : ∀ l : List α, (l.map f).sum ≤ (l.map g).sum
  | [] => by simp
  | a :: r => by
    simp only [List.map_cons, List.sum_cons]
    have := sum_le_map f g h r
    have := h a
    omega
theorem dimS_take {ps : List (List (List Int))} {i : Nat} {l : List (List Int)} (h : ps[i]? = some l) : dimS (ps.take (i + 1)) = dimS (ps.take i) + dimOf l := by
  unfold dimS
  rw [List.take_add_one, h]; simp
theorem dimS_le (ps : List (List (List Int))) : dimS ps ≤ sizeP ps := by
  have := sum_le_map dimOf sizeL dimOf_le_size ps
  unfold dimS sizeP
  omega
theorem sum_take_le {α : Type} (f : α → Nat) (l : List α) (k : Nat) : ((l.take k).map f).sum ≤ (l.map f).sum := by
  conv => rhs; rw [← List.take_append_drop k l]
  rw [List.map_append, List.sum_append]
  omega
theorem dimS_take_le (ps : List (List (List Int))) (k : Nat) : dimS (ps.take k) ≤ dimS ps := sum_take_le dimOf ps k
end Go.Proofs.YthbimjkcpmffcaaGreat
/- The walk of the document's Decode (layer 8). -/
namespace Go.Proofs.YthbimjkcpmffcaaGreat
open Go.RowKit
set_option linter.unusedVariables false
theorem errE_true : errE true = 0 := rfl
theorem errE_false : errE false = 1 := rfl
/-- An answer that is a list of numbers of kind k, and an errno. -/
def NAns (w : World) (k : IntKind) (t : TypeId) (xs : List Int) (E : Int) (e : Ending) (w' : World) : Prop :=
  ∃ A c, e = .returned (.tuple #[.slice A xs.length c, .int .i64 E]) ∧ w'.ownsRow w.heap.size t 1 (.slice A xs.length c) xs.length (xs.map (Value.int k)) ∧ Below w.heap.size w w'
theorem NAns.nil (w : World) (k : IntKind) (t : TypeId) (E : Int) {w' : World} (h : Below w.heap.size w w') : NAns w k t [] E (.returned (.tuple #[.slice none 0 0, .int .i64 E])) w' := ⟨none, 0, rfl, own_nil_row _ _ _, h⟩
/-- A code as an argument. -/
structure CArg (w : World) (B : Option Addr) (v : List Int) : Prop where
  rd : Rd .u8 w w.heap.size B v
  len : v.length ≤ 1048576
  u8 : ∀ x ∈ v, 0 ≤ x ∧ x ≤ 255
theorem CArg.below {w w' : World} {B : Option Addr} {v : List Int} (h : CArg w B v) (hb : Below w.heap.size w w') : CArg w' B v := ⟨(h.rd.below hb).more hb.size, h.len, h.u8⟩
theorem CArg.at_ {w : World} {B : Option Addr} {v : List Int} (h : CArg w B v) {i : Nat} (hi : i < v.length) : ∃ b off x, B = some ⟨b, off, none⟩ ∧ b < w.heap.size ∧ w.cell? ⟨b, off + i, none⟩ = some (.int .u8 ((x : Nat) : Int)) ∧ x ≤ 255 ∧ Hid (cAt v i = x) := by
  obtain ⟨b, off, y, h1, h2, h3, h4⟩ := h.rd.at_ hi
  have hy : 0 ≤ y ∧ y ≤ 255 := by
    rw [← h4.out, List.getElem?_eq_getElem hi]; exact h.u8 _ (List.getElem_mem _)
  refine ⟨b, off, y.toNat, h1, h2, by rw [h3, Int.toNat_of_nonneg hy.1], by omega, ?_⟩
  unfold cAt
  rw [h4.out]; rfl
/-- The first k words that a code names, one behind the other. -/
def decK (ps : List (List (List Int))) (code : List Int) (k : Nat) : List Int := ((List.range k).map (wordAt ps code)).flatten
theorem decK_succ (ps : List (List (List Int))) (code : List Int) (k : Nat) : decK ps code (k + 1) = decK ps code k ++ wordAt ps code k := by
  unfold decK
  rw [List.range_succ, List.map_append, List.flatten_append]; simp
theorem decK_len {ps : List (List (List Int))} {d : Nat} {code : List Int} (h : BookOk ps d) {k : Nat} (hk : k ≤ ps.length) (hc : ∀ p, p < k → cAt code p < (pAt ps p).length) : (decK ps code k).length ≤ 64 := by
  have e : ∀ p, p < k → (wordAt ps code p).length = beg (p + 1) ps.length d - beg p ps.length d := fun p hp => h.word (by omega) (hc p hp)
  have : ∀ q, q ≤ k → (decK ps code q).length = beg q ps.length d := by
    intro q
    induction q with
    | zero => intro _; unfold decK; simp [beg_zero]
    | succ q ih =>
      intro hq
      have hm := beg_mono (p := q) (q := q + 1) (n := ps.length) (d := d) (by omega)
      rw [decK_succ, List.length_append, ih (by omega), e q (by omega)]; omega
  rw [this k (Nat.le_refl _)]
  have := beg_le (p := k) (d := d) h.2.2.1 hk
  have := h.2.1
  omega
theorem decB_len {P : Int} {ps : List (List (List Int))} {code : List Int} (h : ¬ code.length = ps.length) : decB P ps code = false := by
  unfold decB
  rw [decide_eq_false (fun k : codeOk ps code => h k.1), Bool.and_false]
theorem decB_at {P : Int} {ps : List (List (List Int))} {code : List Int} {p : Nat} (hp : p < ps.length) (h : ¬ cAt code p < (pAt ps p).length) : decB P ps code = false := by
  unfold decB
  rw [decide_eq_false (fun k : codeOk ps code => h (k.2 p hp)), Bool.and_false]
theorem decB_yes {P : Int} {ps : List (List (List Int))} {code : List Int} (h1 : bookB P ps (dimS ps) = true) (h2 : code.length = ps.length) (h3 : ∀ p, p < ps.length → cAt code p < (pAt ps p).length) : decB P ps code = true := by
  unfold decB
  rw [h1, decide_eq_true (p := codeOk ps code) ⟨h2, h3⟩]
  rfl
/-- 'append' of a slice of integers to a row of the call's own: as a step of a drawn region. -/
theorem step_app {P : Program} {ops : Array Oper} {o : Oper} {a : Act} {w : World} {K : Act → World → Prop} {Q : Exit → Act → World → Prop} {E : Prop} (hgd : o.guard = none) (s x : Operand) (t : TypeId)
    (ho : o.op = .call { callee := .builtin .append, args := #[s, x], argTypes := #[t, t] })
    (base : Nat) (e : TypeId) (i : TypeInfo) (z : Value) (bytes : Nat) (ht : P.underlying t = some (.slice e)) (hi : P.info? e = some i) (hz : i.zero = some z)
    (hsize : i.size = 1) (hby : i.bytes = bytes) (hzs : z.cells.size = 1) (k : IntKind)
    (v : Value) (n : Nat) (xs : List Int) (hs : a.eval s = v) (hown : w.ownsRow base e 1 v n (xs.map (Value.int k)))
    (S : Option Addr) (m c : Nat) (ys : List Int) (B : Nat) (hx : a.eval x = .slice S m c) (hm : m = ys.length) (hrd : Rd k w B S ys) (hnil : S = none → c = 0)
    (h63 : n + m ≤ maxLen) (hbytes : (n + m) * bytes ≤ 140737488355328) (hbase : base ≤ w.heap.size)
    (h : ∀ v' w', w'.ownsRow base e 1 v' (n + m) ((xs ++ ys).map (Value.int k)) → w.grownBy w' v.ownBlock → K (a.put o.dst v') w') :
    if Region.wanted o (yielded ops a.tmps) = true then Oper.wp P o a w K Q else E := by
  have hw : Region.wanted o (yielded ops a.tmps) = true := by simp [Region.wanted, hgd]
  rw [if_pos hw]
  subst hm
  rcases S with _ | ad
  · obtain rfl := rd_none hrd
    obtain rfl := hnil rfl
    have hrun := run_append_owned_none (P := P) (w := w) base t o.type e i 1 ht hi v n _ hown
    unfold Oper.wp
    simp [execOp, ho, resolve, invoke, builtin, hs, hx, hrun, Result.andThen]
    exact h v w (by simpa using hown) (World.grownBy.refl _ _)
  · obtain ⟨v', w', hr, h2, h3, _, _⟩ := run_append_own_at (P := P) w base t o.type e i z 1 bytes ht hi hz hsize hby hzs (by omega) v n _ hown ad ys.length c (ys.map (Value.int k)) (by simp) (rd_cells hrd) (ints_one _ _) h63 hbytes hbase
    unfold Oper.wp
    simp [execOp, ho, resolve, invoke, builtin, hs, hx, hr, Result.andThen]
    exact h v' w' (by rw [List.map_append]; exact h2) h3
end Go.Proofs.YthbimjkcpmffcaaGreat
/- The walk of the document's Look (layer 8). -/
namespace Go.Proofs.YthbimjkcpmffcaaGreat
open Go.RowKit
set_option linter.unusedVariables false
/-- A table as an argument. -/
structure TArg (w : World) (A : Option Addr) (T : List Vc) : Prop where
  rd : RdT w w.heap.size A T
  len : T.length ≤ 1048576
  each : ∀ v ∈ vecs T, v.length ≤ 1048576
theorem TArg.below {w w' : World} {A : Option Addr} {T : List Vc} (h : TArg w A T) (hb : Below w.heap.size w w') : TArg w' A T := ⟨(h.rd.below hb).more hb.size, h.len, h.each⟩
def lookB (t : List (List Int)) (code : List Int) : Bool := decide (lookOk t code)
theorem lookB_len {t : List (List Int)} {code : List Int} (h : ¬ code.length = t.length) : lookB t code = false := decide_eq_false (fun k => h k.1)
theorem lookB_at {t : List (List Int)} {code : List Int} {p : Nat} (hp : p < t.length) (h : ¬ cAt code p < (tAt t p).length) : lookB t code = false := decide_eq_false (fun k => h (k.2 p hp))
theorem lookB_mk {t : List (List Int)} {code : List Int} (h1 : code.length = t.length) (h2 : ∀ p, p < t.length → cAt code p < (tAt t p).length) : lookB t code = true := decide_eq_true ⟨h1, h2⟩
theorem lookA_no {t : List (List Int)} {code : List Int} (h : lookB t code = false) : lookA t code = 0 := if_neg (of_decide_eq_false h)
theorem lookA_yes {t : List (List Int)} {code : List Int} (h : lookB t code = true) : lookA t code = lookK t code t.length := if_pos (of_decide_eq_true h)
theorem vecs_tAt {L : List Vc} {i : Nat} {a : Option Addr} {c : Nat} {v : List Int} (h : L[i]? = some (a, c, v)) : tAt (vecs L) i = v := by unfold tAt; rw [vecs_at h]; rfl
end Go.Proofs.YthbimjkcpmffcaaGreat
