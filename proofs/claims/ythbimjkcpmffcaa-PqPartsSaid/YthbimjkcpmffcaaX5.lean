/- The walk of PqParts. -/
import Derived.Test.YthbimjkcpmffcaaX4
import Derived.Test.YthbimjkcpmffcaaWh
import Derived.Deep.QuietTactic
import Derived.BigQuiet
namespace Go.Proofs.Ythbimjkcpmffcaa
open Go.RowKit
set_option linter.unusedVariables false
theorem div_bounds {p n l : Nat} (h1 : 1 ≤ n) : l / n ≤ beg (p + 1) n l - beg p n l ∧ beg (p + 1) n l - beg p n l ≤ (l + n - 1) / n := by
  unfold beg
  have e : (p + 1) * l = p * l + l := by rw [Nat.add_mul]; omega
  rw [e]
  have h0 : 0 < n := h1
  obtain ⟨x, hx⟩ : ∃ x, p * l = x := ⟨_, rfl⟩
  rw [hx]
  have a1 := Nat.div_add_mod x n
  have a2 := Nat.mod_lt x h0
  have b1 := Nat.div_add_mod l n
  have b2 := Nat.mod_lt l h0
  have c1 := Nat.div_add_mod (x + l) n
  have c2 := Nat.mod_lt (x + l) h0
  constructor
  · have : x / n + l / n ≤ (x + l) / n := (Nat.le_div_iff_mul_le h0).2 (by
      rw [Nat.add_mul]
      have := Nat.div_mul_le_self x n
      have := Nat.div_mul_le_self l n
      omega)
    omega
  · have h3 : (x + l) / n < x / n + (l + n - 1) / n + 1 := by
      rw [Nat.div_lt_iff_lt_mul h0, Nat.add_mul, Nat.add_mul]
      have d1 := Nat.div_add_mod (l + n - 1) n
      have d2 := Nat.mod_lt (l + n - 1) h0
      rw [Nat.mul_comm] at a1 d1
      obtain ⟨u1, e1⟩ : ∃ u, x / n * n = u := ⟨_, rfl⟩
      obtain ⟨u2, e2⟩ : ∃ u, (l + n - 1) / n * n = u := ⟨_, rfl⟩
      obtain ⟨u3, e3⟩ : ∃ u, x % n = u := ⟨_, rfl⟩
      obtain ⟨u4, e4⟩ : ∃ u, (l + n - 1) % n = u := ⟨_, rfl⟩
      rw [e1, e3] at a1
      rw [e2, e4] at d1
      rw [e1, e2]
      rw [e3] at a2
      rw [e4] at d2
      omega
    obtain ⟨u1, e1⟩ : ∃ u, x / n = u := ⟨_, rfl⟩
    obtain ⟨u2, e2⟩ : ∃ u, (l + n - 1) / n = u := ⟨_, rfl⟩
    obtain ⟨u3, e3⟩ : ∃ u, (x + l) / n = u := ⟨_, rfl⟩
    rw [e1, e2, e3] at h3
    rw [e1, e2, e3]
    omega
set_option maxRecDepth 100000 in
set_option maxHeartbeats 4000000 in
theorem pqParts_main (hC : PqCheckSpec) (hE : PqEncodeSpec) (hD : PqDecodeSpec) (hT : PqTableSpec) (hL : PqLookSpec) (hTr : PqTrainSpec) (B : Option Addr) (d : Nat) (v : List Int) (Q : Nat) (w : World) (hx : GivenV w B d v) (hQ : Q ≤ 255) :
    Calls Try.prog 9 #[.slice B v.length d, .int .u8 Q] w fun e w' => e = .returned (.bool true) ∧ Below w.heap.size w w' := by
  have AL := Lib.hid (fun w => alive8_any hC hE hD hT hL w)
  have HTr := Lib.hid hTr
  have HX := Lib.hid hx
  clear hC hE hD hT hL hTr hx
  go_enter Try.func9, Try.ntmps9
  go_wp2_with fail
  refine (AL.out _).mono ?_
  rintro e w1 ⟨rfl, b1⟩
  have HX1 := Lib.hid (HX.out.below b1)
  have C1 := Lib.hid b1
  clear HX b1
  dsimp only
  by_cases hl0 : v.length = 0
  · have e1 : ((v.length : Int) == 0) = true := beq_iff_eq.2 (by omega)
    clear hl0
    go_wp2_with fail
    refine (AL.out _).mono ?_
    rintro e w9 ⟨rfl, b9⟩
    go_wp2
    go_ret
    exact ⟨rfl, C1.out.trans (b9.mono C1.out.size)⟩
  have e1 : ((v.length : Int) == 0) = false := by rw [beq_eq_false_iff_ne]; omega
  by_cases hl64 : 64 < v.length
  · have e2 : decide ((64 : Int) < (v.length : Int)) = true := decide_eq_true (by omega)
    clear hl0 hl64
    go_wp2_with fail
    refine (AL.out _).mono ?_
    rintro e w9 ⟨rfl, b9⟩
    go_wp2
    go_ret
    exact ⟨rfl, C1.out.trans (b9.mono C1.out.size)⟩
  have e2 : decide ((64 : Int) < (v.length : Int)) = false := decide_eq_false (by omega)
  obtain ⟨l, el⟩ : ∃ l, v.length = l := ⟨_, rfl⟩
  rw [el] at hl0 hl64 e1 e2 ⊢
  have HVL := Lib.hid el
  have hl : 1 ≤ l ∧ l ≤ 64 := by omega
  have n0 : ((l : Int) == 0) = false := e1
  have t1 : Int.tmod (Q : Int) (l : Int) = ((Q % l : Nat) : Int) := by rw [Int.tmod_eq_emod_of_nonneg (by omega)]; rfl
  have hm : Q % l < l := Nat.mod_lt _ (by omega)
  obtain ⟨m, em⟩ : ∃ m, Q % l = m := ⟨_, rfl⟩
  rw [em] at t1 hm
  have wQ : IntKind.i64.wrap (Q : Int) = (Q : Int) := by rw [IntKind.wrap_i64]; omega
  have t2 : (Q : Int) % (l : Int) = (m : Int) := by rw [← em]; rfl
  clear el em hl0 hl64
  go_wp2_with fail
  have b2 : Below w1.heap.size w1 (w1.alloc (.cells #[.slice B l d] 30)) := below_one (Below.refl _ _) _
  obtain ⟨n, en⟩ : ∃ n, m + 1 = n := ⟨_, rfl⟩
  have hn : 1 ≤ n ∧ n ≤ l := by omega
  have enI : (m : Int) + 1 = (n : Int) := by omega
  have hmv : mayB [v] = true ∧ dimOf [v] = v.length := mayB_of (by simp) (by simp) (by rw [HVL.out]; omega) (by rw [HVL.out]; omega) (fun u hu => by simp at hu; rw [hu])
  have hmp : mayP [v] (n : Int) 1 1 = true := decide_eq_true ⟨hmv.1, by omega, by rw [hmv.2, HVL.out]; omega, by omega, by omega, by simp, by omega, by omega⟩
  have TR : Calls Try.prog 34 #[.slice (some ⟨w1.heap.size, 0, none⟩) 1 1, .int .i64 n, .int .i64 1, .int .i64 1, .int .u64 0] (w1.alloc (.cells #[.slice B l d] 30)) (BAns (w1.alloc (.cells #[.slice B l d] 30)) n (bookL [v] n 1 1 0) 0) := by
    rw [← HVL.out]
    have q := HTr.out (some ⟨w1.heap.size, 0, none⟩) 1 [(B, d, v)] n 1 1 0 (w1.alloc (.cells #[.slice B v.length d] 30)) ⟨(one_rd 30 HX1.out.rd).more (by simp), by simp, fun u hu => by simp [vecs] at hu; rw [hu, HVL.out]; omega, fun u hu => by simp [vecs] at hu; rw [hu]; exact HX1.out.b8⟩ (fun x hx => by simp at hx; rw [hx]; exact HX1.out.room) (by omega)
    have e1 : partsA (vecs [(B, d, v)]) (n : Int) 1 1 = n := by unfold partsA; rw [show mayP (vecs [(B, d, v)]) (n : Int) 1 1 = true from hmp]; rfl
    have e2 : bookA (vecs [(B, d, v)]) (n : Int) 1 1 0 = bookL [v] n 1 1 0 := by unfold bookA; rw [show mayP (vecs [(B, d, v)]) (n : Int) 1 1 = true from hmp]; rfl
    rw [e1, e2, show mayP (vecs [(B, d, v)]) (n : Int) 1 1 = true from hmp] at q
    exact q
  have HTR := Lib.hid TR
  have HB2 := Lib.hid b2
  rw [enI]
  clear TR hmp hmv b2 t1 t2 enI en hm AL HTr n0 e1 e2 wQ
  refine HTR.out.mono ?_
  rintro e w3 ⟨A2, c2, T, rfl, o, ap, ew, b3⟩
  have hTl : T.length = n := by have := congrArg List.length ew; rwa [words_len, bookL_len] at this
  have cw3 : Below w1.heap.size w1 w3 := HB2.out.trans (b3.mono (by have := HB2.out.size; exact this))
  have b4 : Below w3.heap.size w3 (w3.alloc (.cells #[.int .i64 n, .slice A2 T.length c2] 24)) := below_one (Below.refl _ _) _
  have HRD := Lib.hid ((o.rd.below b4).more b4.size)
  have HX4 := Lib.hid ((HX1.out.below cw3).below b4)
  have C4 := Lib.hid ((C1.out.trans (cw3.mono C1.out.size)).trans (b4.mono (Nat.le_trans C1.out.size cw3.size)))
  have BY4 := Lib.hid (show Whole (w3.alloc (.cells #[.int .i64 n, .slice A2 T.length c2] 24)) w3.heap.size 24 #[.int .i64 n, .slice A2 T.length c2] from Whole.new w3 24 _)
  have HEW := Lib.hid ew
  rw [hTl] at HX4 C4 BY4 HRD ⊢
  have HTL := Lib.hid hTl
  clear hTl cw3 b4 o ap ew b3 HX1 C1 HTR HB2
  obtain ⟨h, eh⟩ : ∃ h, w3.heap.size = h := ⟨_, rfl⟩
  obtain ⟨w4, ew4⟩ : ∃ w4, w3.alloc (.cells #[.int .i64 n, .slice A2 n c2] 24) = w4 := ⟨_, rfl⟩
  dsimp only
  have nn : ((n : Int) != (n : Int)) = false := by simp
  rw [ew4] at HX4 C4 BY4 HRD
  rw [eh] at BY4
  have k0 : w4.cell? ⟨h, 0, none⟩ = some (.int .i64 n) := BY4.out.cell 0
  have k1 : w4.cell? ⟨h, 1, none⟩ = some (.slice A2 n c2) := BY4.out.cell 1
  have mixed : Try.prog.follows .mixedOrders = true := by kernel_rfl
  go_wp2
  clear ew4 eh
  obtain ⟨bv, ov, rfl⟩ := rd_some HX4.out.rd (by rw [HVL.out]; omega)
  have hroom := HX4.out.room
  rw [HVL.out] at hroom
  have HPB := Lib.hid (fun p (hp : p < n) => (parts_book (s := 0) (v := v) (n := n) hn.1 (by rw [HVL.out]; exact hn.2) (by rw [HVL.out]; exact hl.2) hp))
  go_loopw [8, 9] (fun a i wr => ∃ p nq : Nat, p ≤ n ∧ i = .int .i64 p ∧ a = .int .i64 ((beg p n l : Nat) : Int) ∧ wr = w4.drewN nq) (fun _ i _ => n - (intOf i).toNat)
  case atStart => exact ⟨0, 0, by omega, rfl, by rw [beg_zero]; rfl, rfl⟩
  case round =>
    obtain ⟨p, nq, hp, rfl, rfl, rfl⟩ := hrel
    by_cases hlt : p < n
    · have eL : decide ((p : Int) < (n : Int)) = true := decide_eq_true (by omega)
      obtain ⟨bT, oT, aM, cM, M, rfl, hbT, hcT, hrM, hvM⟩ := HRD.out.at_ (i := p) (by rw [HTL.out]; exact hlt)
      have hMv : vecs M = [partAt v p n] := by
        have h1 := words_pAt hvM.out
        rw [HEW.out, HPB.out p hlt] at h1
        exact h1.symm
      have hM1 : M.length = 1 := by have := congrArg List.length hMv; rwa [vecs_len] at this
      obtain ⟨bM, oM, a0, c0, u, rfl, hbM, hcM, hrU, hvU⟩ := hrM.at_ (i := 0) (by omega)
      rw [Nat.add_zero] at hcM
      have hU : u = partAt v p n := by have h1 := vecs_at hvU.out; rw [hMv] at h1; simpa using h1.symm
      have hul : u.length = beg (p + 1) n l - beg p n l := by rw [hU, part_len hn.1 hlt, HVL.out]
      have d1 := beg_step (p := p) (n := n) (d := l) hn.1 hn.2
      have d2 := beg_le (p := p + 1) (n := n) (d := l) hn.1 (by omega)
      have d3 := div_bounds (p := p) (n := n) (l := l) hn.1
      have d4 := (beg_val p n l hn.1 (by omega) hl.2)
      have hseg : Rd .i8 w4 w4.heap.size (some ⟨bv, ov + beg p n l, none⟩) u := by
        rw [hU]
        have := rd_seg (f := beg p n v.length) (t := beg (p + 1) n v.length) HX4.out.rd (by rw [HVL.out]; exact d2)
        rw [HVL.out] at this
        unfold partAt
        rw [HVL.out]
        exact this
      have HSEG := Lib.hid hseg
      have HRU := Lib.hid hrU
      rw [hM1] at hcT
      obtain ⟨f, ef⟩ : ∃ f, beg p n l = f := ⟨_, rfl⟩
      obtain ⟨kk, ek⟩ : ∃ kk, u.length = kk := ⟨_, rfl⟩
      rw [ef] at hul d1 d3 d4 HSEG ⊢
      rw [← hul, ek] at d3
      rw [ek] at hul hcM
      have en1 : beg (p + 1) n l = f + kk := by omega
      have HNX := Lib.hid en1
      have hfk : f + kk ≤ l ∧ 1 ≤ kk := by omega
      have HUL := Lib.hid ek
      clear hM1 hMv hvM hvU hrM hrU hU hseg hul d1 d2 ef en1 ek
      -- the numbers
      have x1 : (0 : Int) ≤ (p : Int) := by omega
      have x2 : (p : Int) < (n : Int) := by omega
      have n0 : ((n : Int) == 0) = false := by rw [beq_eq_false_iff_ne]; omega
      have q1 : Int.tdiv (l : Int) (n : Int) = ((l / n : Nat) : Int) := by rw [Int.tdiv_eq_ediv_of_nonneg (by omega)]; rfl
      have q1' : (l : Int) / (n : Int) = ((l / n : Nat) : Int) := rfl
      have q2 : ((l : Int) + (n : Int) - 1) / (n : Int) = (((l + n - 1) / n : Nat) : Int) := by
        rw [show (l : Int) + (n : Int) - 1 = ((l + n - 1 : Nat) : Int) by omega]; rfl
      obtain ⟨qa, eqa⟩ : ∃ qa, l / n = qa := ⟨_, rfl⟩
      obtain ⟨qb, eqb⟩ : ∃ qb, (l + n - 1) / n = qb := ⟨_, rfl⟩
      rw [eqa] at q1 q1' d3
      rw [eqb] at q2 d3
      have g1 : decide ((kk : Int) < (qa : Int)) = false := decide_eq_false (by omega)
      have g2 : decide ((qb : Int) < (kk : Int)) = false := decide_eq_false (by omega)
      have g1' : decide (kk < qa) = false := decide_eq_false (by omega)
      have g2' : decide (qb < kk) = false := decide_eq_false (by omega)
      have g3 : ((f : Int) != (f : Int)) = false := by simp
      have hqa : qa ≤ 64 := by omega
      have hqb : qb ≤ 128 := by rw [← eqb]; exact Nat.le_trans (Nat.div_le_self _ _) (by omega)
      have d5 := d4.2.2
      have d6 : p * l ≤ 4096 := d4.1
      have d7 : ((p * l : Nat) : Int) = (p : Int) * (l : Int) := by simp
      clear eqa eqb d3 d4
      obtain ⟨W, eW⟩ : ∃ W, w4.drewN nq = W := ⟨_, rfl⟩
      have HEW2 := Lib.hid eW
      have bW : Below w4.heap.size w4 W := by rw [← eW]; exact below_drewN (Below.refl _ _) nq
      have k1W : W.cell? ⟨h, 1, none⟩ = some (.slice (some ⟨bT, oT, none⟩) n c2) := (BY4.out.below bW BY4.out.lt).cell 1
      have hcTW : W.cell? ⟨bT, oT + p, none⟩ = some (.slice (some ⟨bM, oM, none⟩) 1 cM) := (bW.cell (p := ⟨bT, oT + p, none⟩) hbT).trans hcT
      have hcMW : W.cell? ⟨bM, oM, none⟩ = some (.slice a0 kk c0) := (bW.cell (p := ⟨bM, oM, none⟩) hbM).trans hcM
      have SC := Lib.hid (fun k => (by
        have q := same8_any a0 (some ⟨bv, ov + f, none⟩) c0 (d - f) u u (W.drewN k) _ (HRU.out.below (below_drewN bW k)) (HSEG.out.below (below_drewN bW k)) (by rw [HUL.out]; omega) (by rw [HUL.out]; omega)
        rw [HUL.out, show eqB u u = true from decide_eq_true rfl] at q
        exact q : Calls Try.prog 17 #[.slice a0 kk c0, .slice (some ⟨bv, ov + f, none⟩) kk (d - f)] (W.drewN k) fun e w' => e = .returned (.bool true) ∧ ∃ nq2, w' = (W.drewN k).drewN nq2))
      rw [eW]
      clear eW
      have hfd : ¬ d = f := by omega
      have hf0 : (0 : Int) ≤ (f : Int) := by omega
      have hf1 : (f : Int) ≤ (f : Int) + (kk : Int) := by omega
      have hf2 : (f : Int) + (kk : Int) ≤ (d : Int) := by omega
      go_wp2
      go_quiet ((go_at_call 17; with_reducible exact Calls.quiet_of (SC.out _)))
      go_wp2
      first
        | exact ⟨⟨p + 1, _, by omega, by go_num, by rw [HNX.out]; go_num, by rw [← HEW2.out]; exact drewN_drewN' _ _ _⟩, by simp [intOf]; omega⟩
        | (go_roundw
           case rel => exact ⟨p + 1, _, by omega, by go_num, by rw [HNX.out]; go_num, by rw [← HEW2.out]; exact drewN_drewN' _ _ _⟩
           case measure => simp [intOf]; omega)
    · obtain rfl : p = n := by omega
      have eL : decide ((p : Int) < (p : Int)) = false := decide_eq_false (by omega)
      have e3 : ((beg p p l : Nat) : Int) = (l : Int) := by rw [beg_all hn.1]
      rw [e3]
      have e4 : ((l : Int) == (l : Int)) = true := by simp
      go_wp2
      go_ret
      exact ⟨rfl, C4.out.trans ((below_drewN (Below.refl _ _) nq).mono C4.out.size)⟩
end Go.Proofs.Ythbimjkcpmffcaa
