/- Several texts in one. -/
import Derived.Test.YthbimjkcpmffcaaGreatPf
import Derived.Test.YthbimjkcpmffcaaGreatWt
import Derived.Test.YthbimjkcpmffcaaGreatNh
import Derived.Deep.AppendLies
import Derived.Test.YthbimjkcpmffcaaGreatZ0
import Derived.Test.YthbimjkcpmffcaaGreatAp
/- The walks of the statements' own helpers on books of codes: SameWords (books that are the same). -/
namespace Go.Proofs.YthbimjkcpmffcaaGreat
open Go.RowKit
set_option linter.unusedVariables false
set_option maxRecDepth 100000 in
set_option maxHeartbeats 2000000 in
theorem sameWords_any (P : Int) (A : Option Addr) (c : Nat) (L : List Pc) (B : Option Addr) (d : Nat) (M : List Pc) (w : World) (D1 D2 : Nat) (hx : RdP w D1 A L) (hy : RdP w D2 B M) (hd1 : D1 ≤ w.heap.size) (hd2 : D2 ≤ w.heap.size) (hv : words L = words M) (hs : PSmall L) :
    Calls Tryz.prog 28 #[.agg #[.int .i64 P, .slice A L.length c], .agg #[.int .i64 P, .slice B M.length d]] w fun e w' => e = .returned (.bool true) ∧ Below w.heap.size w w' := by
  have hLM : L.length = M.length := by rw [← words_len L, hv, words_len]
  rw [← hLM]
  have W1 := (Whole.new w 24 #[.int .i64 P, .slice A L.length c]).alloc (.cells #[.int .i64 P, .slice B L.length d] 24)
  have W2 : Whole ((w.alloc (.cells #[.int .i64 P, .slice A L.length c] 24)).alloc (.cells #[.int .i64 P, .slice B L.length d] 24)) (w.heap.size + 1) 24 #[.int .i64 P, .slice B L.length d] := by
    have := Whole.new (w.alloc (.cells #[.int .i64 P, .slice A L.length c] 24)) 24 #[.int .i64 P, .slice B L.length d]
    simpa using this
  have B0 : Below w.heap.size w ((w.alloc (.cells #[.int .i64 P, .slice A L.length c] 24)).alloc (.cells #[.int .i64 P, .slice B L.length d] 24)) := below_one (below_one (Below.refl _ _) _) _
  have HX := Lib.hid ((hx.more hd1).below B0)
  have HY := Lib.hid ((hy.more hd2).below B0)
  have HV := Lib.hid hv
  have HLM := Lib.hid hLM
  have HS := Lib.hid hs
  have hlen := hs.len
  have p0 : ((w.alloc (.cells #[.int .i64 P, .slice A L.length c] 24)).alloc (.cells #[.int .i64 P, .slice B L.length d] 24)).cell? ⟨w.heap.size, 0, none⟩ = some (.int .i64 P) := W1.cell 0
  have p1 : ((w.alloc (.cells #[.int .i64 P, .slice A L.length c] 24)).alloc (.cells #[.int .i64 P, .slice B L.length d] 24)).cell? ⟨w.heap.size, 1, none⟩ = some (.slice A L.length c) := W1.cell 1
  have q0 : ((w.alloc (.cells #[.int .i64 P, .slice A L.length c] 24)).alloc (.cells #[.int .i64 P, .slice B L.length d] 24)).cell? ⟨w.heap.size + 1, 0, none⟩ = some (.int .i64 P) := W2.cell 0
  have q1 : ((w.alloc (.cells #[.int .i64 P, .slice A L.length c] 24)).alloc (.cells #[.int .i64 P, .slice B L.length d] 24)).cell? ⟨w.heap.size + 1, 1, none⟩ = some (.slice B L.length d) := W2.cell 1
  have BB := Lib.hid B0
  clear hv hs hx hy W1 W2 B0 hLM hd1 hd2
  have ne : (P != P) = false := by simp
  have nl : ((L.length : Int) != (L.length : Int)) = false := by simp
  go_enter Tryz.func28, Tryz.ntmps28
  go_wp2
  obtain ⟨w1, e1⟩ : ∃ w1, (w.alloc (.cells #[.int .i64 P, .slice A L.length c] 24)).alloc (.cells #[.int .i64 P, .slice B L.length d] 24) = w1 := ⟨_, rfl⟩
  rw [e1] at HX HY BB p0 p1 q0 q1
  rw [e1]
  clear e1
  go_loopw [5] (fun i wr => ∃ k nq : Nat, k ≤ L.length ∧ i = .int .i64 k ∧ Hid (wr = w1.drewN nq)) (fun i _ => L.length - (intOf i).toNat)
  case atStart => exact ⟨0, 0, by omega, rfl, rfl⟩
  case round =>
    obtain ⟨k, nq0, hk, rfl, hwr⟩ := hrel
    have bw : ∀ D, Below D w1 wr := fun D => by rw [hwr.out]; exact below_drewN (Below.refl _ _) nq0
    have p1' : wr.cell? ⟨w.heap.size, 1, none⟩ = some (.slice A L.length c) := by rw [hwr.out]; exact p1
    have q1' : wr.cell? ⟨w.heap.size + 1, 1, none⟩ = some (.slice B L.length d) := by rw [hwr.out]; exact q1
    by_cases hlt : k < L.length
    · have eL : decide ((k : Int) < (L.length : Int)) = true := decide_eq_true (by omega)
      obtain ⟨b, off, a1, c1, N1, hA, hBk, hck, hG, hv1⟩ := (HX.out.below (bw _)).at_ hlt
      have hlt2 : k < M.length := by rw [← HLM.out]; exact hlt
      obtain ⟨b', off', a2, c2, N2, hB, hBk', hck', hG', hv2⟩ := (HY.out.below (bw _)).at_ hlt2
      rw [hA] at p1'
      rw [hB] at q1'
      have tv : vecs N2 = vecs N1 := by
        have h1 := words_at hv2.out
        rw [← HV.out, words_at hv1.out] at h1
        injection h1 with h1
        exact h1.symm
      have tl : N2.length = N1.length := by rw [← vecs_len, tv, vecs_len]
      rw [tl] at hck'
      have sm := HS.out.at_ (List.mem_of_getElem? hv1.out)
      have s1 := sm.len
      have SE := Lib.hid (fun q => (by
        have z := sameVecs_any a1 c1 N1 _ rfl a2 c2 N2 N1.length tl.symm (wr.drewN q) w.heap.size (hG.below (below_drewN (Below.refl _ wr) q)) (hG'.below (below_drewN (Below.refl _ wr) q)) (by have : N1.length ≤ 20000 := s1; omega) (by have : N1.length ≤ 20000 := s1; omega) (fun v h => by have := sm.vec h; omega) (fun v h => by rw [tv] at h; have := sm.vec h; omega)
        rw [tv] at z
        simpa using z : Calls Tryz.prog 88 #[.slice a1 N1.length c1, .slice a2 N1.length c2] (wr.drewN q) fun e w' => e = .returned (.bool true) ∧ ∃ nq, w' = (wr.drewN q).drewN nq))
      have g1 : (0 : Int) ≤ (k : Int) := by omega
      have g2 : (k : Int) < (L.length : Int) := by omega
      clear hG hG' tv sm s1 hv1 hv2 hA hB bw
      go_wp2
      go_quiet ((go_at_call 88; with_reducible exact Calls.quiet_of (SE.out _)))
      go_wp2
      go_roundw
      case rel => exact ⟨k + 1, _, by omega, by go_num, Lib.hid (by rw [hwr.out, World.drewN_drewN])⟩
      case measure => simp [intOf]; omega
    · obtain rfl : k = L.length := by omega
      have eL : decide ((L.length : Int) < (L.length : Int)) = false := decide_eq_false (by omega)
      have HBE := Lib.hid (BB.out.trans ((bw w1.heap.size).mono BB.out.size))
      clear bw hwr
      go_wp2
      go_ret
      exact ⟨rfl, HBE.out⟩
end Go.Proofs.YthbimjkcpmffcaaGreat
/- The walk of the document's Train (layer 8). -/
namespace Go.Proofs.YthbimjkcpmffcaaGreat
open Go.RowKit
set_option linter.unusedVariables false
/-- The document's answer that is a book. -/
def RBAns (w : World) (n : Int) (ps : List (List (List Int))) (E : Int) (e : Ending) (w' : World) : Prop :=
  ∃ A c L, e = .returned (.tuple #[.agg #[.int .i64 n, .slice A (L : List Pc).length c], .int .i64 E]) ∧ OwnP w' w.heap.size A c L ∧ words L = ps ∧ Below w.heap.size w w'
theorem RBAns.no (w : World) {vs : List (List Int)} {n k r : Int} {s : Nat} {w' : World} (h : mayP vs n k r = false) (hb : Below w.heap.size w w') : RBAns w (partsA vs n k r) (bookA vs n k r s) (errE (mayP vs n k r)) (.returned (.tuple #[.agg #[.int .i64 0, .slice none 0 0], .int .i64 1])) w' :=
  ⟨none, 0, [], by unfold partsA; rw [h]; rfl, OwnP.nil _ _, by unfold bookA; rw [h]; rfl, hb⟩
theorem arg_twin {w : World} {base g r : Nat} {T L : List Vc} (h : TwinV w base g r T) (hv : vecs T = vecs L) (s : Small L) (b : B8 (vecs L)) : VArg w (some ⟨g, 0, none⟩) T :=
  ⟨h.rd, by have := s.len; rw [← vecs_len, hv, vecs_len]; omega, fun v hv' => by rw [hv] at hv'; have := s.vec hv'; omega, by rw [hv]; exact b⟩
theorem trainA_len (vs : List (List Int)) (k r : Int) (s : Nat) (b : B8 vs) : (trainA vs k r s).length ≤ 64 ∧ (∀ v ∈ trainA vs k r s, v.length ≤ 64) ∧ B8 (trainA vs k r s) := by
  unfold trainA
  cases h : mayTB vs k r with
  | false => exact ⟨by simp, fun v hv => by simp at hv, fun v hv => by simp at hv⟩
  | true =>
    obtain ⟨h1, h2, h3, h4, _⟩ := mayTB_yes h
    have hmm := stepsL_may (firstL_may (s := s) (k := k.toNat) h1 (by omega) (by omega) (by omega)) r.toNat
    have hm := mayM_yes hmm
    have hb := mayB_yes hm.2.1
    exact ⟨hm.1, fun v hv => by rw [mayB_len hm.2.1 v hv]; exact hb.2.2.2.1, stepsL_b8 (fun v hv => b v (firstL_mem hv)) b _⟩
theorem refTrain_arg (A : Option Addr) (c : Nat) (L : List Vc) (k r : Int) (s : Nat) (w : World) (hx : VArg w A L) (hs : s < 18446744073709551616) :
    Calls Tryz.prog 87 #[.slice A L.length c, .int .i64 k, .int .i64 r, .int .u64 s] w fun e w' => ∃ A' c' L', e = .returned (.tuple #[.slice A' (L' : List Vc).length c', .int .i64 (errE (mayTB (vecs L) k r))]) ∧ OwnV w' w.heap.size A' c' L' ∧ vecs L' = trainA (vecs L) k r s ∧ Below w.heap.size w w' := by
  cases h : mayTB (vecs L) k r with
  | false =>
    refine (rTrain_no A c L _ rfl k r s w _ hx.rd (by have := hx.len; omega) (mayTB_no h)).mono ?_
    rintro e w' ⟨rfl, nq, rfl⟩
    exact ⟨none, 0, [], rfl, OwnV.nil _ _, by unfold trainA; rw [h]; rfl, below_drewN (Below.refl _ _) nq⟩
  | true =>
    obtain ⟨h1, h2, h3, h4, h5, h6⟩ := mayTB_yes h
    obtain ⟨k, rfl⟩ : ∃ n : Nat, k = n := ⟨k.toNat, by omega⟩
    obtain ⟨r, rfl⟩ : ∃ n : Nat, r = n := ⟨r.toNat, by omega⟩
    rw [vecs_len] at h4
    refine (rTrain_yes A c L _ rfl k r s w hs hx.rd h1 (by omega) (by omega) (by omega) (by omega) hx.b8).mono ?_
    rintro e w' ⟨A', c', L', rfl, q1, q2, q3⟩
    exact ⟨A', c', L', rfl, q1, by rw [q2]; unfold trainA; rw [h]; rfl, q3⟩
/-- What the document's Train keeps from part to part. -/
structure RnSt (w : World) (g S n k r s : Nat) (vs : List (List Int)) (p : Nat) (W : World) : Prop where
  bel : Below g w W
  res : Whole W g 24 #[.int .i64 0, .slice none 0 0]
  own : ∃ A c T, Whole W (g + 1) 24 #[.int .i64 n, .slice A (T : List Pc).length c] ∧ OwnP W S A c T ∧ words T = bookK vs n k r s p
  size : S ≤ W.heap.size
/-- What was gathered of a part. -/
structure SubSt (w wr : World) (base : Nat) (A : Option Addr) (c : Nat) (Su : List Vc) (ws : List (List Int)) : Prop where
  row : wr.ownsRow base 25 1 (.slice A Su.length c) Su.length (cellsV Su)
  rd : ∀ x ∈ Su, Rd .i8 w w.heap.size x.1 x.2.2
  is : vecs Su = ws
theorem SubSt.arg {w wr : World} {base N p : Nat} {A : Option Addr} {c : Nat} {Su : List Vc} {vs : List (List Int)} (h : SubSt w wr base A c Su (subL vs p N)) (hb : Below w.heap.size w wr) (hm : mayB vs = true) (hb8 : B8 vs) (h1 : 1 ≤ N) (h2 : N ≤ dimOf vs) (hp : p < N) : VArg wr A Su ∧ ∀ k r, mayTB (vecs Su) k r = lawK vs k r := by
  have hs := sub_may hm h1 h2 hp
  have hl : Su.length = vs.length := by have := congrArg List.length h.is; rwa [vecs_len, sub_len] at this
  have hmb := mayB_yes hm
  refine ⟨⟨row_rdV h.row (fun x hx => ((h.rd x hx).below hb).more hb.size), by omega, fun v hv => ?_, by rw [h.is]; exact part_B8 hb8⟩, fun k r => ?_⟩
  · rw [h.is] at hv
    have := mayB_len hs.1 v hv
    have := mayB_yes hs.1
    omega
  · rw [h.is, mayTB_law hs.1]
    unfold lawK
    rw [sub_len]
theorem subK_succ {vs : List (List Int)} {p N q : Nat} {v : List Int} (h : vs[q]? = some v) : (subL vs p N).take (q + 1) = (subL vs p N).take q ++ [partAt v p N] := by
  rw [List.take_add_one]
  unfold subL
  rw [List.getElem?_map, h]; rfl
set_option maxRecDepth 100000 in
set_option maxHeartbeats 4000000 in
theorem rPqTrain_any (A : Option Addr) (c : Nat) (L : List Vc) (n k r : Int) (s : Nat) (w : World) (hx : VArg w A L) (hr : RoomOk L) (hs : s < 18446744073709551616) :
    Calls Tryz.prog 27 #[.slice A L.length c, .int .i64 n, .int .i64 k, .int .i64 r, .int .u64 s] w (RBAns w (partsA (vecs L) n k r) (bookA (vecs L) n k r s) (errE (mayP (vecs L) n k r))) := by
  have b1 := box1 w (.int .i64 0) (.slice none 0 0) 24
  have TG := together_any A c L _ rfl _ _ ((hx.below b1.2.1).rd) (by have := hx.len; omega)
  have HX := Lib.hid (hx.below b1.2.1)
  have HXW := Lib.hid hx
  have HR := Lib.hid hr
  have HS := Lib.hid hs
  have HB := Lib.hid b1.2.1
  have HW := Lib.hid b1.1
  have hlen := hx.len
  clear hx hr hs b1
  cases hm : mayB (vecs L) with
  | false =>
    have E := Lib.hid (show mayP (vecs L) n k r = false by unfold mayP; rw [hm]; simp)
    rw [hm] at TG
    have HTG := Lib.hid TG
    clear hm TG
    go_enter Tryz.func27, Tryz.ntmps27
    go_wp2_with fail
    refine HTG.out.mono ?_
    rintro e w1 ⟨rfl, nq, rfl⟩
    have cz : ((w.alloc (.cells #[.int .i64 0, .slice none 0 0] 24)).drewN nq).cell? ⟨w.heap.size, 0, none⟩ = some (.int .i64 0) := HW.out.cell 0
    have cy : ((w.alloc (.cells #[.int .i64 0, .slice none 0 0] 24)).drewN nq).cell? ⟨w.heap.size, 1, none⟩ = some (.slice none 0 0) := HW.out.cell 1
    have fz : ((w.alloc (.cells #[.int .i64 0, .slice none 0 0] 24)).drewN nq).frozen? ⟨w.heap.size, 0, none⟩ = false := HW.out.frozen 0
    have fy : ((w.alloc (.cells #[.int .i64 0, .slice none 0 0] 24)).drewN nq).frozen? ⟨w.heap.size, 1, none⟩ = false := HW.out.frozen 1
    go_wp2
    refine bodyPost_ret (v := .tuple #[.agg #[.int .i64 0, .slice none 0 0], .int .i64 1]) (by rw [resCellT rfl]; go_simp) rfl ?_
    exact RBAns.no w E.out (((below_drewN HB.out nq).setCell (p := ⟨w.heap.size, 0, none⟩) (Nat.le_refl _) _).setCell (p := ⟨w.heap.size, 1, none⟩) (Nat.le_refl _) _)
  | true =>
    have hmy := mayB_yes hm
    have HDM := Lib.hid (mayB_len hm)
    rw [vecs_len] at hmy
    rw [hm] at TG
    have HTG := Lib.hid TG
    obtain ⟨b0, o0, a0, c0, v0, hA0, hB0, hck0, hrd0, hv0⟩ := HX.out.rd.at_ (i := 0) (by omega)
    have hd0 : v0.length = dimOf (vecs L) := HDM.out v0 (List.mem_of_getElem? (vecs_at hv0.out))
    rw [Nat.add_zero] at hck0
    have HM := Lib.hid hm
    by_cases hn1 : n < 1
    · have E := Lib.hid (show mayP (vecs L) n k r = false by unfold mayP; exact decide_eq_false (fun h => by have := h.2.1; omega))
      have e1 : decide (n < 1) = true := decide_eq_true hn1
      subst hA0
      clear hm TG hrd0 hv0 hn1 hmy hd0
      go_enter Tryz.func27, Tryz.ntmps27
      go_wp2_with fail
      refine HTG.out.mono ?_
      rintro e w1 ⟨rfl, nq, rfl⟩
      go_wp2
      refine bodyPost_ret (v := .tuple #[.agg #[.int .i64 0, .slice none 0 0], .int .i64 1]) (by rw [resCellT rfl]; go_simp) rfl ?_
      exact RBAns.no w E.out (((below_drewN HB.out nq).setCell (p := ⟨w.heap.size, 0, none⟩) (Nat.le_refl _) _).setCell (p := ⟨w.heap.size, 1, none⟩) (Nat.le_refl _) _)
    · have e1 : decide (n < 1) = false := decide_eq_false hn1
      by_cases hn2 : (v0.length : Int) < n
      · have E := Lib.hid (show mayP (vecs L) n k r = false by unfold mayP; exact decide_eq_false (fun h => by have := h.2.2.1; omega))
        have e2 : decide ((v0.length : Int) < n) = true := decide_eq_true hn2
        have hL0 : (0 : Int) < (L.length : Int) := by omega
        subst hA0
        have HCK := Lib.hid hck0
        clear hm TG hrd0 hv0 hn1 hmy hd0 hn2 hck0
        go_enter Tryz.func27, Tryz.ntmps27
        go_wp2_with fail
        refine HTG.out.mono ?_
        rintro e w1 ⟨rfl, nq, rfl⟩
        have hcn : ((w.alloc (.cells #[.int .i64 0, .slice none 0 0] 24)).drewN nq).cell? ⟨b0, o0, none⟩ = some (.slice a0 v0.length c0) := HCK.out
        go_wp2
        refine bodyPost_ret (v := .tuple #[.agg #[.int .i64 0, .slice none 0 0], .int .i64 1]) (by rw [resCellT rfl]; go_simp) rfl ?_
        exact RBAns.no w E.out (((below_drewN HB.out nq).setCell (p := ⟨w.heap.size, 0, none⟩) (Nat.le_refl _) _).setCell (p := ⟨w.heap.size, 1, none⟩) (Nat.le_refl _) _)
      · have e2 : decide ((v0.length : Int) < n) = false := decide_eq_false hn2
        have hL0 : (0 : Int) < (L.length : Int) := by omega
        obtain ⟨N, rfl⟩ := Int.eq_ofNat_of_zero_le (show 0 ≤ n by omega)
        have hN : 1 ≤ N ∧ N ≤ dimOf (vecs L) ∧ N ≤ 64 ∧ dimOf (vecs L) ≤ 64 := by omega
        rw [hd0] at hck0 hn2
        clear e2
        have e3 : decide (dimOf (vecs L) < N) = false := decide_eq_false (by omega)
        have e2 : decide ((dimOf (vecs L) : Int) < (N : Int)) = false := decide_eq_false hn2
        have HDM2 := Lib.hid hm
        obtain ⟨dm, edm⟩ : ∃ dm, dimOf (vecs L) = dm := ⟨_, rfl⟩
        rw [edm] at hck0 e2 e3 hN
        have HED := Lib.hid edm
        have HN := Lib.hid hN
        have hN64 : N ≤ 64 := hN.2.2.1
        have hL2 : L.length ≤ 2048 := by omega
        subst hA0
        have HCK := Lib.hid hck0
        have HVL := Lib.hid (vecs_len L)
        obtain ⟨i0, hi, hz0, hz1, hz2⟩ := info_parts Tryz.info25v
        obtain ⟨i1, hi1, hy0, hy1, hy2⟩ := info_parts info70z
        clear hm TG hrd0 hv0 hn1 hmy hn2 hck0 hN hlen hd0 edm
        go_enter Tryz.func27, Tryz.ntmps27
        go_wp2_with fail
        refine HTG.out.mono ?_
        rintro e w1 ⟨rfl, nq, rfl⟩
        have hcn : ((w.alloc (.cells #[.int .i64 0, .slice none 0 0] 24)).drewN nq).cell? ⟨b0, o0, none⟩ = some (.slice a0 dm c0) := HCK.out
        go_wp2
        clear hcn e3 e2 e1
        have b2 := (below_drewN HB.out nq).alloc (by exact (below_drewN HB.out nq).size) (.cells #[.int .i64 (N : Int), .slice none 0 0] 24)
        have x2 : Whole (((w.alloc (.cells #[.int .i64 0, .slice none 0 0] 24)).drewN nq).alloc (.cells #[.int .i64 (N : Int), .slice none 0 0] 24)) (w.heap.size + 1) 24 #[.int .i64 (N : Int), .slice none 0 0] := by
          have := Whole.new ((w.alloc (.cells #[.int .i64 0, .slice none 0 0] 24)).drewN nq) 24 #[.int .i64 (N : Int), .slice none 0 0]
          simpa using this
        have x1 : Whole (((w.alloc (.cells #[.int .i64 0, .slice none 0 0] 24)).drewN nq).alloc (.cells #[.int .i64 (N : Int), .slice none 0 0] 24)) w.heap.size 24 #[.int .i64 0, .slice none 0 0] := (HW.out.below (below_drewN (Below.refl _ _) nq) HW.out.lt).alloc _
        obtain ⟨wS, ewS⟩ : ∃ wS, ((w.alloc (.cells #[.int .i64 0, .slice none 0 0] 24)).drewN nq).alloc (.cells #[.int .i64 (N : Int), .slice none 0 0] 24) = wS := ⟨_, rfl⟩
        rw [ewS] at b2 x1 x2 ⊢
        obtain ⟨g, eg⟩ : ∃ g, w.heap.size = g := ⟨_, rfl⟩
        obtain ⟨S, eS⟩ : ∃ S, wS.heap.size = S := ⟨_, rfl⟩
        have gS : g + 1 < S := by have := x2.lt; omega
        have st0 : RnSt w g S N k.toNat r.toNat s (vecs L) 0 wS := ⟨by rw [← eg]; exact b2, by rw [← eg]; exact x1, ⟨none, 0, [], by rw [← eg]; exact x2, OwnP.nil _ _, rfl⟩, by omega⟩
        rw [eg]
        have HG := Lib.hid eg
        clear eg ewS b2 x1 x2 eS HTG HW HCK HB HX
        go_loopw [14] (fun i wr => ∃ p : Nat, p ≤ N ∧ i = .int .i64 p ∧ Hid (lawK (vecs L) k r = true ∨ p = 0) ∧ Hid (RnSt w g S N k.toNat r.toNat s (vecs L) p wr)) (fun i _ => N - (intOf i).toNat)
        case atStart => exact ⟨0, by omega, rfl, Lib.hid (.inr rfl), st0⟩
        case round =>
          clear st0
          obtain ⟨p, hp, rfl, HLK, HS0⟩ := hrel
          by_cases hlt : p < N
          · have eL : decide ((p : Int) < (N : Int)) = true := decide_eq_true (by omega)
            have hdm := HN.out.2.2.2
            have BG1 : Hid (∀ (W : World), Calls Tryz.prog 35 #[.int .i64 ((p : Int) + 1), .int .i64 (N : Int), .int .i64 (dm : Int)] W fun e w' => e = .returned (.int .i64 ((beg (p + 1) N dm : Nat) : Int)) ∧ w' = W) := Lib.hid (fun W => by
              have := begins_any (p + 1) N dm HN.out.1 (by omega) (by omega) hdm W
              rw [show ((p + 1 : Nat) : Int) = (p : Int) + 1 by omega] at this
              exact this.mono fun _ _ h => ⟨h.1, h.2.symm⟩)
            have BG0 : Hid (∀ W, Calls Tryz.prog 35 #[.int .i64 (p : Int), .int .i64 (N : Int), .int .i64 (dm : Int)] W fun e w' => e = .returned (.int .i64 ((beg p N dm : Nat) : Int)) ∧ w' = W) := Lib.hid (fun W => (begins_any p N dm HN.out.1 (by omega) (by omega) hdm W).mono fun _ _ h => ⟨h.1, h.2.symm⟩)
            have BS := beg_step (p := p) (n := N) (d := dm) HN.out.1 HN.out.2.1
            have hbl : beg (p + 1) N dm ≤ dm := beg_le HN.out.1 (by omega)
            have HPT := Lib.hid (fun (v : List Int) (h : v.length = dm) => (by unfold partAt; rw [h] : partAt v p N = seg v (beg p N dm) (beg (p + 1) N dm)))
            obtain ⟨y1, ey1⟩ : ∃ y, beg (p + 1) N dm = y := ⟨_, rfl⟩
            obtain ⟨y0, ey0⟩ : ∃ y, beg p N dm = y := ⟨_, rfl⟩
            rw [ey1] at BG1 BS hbl HPT
            rw [ey0] at BG0 BS HPT
            have wk1 : IntKind.i64.wrap ((p : Int) + 1) = (p : Int) + 1 := by rw [IntKind.wrap_i64]; omega
            have g3 : (0 : Int) ≤ (y0 : Int) := by omega
            have g4 : (y0 : Int) ≤ (y1 : Int) := by omega
            clear ey0 ey1
            go_wp2
            have C0 : Hid (SubSt w wr wr.heap.size none 0 [] ((subL (vecs L) p N).take 0)) := Lib.hid ⟨own_nil_row _ _ _, fun x hx => by simp at hx, by simp [vecs]⟩
            have C1 : Hid (Below wr.heap.size wr wr) := Lib.hid (Below.refl _ _)
            obtain ⟨wo, ewo⟩ : ∃ wo : World, wo = wr := ⟨_, rfl⟩
            subst ewo
            go_loopw [15, 16] (fun sl i w2 => ∃ (q : Nat) (SA : Option Addr) (sc : Nat) (Su : List Vc), q ≤ L.length ∧ i = .int .i64 q ∧ sl = .slice SA Su.length sc ∧ Hid (Su.length = q) ∧ Hid (SubSt w w2 wo.heap.size SA sc Su ((subL (vecs L) p N).take q)) ∧ Hid (Below wo.heap.size wo w2)) (fun _ i _ => L.length - (intOf i).toNat)
            case atStart => exact ⟨0, none, 0, [], by omega, rfl, rfl, Lib.hid rfl, C0, C1⟩
            case round =>
              clear C0 C1
              obtain ⟨q, SA, sc, Su, hq, rfl, rfl, HSQ, HU, HBW⟩ := hrel
              have hgw : g ≤ wo.heap.size := by rw [← HG.out]; exact HS0.out.bel.size
              have hS2 : Su.length ≤ 2048 := by have := HSQ.out; omega
              by_cases hqt : q < L.length
              · have eq : decide ((q : Int) < (L.length : Int)) = true := decide_eq_true (by omega)
                obtain ⟨bq, oq, av, cv, v, hAq, hBq, hcq, hrq, hvq⟩ := HXW.out.rd.at_ hqt
                simp only [Option.some.injEq, Addr.mk.injEq, and_true] at hAq
                obtain ⟨rfl, rfl⟩ := hAq
                have hvm : v ∈ vecs L := List.mem_of_getElem? (vecs_at hvq.out)
                have hvl : v.length = dm := (HDM.out v hvm).trans HED.out
                have hcv := HR.out _ (List.mem_of_getElem? hvq.out)
                have hcv1 : v.length ≤ cv := hcv.1
                have hcv2 : cv ≤ 9223372036854775807 := hcv.2
                obtain ⟨bv, ov, rfl, -, -⟩ := hrq (by omega)
                rw [hvl] at hcq
                have HCL : Hid (∀ W, Below wo.heap.size wo W → W.cell? ⟨b0, o0 + q, none⟩ = some (.slice (some ⟨bv, ov, none⟩) dm cv) ∧ Below wo.heap.size wo W) := Lib.hid (fun W h =>
                  ⟨((HS0.out.bel.trans (h.mono hgw)).cell (p := ⟨b0, o0 + q, none⟩) (by rw [← HG.out]; exact hBq)).trans hcq, h⟩)
                have HUP : Hid (∀ W, Below wr.heap.size wr W → Below wo.heap.size wo W) := Lib.hid (fun W h => HBW.out.trans (h.mono HBW.out.size))
                have BG1' := Lib.hid (fun (W : World) (hb : Below wr.heap.size wr W) => ((BG1.out W).mono fun e w' h => (by obtain ⟨r1, rfl⟩ := h; exact ⟨r1, hb, HCL.out w' (HUP.out _ hb)⟩ : e = .returned (.int .i64 (y1 : Int)) ∧ Below wr.heap.size wr w' ∧ w'.cell? ⟨b0, o0 + q, none⟩ = some (.slice (some ⟨bv, ov, none⟩) dm cv) ∧ Below wo.heap.size wo w')))
                have BG0' := Lib.hid (fun (W : World) (hb : Below wr.heap.size wr W) => ((BG0.out W).mono fun e w' h => (by obtain ⟨r1, rfl⟩ := h; exact ⟨r1, hb, HCL.out w' (HUP.out _ hb)⟩ : e = .returned (.int .i64 (y0 : Int)) ∧ Below wr.heap.size wr w' ∧ w'.cell? ⟨b0, o0 + q, none⟩ = some (.slice (some ⟨bv, ov, none⟩) dm cv) ∧ Below wo.heap.size wo w')))
                have HSG := Lib.hid (show (seg v y0 y1).length = y1 - y0 from seg_len (by omega))
                have HIS := Lib.hid (show (subL (vecs L) p N).take (q + 1) = (subL (vecs L) p N).take q ++ [seg v y0 y1] by rw [subK_succ (vecs_at hvq.out), HPT.out v hvl])
                have HRS := Lib.hid (rd_seg (f := y0) (t := y1) hrq (by omega))
                have h1d : Below wr.heap.size wr wr.drew := (Below.refl _ _).drew
                obtain ⟨c0d, c1d⟩ := HCL.out wr.drew (HUP.out _ h1d)
                have g1 : (0 : Int) ≤ (q : Int) := by omega
                have g2 : (q : Int) < (L.length : Int) := by omega
                have g5 : (y1 : Int) ≤ (cv : Int) := by omega
                have dn : (cv = y0) = False := by simp; omega
                have bw := HBW.out.size
                have HRW := Lib.hid HU.out.row
                clear BG0 BG1 hvm hvl hcv hcq hrq hvq hBq
                go_wp2
                go_region_held3 (fun w' => w'.cell? ⟨b0, o0 + q, none⟩ = some (.slice (some ⟨bv, ov, none⟩) dm cv) ∧ Below wo.heap.size wo w')
                  (first | exact ⟨by with_reducible assumption, by with_reducible assumption⟩ | exact HCL.out _ (HUP.out _ (below_one (by with_reducible assumption) _)))
                  (first
                    | (go_at_call 35; (with_reducible refine (BG1'.out _ (by with_reducible assumption)).mono ?_); rintro e w2 ⟨rfl, kab, ka0, ka1⟩)
                    | (go_at_call 35; (with_reducible refine (BG0'.out _ (by with_reducible assumption)).mono ?_); rintro e w3 ⟨rfl, kcb, kc0, kc1⟩)
                    | (refine step_append_lies _ (by rfl) _ _ _ (by rfl) wo.heap.size 25 i0 (.slice none 0 0) 1 24 Tryz.underlying62 hi hz0 hz1 hz2 rfl (by omega) (.slice SA Su.length sc) Su.length (cellsV Su) (by rfl) (own_below HRW.out (below_one kab _)) ⟨w2.heap.size, 0, none⟩ 1 1 [.slice (some ⟨bv, ov + y0, none⟩) (y1 - y0) (cv - y0)] (by rfl) (by rfl) (World.news_of_block (cs := #[.slice (some ⟨bv, ov + y0, none⟩) (y1 - y0) (cv - y0)]) (t := 25) (fr := (0, 0)) (heap_alloc_new w2 _)) (by simp [Value.oneCell']) (by omega) (by unfold maxLen; omega) (by omega) (by have h1 := kab.size; rw [World.size_alloc]; omega) (w2.heap.size + 1) (by simp) ?_; intro gg gcap w6 hown6 hgrow6 hat6 hlt6
                       have b6 : Below wo.heap.size wo w6 := (HUP.out _ (below_one kab _)).grown hgrow6 (by have h1 := kab.size; rw [World.size_alloc]; omega) (fun r hr => (HRW.out.lt r hr).1)
                       obtain ⟨kf0, kf1⟩ := HCL.out w6 b6)
                    | fail)
                all_goals
                  have HU6 : Hid (SubSt w w6 wo.heap.size (some ⟨gg, 0, none⟩) gcap (Su ++ [(some ⟨bv, ov + y0, none⟩, cv - y0, seg v y0 y1)]) ((subL (vecs L) p N).take (q + 1))) := Lib.hid (by
                    refine ⟨?_, fun x hx => ?_, ?_⟩
                    · rw [List.length_append, List.length_singleton, show cellsV (Su ++ [(some ⟨bv, ov + y0, none⟩, cv - y0, seg v y0 y1)]) = cellsV Su ++ [.slice (some ⟨bv, ov + y0, none⟩) (y1 - y0) (cv - y0)] by simp [cellsV, HSG.out]]
                      exact hown6
                    · rcases List.mem_append.1 hx with h1 | h1
                      · exact HU.out.rd x h1
                      · rw [List.mem_singleton] at h1
                        subst h1
                        exact HRS.out
                    · rw [vecs_snoc, HU.out.is, HIS.out])
                  have HB6 := Lib.hid b6
                  have HQ6 := Lib.hid (show (Su ++ [((some ⟨bv, ov + y0, none⟩ : Option Addr), cv - y0, seg v y0 y1)]).length = q + 1 by rw [List.length_append, HSQ.out]; rfl)
                  have HQL := Lib.hid (show Su.length + 1 = (Su ++ [((some ⟨bv, ov + y0, none⟩ : Option Addr), cv - y0, seg v y0 y1)]).length by rw [List.length_append]; rfl)
                  clear hown6 hgrow6 hat6 hlt6 b6 kf0 kf1 c0d c1d h1d HU HRW
                  go_wp2
                  go_roundw
                  case rel => exact ⟨q + 1, some ⟨gg, 0, none⟩, gcap, _, by omega, by go_num, by rw [HQL.out], HQ6, HU6, HB6⟩
                  case measure => simp [intOf]; omega
              · obtain rfl : q = L.length := by omega
                have eq : decide ((L.length : Int) < (L.length : Int)) = false := decide_eq_false (by omega)
                have hU : SubSt w wr wo.heap.size SA sc Su (subL (vecs L) p N) := by
                  have h := HU.out
                  rw [List.take_of_length_le (by rw [sub_len, HVL.out]; exact Nat.le_refl _)] at h
                  exact h
                have bwr : Below g w wr := HS0.out.bel.trans (HBW.out.mono hgw)
                have ga := hU.arg (by rw [← HG.out] at bwr; exact bwr) HM.out HXW.out.b8 HN.out.1 (by rw [HED.out]; exact HN.out.2.1) hlt
                have TR := refTrain_arg SA sc Su k r ((s + p) % 18446744073709551616) wr ga.1 (Nat.mod_lt _ (by decide))
                rw [ga.2 k r, hU.is] at TR
                have hmt := ga.2 k r
                rw [hU.is] at hmt
                have u0 : IntKind.u64.wrap (p : Int) = (p : Int) := by rw [IntKind.wrap_u64]; omega
                have u1 : IntKind.u64.wrap ((s : Int) + (p : Int)) = (((s + p) % 18446744073709551616 : Nat) : Int) := by rw [IntKind.wrap_u64]; omega
                have hres := HS0.out.res.below HBW.out HS0.out.res.lt
                obtain ⟨AT, cT, T, hbx, hoP, hwd⟩ := HS0.out.own
                have hbx2 := hbx.below HBW.out hbx.lt
                have hoP2 := hoP.below HBW.out
                have HBWR := Lib.hid bwr
                have HRES := Lib.hid hres
                have HBX := Lib.hid hbx2
                have HOP := Lib.hid hoP2
                have hSw : S ≤ wr.heap.size := Nat.le_trans HS0.out.size HBW.out.size
                have hgr : g ≤ wr.heap.size := Nat.le_trans hgw HBW.out.size
                have HHS := Lib.hid hSw
                have HHG := Lib.hid hgr
                obtain ⟨sd, esd⟩ : ∃ sd, (s + p) % 18446744073709551616 = sd := ⟨_, rfl⟩
                rw [esd] at u1 TR
                cases hk : lawK (vecs L) k r with
                | false =>
                  have E := Lib.hid (show mayP (vecs L) (N : Int) k r = false by rw [mayP_law, hk, Bool.and_false])
                  rw [hk, show errE false = 1 from rfl] at TR
                  have HTR := Lib.hid TR
                  clear hk TR hU bwr ga hmt hres hbx hoP hwd hbx2 hoP2 esd hSw hgr
                  go_wp2_with (go_at_call 87; refine HTR.out.mono ?_; rintro e w4 ⟨A4, c4, L4, rfl, ho4, hv4, hb4⟩
                               have HB4 := Lib.hid hb4
                               have z4 := HRES.out.below hb4 HRES.out.lt
                               have c40 : w4.cell? ⟨g, 0, none⟩ = some (.int .i64 0) := z4.cell 0
                               have c41 : w4.cell? ⟨g, 1, none⟩ = some (.slice none 0 0) := z4.cell 1
                               have f40 := z4.frozen 0
                               have f41 := z4.frozen 1
                               clear hb4 ho4 hv4)
                  refine bodyPost_ret (v := .tuple #[.agg #[.int .i64 0, .slice none 0 0], .int .i64 1]) (by rw [resCellT rfl]; go_simp) rfl ?_
                  have hb : Below g w w4 := HBWR.out.trans (HB4.out.mono HHG.out)
                  exact RBAns.no w E.out (by rw [HG.out]; exact (hb.setCell (p := ⟨g, 0, none⟩) (Nat.le_refl _) _).setCell (p := ⟨g, 1, none⟩) (Nat.le_refl _) _)
                | true =>
                  rw [hk] at TR hmt
                  rw [show errE true = 0 from rfl] at TR
                  have hta : trainA (subL (vecs L) p N) k r sd = stepsL (subL (vecs L) p N) r.toNat (firstL (subL (vecs L) p N) sd k.toNat) := by unfold trainA; rw [hmt]; rfl
                  rw [hta] at TR
                  have HTR := Lib.hid TR
                  have hTl : T.length = p := by have := congrArg List.length hwd; rwa [words_len, bookK_len] at this
                  have HTL := Lib.hid hTl
                  have hT64 : T.length ≤ 64 := by omega
                  have HWD := Lib.hid (show words T ++ [stepsL (subL (vecs L) p N) r.toNat (firstL (subL (vecs L) p N) sd k.toNat)] = bookK (vecs L) N k.toNat r.toNat s (p + 1) by rw [hwd, bookK_succ, esd])
                  have HK := Lib.hid hk
                  clear hk TR hta hU bwr ga hmt hres hbx hoP hwd hbx2 hoP2 esd hSw hgr hTl
                  go_wp2_with (first
                    | (go_at_call 87; refine HTR.out.mono ?_; rintro e w4 ⟨A4, c4, L4, rfl, ho4, hv4, hb4⟩
                       have HB4 := Lib.hid hb4
                       have z4 := HBX.out.below hb4 HBX.out.lt
                       have c41 : w4.cell? ⟨g + 1, 1, none⟩ = some (.slice AT T.length cT) := z4.cell 1
                       have HO4 := Lib.hid ho4
                       have HV4 := Lib.hid hv4
                       have HP4 := Lib.hid (HOP.out.below hb4)
                       have hS4 : S ≤ w4.heap.size := Nat.le_trans HHS.out hb4.size
                       clear ho4 hv4 hb4 z4)
                    | (at_builtin; refine wpList_append_own_at _ rfl _ _ 22 rfl S 62 i1 (.slice none 0 0) 1 24 Tryz.underlying22 hi1 hy0 hy1 hy2 rfl (by decide) _ _ _ rfl (HP4.out.row.alloc _) ⟨w4.heap.size, 0, none⟩ 1 1 [.slice A4 L4.length c4] rfl rfl (cell_one_new _ _ _) (by simp [Value.oneCell']) (by show T.length + 1 ≤ 9223372036854775807; omega) (by omega) (by simp; omega) ?_; intro v' w5 hown' hgrow hnil hloc
                       obtain ⟨va, vm, vc, rfl⟩ := own_form hown'
                       obtain rfl := own_len hown'
                       have z5 : Whole w5 (g + 1) 24 #[.int .i64 N, .slice AT T.length cT] := (hgrow.block (g + 1) (by have := HP4.out; have := HBX.out.lt; have := HB4.out.size; simp; omega) (fun e => by have := (HP4.out.row.lt _ e.symm).1; omega)).trans ((HBX.out.below HB4.out HBX.out.lt).alloc _)
                       have c51 : w5.cell? ⟨g + 1, 1, none⟩ = some (.slice AT T.length cT) := z5.cell 1
                       have f51 := z5.frozen 1
                       have HZ5 := Lib.hid z5
                       have HO5 := Lib.hid hown'
                       have HG5 := Lib.hid hgrow
                       clear hown' hgrow hnil hloc z5))
                  have b4 : Below g w w4 := HBWR.out.trans (HB4.out.mono HHG.out)
                  have hrow : ∀ b, (Value.slice AT T.length cT).ownBlock = some b → S ≤ b := fun b hb => (HP4.out.row.lt b hb).1
                  have hg4 : g ≤ w4.heap.size := Nat.le_trans HHG.out HB4.out.size
                  have b5 : Below g w w5 := (b4.alloc hg4 _).grown HG5.out (by rw [World.size_alloc]; omega) (fun b hb => by have := hrow b hb; omega)
                  have r5 : Whole w5 g 24 #[.int .i64 0, .slice none 0 0] := by
                    have h4 := (HRES.out.below HB4.out HRES.out.lt).alloc (.cells #[.slice A4 L4.length c4] 62)
                    exact (HG5.out.block g h4.lt (fun e => by have := hrow g e.symm; omega)).trans h4
                  have o5 := HP4.out.snoc (x := (A4, c4, L4)) (HO4.out.base HHS.out) HO5.out HG5.out
                  have bx5 : Whole (w5.setCell ⟨g + 1, 1, none⟩ (.slice va (T.length + 1) vc)) (g + 1) 24 #[.int .i64 N, .slice va (T.length + 1) vc] := HZ5.out.set 1 _
                  refine ⟨⟨p + 1, by omega, by go_num, Lib.hid (.inl HK.out), ?_⟩, by simp [intOf]; omega⟩
                  refine ⟨b5.setCell (p := ⟨g + 1, 1, none⟩) (Nat.le_succ _) _, whole_other r5 (by omega), ⟨va, vc, T ++ [(A4, c4, L4)], ?_, o5.set (by omega), ?_⟩, ?_⟩
                  · rw [List.length_append, List.length_singleton]; exact bx5
                  · rw [words_snoc]
                    show words T ++ [vecs L4] = _
                    rw [HV4.out]; exact HWD.out
                  · have := HG5.out.size
                    rw [World.size_alloc] at this
                    simp
                    omega
          · obtain rfl : p = N := by omega
            have eL : decide ((p : Int) < (p : Int)) = false := decide_eq_false (by omega)
            have hk : lawK (vecs L) k r = true := HLK.out.resolve_right (by have := HN.out.1; omega)
            have hc : canT (vecs L) (p : Int) = true := decide_eq_true ⟨HM.out, by have := HN.out.1; omega, by rw [HED.out]; have := HN.out.2.1; omega⟩
            have hp2 : mayP (vecs L) (p : Int) k r = true := by rw [mayP_law, hc, hk]; rfl
            have E1 := Lib.hid (show partsA (vecs L) (p : Int) k r = p by unfold partsA; rw [hp2]; rfl)
            have E2 := Lib.hid (show bookA (vecs L) (p : Int) k r s = bookK (vecs L) p k.toNat r.toNat s p by unfold bookA; rw [hp2]; rfl)
            have E3 := Lib.hid (show errE (mayP (vecs L) (p : Int) k r) = 0 by rw [hp2]; rfl)
            obtain ⟨AT, cT, T, hbx, hoP, hwd⟩ := HS0.out.own
            have c0' : wr.cell? ⟨g + 1, 0, none⟩ = some (.int .i64 p) := hbx.cell 0
            have c1' : wr.cell? ⟨g + 1, 1, none⟩ = some (.slice AT T.length cT) := hbx.cell 1
            have d0 : wr.cell? ⟨g, 0, none⟩ = some (.int .i64 0) := HS0.out.res.cell 0
            have d1 : wr.cell? ⟨g, 1, none⟩ = some (.slice none 0 0) := HS0.out.res.cell 1
            have f0 := HS0.out.res.frozen 0
            have f1 := HS0.out.res.frozen 1
            have HOP := Lib.hid hoP
            have HWD := Lib.hid hwd
            clear hbx hoP hwd hk hc hp2
            go_wp2
            refine bodyPost_ret (v := .tuple #[.agg #[.int .i64 p, .slice AT T.length cT], .int .i64 0]) (by rw [resCellT rfl]; go_simp) rfl ?_
            refine ⟨AT, cT, T, by rw [E1.out, E3.out], ?_, HWD.out.trans E2.out.symm, ?_⟩
            · exact ((HOP.out.set (by omega)).set (by omega)).base (by rw [HG.out]; omega)
            · rw [HG.out]
              exact (HS0.out.bel.setCell (p := ⟨g, 0, none⟩) (Nat.le_refl _) _).setCell (p := ⟨g, 1, none⟩) (Nat.le_refl _) _
end Go.Proofs.YthbimjkcpmffcaaGreat
/- How great a trained book is; twins of vectors in their range. -/
namespace Go.Proofs.YthbimjkcpmffcaaGreat
open Go.RowKit
set_option linter.unusedVariables false
theorem sizeL_all {vs : List (List Int)} {n : Nat} (h : ∀ v ∈ vs, v.length = n) : sizeL vs = vs.length + vs.length * n := by
  unfold sizeL
  congr 1
  induction vs with
  | nil => simp
  | cons a l ih =>
    rw [List.map_cons, List.sum_cons, ih (fun v hv => h v (List.mem_cons_of_mem _ hv)), h a List.mem_cons_self, List.length_cons, Nat.add_mul]
    omega
/-- How much a book is. -/
theorem book_size {ps : List (List (List Int))} {d k : Nat} (h : BookOk ps d) (hk : ∀ p, p < ps.length → (pAt ps p).length = k) : sizeP ps = ps.length + (ps.length * k + k * d) := by
  have key : ∀ q, q ≤ ps.length → ((ps.take q).map sizeL).sum = q * k + k * beg q ps.length d := by
    intro q
    induction q with
    | zero => intro _; simp [beg_zero]
    | succ q ih =>
      intro hq
      have hq2 : q < ps.length := by omega
      have e : ps[q]? = some (pAt ps q) := by unfold pAt; rw [List.getElem?_eq_getElem hq2]; rfl
      have e2 : beg q ps.length d ≤ beg (q + 1) ps.length d := beg_mono (by omega)
      rw [sumSz_take e, ih (by omega), sizeL_all (h.all hq2), hk q hq2, Nat.mul_sub]
      have e3 := Nat.mul_le_mul_left k e2
      rw [Nat.add_mul]
      omega
  have := key ps.length (Nat.le_refl _)
  rw [List.take_length, beg_all h.2.2.1] at this
  unfold sizeP
  rw [this]
theorem book_small {vs : List (List Int)} {n k r s : Nat} (hb : BookOk (bookL vs n k r s) (dimOf vs)) (hk : firstL vs s k = firstL vs s k) (hl : ∀ p, p < n → (pAt (bookL vs n k r s) p).length = k) (h : k + k * dimOf vs ≤ 9000) : sizeP (bookL vs n k r s) ≤ 20000 := by
  have e := book_size hb (k := k) (fun p hp => hl p (by rwa [bookL_len] at hp))
  rw [bookL_len] at e
  have h1 : n ≤ dimOf vs := by have := hb.2.2.2.1; rwa [bookL_len] at this
  have h2 := Nat.mul_le_mul_right k h1
  have h3 := hb.2.1
  have h4 : dimOf vs * k = k * dimOf vs := Nat.mul_comm _ _
  omega
theorem book_words {vs : List (List Int)} {n k r s p : Nat} (hp : p < n) (hk : k ≤ vs.length) : (pAt (bookL vs n k r s) p).length = k := by
  rw [bookL_at hp, stepsL_len]
  exact firstL_len (by rw [sub_len]; exact hk)
/-- How great a trained book is, or none. -/
theorem bookA_small (vs : List (List Int)) (n k r : Int) (s : Nat) : sizeP (bookA vs n k r s) ≤ 20000 ∧ ∀ l ∈ bookA vs n k r s, l.length ≤ 64 ∧ ∀ u ∈ l, u.length ≤ 64 := by
  unfold bookA
  cases hm : mayP vs n k r with
  | false => simp [sizeP]
  | true =>
    rw [if_pos rfl]
    obtain ⟨m1, m2, m3, m4, m5, m6, m7, m8⟩ := of_decide_eq_true hm
    obtain ⟨N, rfl⟩ := Int.eq_ofNat_of_zero_le (show 0 ≤ n by omega)
    obtain ⟨K, rfl⟩ := Int.eq_ofNat_of_zero_le (show 0 ≤ k by omega)
    obtain ⟨R, rfl⟩ := Int.eq_ofNat_of_zero_le m7
    simp only [Int.toNat_natCast]
    have hbk : BookOk (bookL vs N K R s) (dimOf vs) := book_ok m1 (by omega) (by omega) (by omega) (by omega) (by omega)
    refine ⟨book_small hbk rfl (fun p hp => book_words hp (by omega)) ?_, fun l hl => ?_⟩
    · have h1 : K ≤ 64 := by omega
      have h2 := Nat.mul_le_mul h1 hbk.2.1
      omega
    · unfold bookL at hl
      obtain ⟨p, hp, rfl⟩ := List.mem_map.1 hl
      have hp2 : p < N := List.mem_range.1 hp
      have e : pAt (bookL vs N K R s) p = stepsL (subL vs p N) R (firstL (subL vs p N) ((s + p) % 18446744073709551616) K) := bookL_at hp2
      have hpl : p < (bookL vs N K R s).length := by rw [bookL_len]; exact hp2
      have h1 := hbk.2.2.2.2 p hpl
      rw [e] at h1
      refine ⟨h1.2.1, fun u hu => ?_⟩
      have h2 := hbk.all hpl u (by rw [e]; exact hu)
      have h3 := beg_le (p := p + 1) (n := (bookL vs N K R s).length) (d := dimOf vs) hbk.2.2.1 (by omega)
      have h4 := hbk.2.1
      omega
theorem TwinV.inQ {w : World} {g : Nat} {T : List Vc} (h : TwinV w g g 2 T) (hl : T.length ≤ 20000) (hv : ∀ v ∈ vecs T, v.length ≤ 20000) : InQ w g g w.heap.size 25 74 (some ⟨g, 0, none⟩) (T.length + 2) T := by
  refine ⟨?_, fun x hx => ⟨_, (h.twin x hx).own⟩, fun x hx => by have := hv _ (List.mem_map_of_mem hx); omega, h.vbs, fun b hb => ?_, fun x hx b hb => h.vb_lt x hx b hb⟩
  · have := whole_row (n := T.length) (base := g) h.row (cap := T.length + 2) (by unfold cellsT; simp [cellsV]) (by omega) (by omega) (Nat.le_refl _)
    have e : (cellsT T 2).toList.take T.length = cellsV T := by unfold cellsT; rw [List.take_left' (by simp [cellsV])]
    rw [e] at this
    exact this
  · have : g = b := by simpa [Value.ownBlock] using hb
    rw [← this]; exact ⟨Nat.le_refl _, h.row.lt⟩
theorem TwinV.room {w : World} {g : Nat} {T : List Vc} (h : TwinV w g g 2 T) (hv : ∀ v ∈ vecs T, v.length ≤ 20000) : RoomOk T := fun x hx => by
  have h1 := (h.twin x hx).1
  have h2 := hv _ (List.mem_map_of_mem hx)
  rw [h1]
  exact ⟨by omega, by omega⟩
end Go.Proofs.YthbimjkcpmffcaaGreat
/- The walk of PqTrains. -/
namespace Go.Proofs.YthbimjkcpmffcaaGreat
open Go.RowKit
set_option linter.unusedVariables false
set_option maxRecDepth 100000 in
set_option maxHeartbeats 4000000 in
theorem pqTrains_main (hT : PqTrainSpec) (A : Option Addr) (c : Nat) (L : List Vc) (N K R : Int) (S : Nat) (w : World) (hx : Given w A L) (hr : RoomOk L) (hs : S < 18446744073709551616) :
    Calls Tryz.prog 4 #[.slice A L.length c, .agg #[.int .i64 N, .int .i64 K, .int .i64 R, .int .u64 (S : Nat)]] w fun e w' => e = .returned (.bool true) ∧ Below w.heap.size w w' := by
  have HT := Lib.hid hT
  have HS := Lib.hid hs
  have HR := Lib.hid hr
  have cw0 : Below w.heap.size w (w.alloc (.cells #[.int .i64 N, .int .i64 K, .int .i64 R, .int .u64 (S : Nat)] 65)) := below_one (Below.refl _ _) _
  have HX0 := Lib.hid (hx.below cw0)
  have C0 := Lib.hid cw0
  have BX0 : Whole (w.alloc (.cells #[.int .i64 N, .int .i64 K, .int .i64 R, .int .u64 (S : Nat)] 65)) w.heap.size 65 #[.int .i64 N, .int .i64 K, .int .i64 R, .int .u64 (S : Nat)] := Whole.new w 65 _
  have HB0 := Lib.hid BX0
  clear hT hx hs hr cw0 BX0
  go_enter Tryz.func4, Tryz.ntmps4
  go_wp2_with fail
  obtain ⟨bx, ebx⟩ : ∃ bx, w.heap.size = bx := ⟨_, rfl⟩
  obtain ⟨w1, ew1⟩ : ∃ w1, w.alloc (.cells #[.int .i64 N, .int .i64 K, .int .i64 R, .int .u64 (S : Nat)] 65) = w1 := ⟨_, rfl⟩
  rw [ew1] at HX0 C0 HB0 ⊢
  have HX1 := HX0
  have C1 := C0
  have HB1 := HB0
  rw [ebx] at HB1 ⊢
  clear ew1 ebx HX0 C0 HB0
  refine (size_any A c L _ rfl w1 _ HX1.out.rd HX1.out.len HX1.out.vec).mono ?_
  rintro e w2 ⟨⟨z, rfl, hz⟩, rfl⟩
  dsimp only
  by_cases hzl : 20000 < z
  · have e1 : decide ((20000 : Int) < z) = true := decide_eq_true hzl
    go_wp2
    go_ret
    exact ⟨rfl, C1.out⟩
  have e1 : decide ((20000 : Int) < z) = false := decide_eq_false hzl
  have SM := Lib.hid (show Small L by rcases hz.2.2 with h | h <;> unfold Small <;> omega)
  clear hz hzl
  go_wp2_with fail
  refine (size_any A c L _ rfl w1 _ HX1.out.rd HX1.out.len HX1.out.vec).mono ?_
  rintro e w2 ⟨⟨z2, rfl, hz⟩, rfl⟩
  have r0 : w1.cell? ⟨bx, 0, none⟩ = some (.int .i64 N) := HB1.out.cell 0
  have r1 : w1.cell? ⟨bx, 1, none⟩ = some (.int .i64 K) := HB1.out.cell 1
  have r2 : w1.cell? ⟨bx, 2, none⟩ = some (.int .i64 R) := HB1.out.cell 2
  have r3 : w1.cell? ⟨bx, 3, none⟩ = some (.int .u64 (S : Nat)) := HB1.out.cell 3
  clear hz e1
  dsimp only
  by_cases hbig : 2000 < z2 ∧ 4 < K ∧ 4 < R
  · have e1 : decide (2000 < z2) = true := decide_eq_true hbig.1
    have e2 : decide (4 < K) = true := decide_eq_true hbig.2.1
    have e3 : decide (4 < R) = true := decide_eq_true hbig.2.2
    clear hbig
    go_wp2
    go_ret
    exact ⟨rfl, C1.out⟩
  have tri : decide (2000 < z2) = false ∨ (decide (2000 < z2) = true ∧ decide (4 < K) = false) ∨ (decide (2000 < z2) = true ∧ decide (4 < K) = true ∧ decide (4 < R) = false) := by
    by_cases h1 : 2000 < z2
    · by_cases h2 : 4 < K
      · exact .inr (.inr ⟨decide_eq_true h1, decide_eq_true h2, decide_eq_false (fun h => hbig ⟨h1, h2, h⟩)⟩)
      · exact .inr (.inl ⟨decide_eq_true h1, decide_eq_false h2⟩)
    · exact .inl (decide_eq_false h1)
  clear hbig
  rcases tri with e1 | ⟨e1, e2⟩ | ⟨e1, e2, e3⟩
  all_goals
    go_wp2_with fail
    clear r0 r1 r2 r3
    refine (twin_arg HX1.out SM.out).mono ?_
    rintro e w2 ⟨rfl, ⟨T, hT, hTv, hTl⟩, b2⟩
    obtain ⟨g, eg⟩ : ∃ g, w1.heap.size = g := ⟨_, rfl⟩
    rw [eg] at hT ⊢
    have HG := Lib.hid eg
    have TVL : ∀ v ∈ vecs T, v.length ≤ 20000 := fun v hv => by rw [hTv] at hv; exact SM.out.vec hv
    have hTl2 : T.length ≤ 20000 := by rw [hTl]; exact SM.out.len
    have IT2 := Lib.hid (hT.inQ hTl2 TVL)
    have HRT := Lib.hid (hT.room TVL)
    have T2 := Lib.hid hT
    have TV := Lib.hid hTv
    have TL := Lib.hid hTl
    have HX2 := Lib.hid (HX1.out.below b2)
    have HB2 := Lib.hid (HB1.out.below b2 HB1.out.lt)
    have CW1 := Lib.hid C1.out
    have C2 := Lib.hid (C1.out.trans (b2.mono C1.out.size))
    have z2s : g ≤ w2.heap.size := by have := b2.size; omega
    clear hT hTv hTl b2 HX1 HB1 C1 eg TVL hTl2
    dsimp only
    have TRE : Hid (∀ W, Below w2.heap.size w2 W → Calls Tryz.prog 26 #[.slice (some ⟨g, 0, none⟩) L.length (L.length + 2), .int .i64 N, .int .i64 K, .int .i64 R, .int .u64 (S : Nat)] W (BAns W (partsA (vecs L) N K R) (bookA (vecs L) N K R S) (errE (mayP (vecs L) N K R)))) := Lib.hid (fun W h1 => by
      have h3 := HT.out _ (L.length + 2) T N K R S W (arg_twin (T2.out.below h1) TV.out SM.out HX2.out.b8) HRT.out HS.out
      rw [TL.out, TV.out] at h3; exact h3)
    have AL := Lib.hid (bookA_small (vecs L) N K R S)
    have eE : (errE (mayP (vecs L) N K R) != errE (mayP (vecs L) N K R)) = false := by simp
    have RTE := Lib.hid (fun W (h1 : Given W A L) => rPqTrain_any A c L N K R S W (h1.arg SM.out) HR.out HS.out)
    obtain ⟨E, ee⟩ : ∃ E, errE (mayP (vecs L) N K R) = E := ⟨_, rfl⟩
    obtain ⟨Z, er⟩ : ∃ Z, bookA (vecs L) N K R S = Z := ⟨_, rfl⟩
    obtain ⟨Q, eq⟩ : ∃ Q, partsA (vecs L) N K R = Q := ⟨_, rfl⟩
    simp only [ee, er, eq] at TRE eE RTE AL
    clear ee er eq HT HS
    have HX_2 := HX2
    have HB_2 := HB2
    have CC_2 := C2
    have BT2_2 : Hid (Below w2.heap.size w2 w2) := Lib.hid (Below.refl _ _)
    clear HX2 HB2 C2
    have HBt := HB_2.out
    have r0 : w2.cell? ⟨bx, 0, none⟩ = some (.int .i64 N) := HBt.cell 0
    have r1 : w2.cell? ⟨bx, 1, none⟩ = some (.int .i64 K) := HBt.cell 1
    have r2 : w2.cell? ⟨bx, 2, none⟩ = some (.int .i64 R) := HBt.cell 2
    have r3 : w2.cell? ⟨bx, 3, none⟩ = some (.int .u64 (S : Nat)) := HBt.cell 3
    go_wp2_with fail
    clear r0 r1 r2 r3 HBt
    refine (TRE.out w2 BT2_2.out).mono ?_
    rintro e w4 ⟨A4, k4, L4, rfl, o4, p4, v4, b⟩
    have hz4 : w2.heap.size ≤ w4.heap.size := b.size
    have lb4 := b
    have IA_4 := Lib.hid (o4.inP (base := g) z2s p4 (by rw [v4]; exact AL.out.2))
    have RA_4 := Lib.hid o4.rd
    have LV4 := Lib.hid v4
    clear o4 p4 v4 lb4
    have HX_4 := Lib.hid (HX_2.out.below b)
    have HB_4 := Lib.hid (HB_2.out.below b HB_2.out.lt)
    have CC_4 := Lib.hid (CC_2.out.trans (b.mono CC_2.out.size))
    have BT2_4 := Lib.hid (BT2_2.out.trans (b.mono BT2_2.out.size))
    clear HX_2 HB_2 CC_2 BT2_2
    clear b
    dsimp only
    have b : Below w4.heap.size w4 (w4.alloc (.cells #[.int .i64 Q, .slice A4 L4.length k4] 24)) := below_one (Below.refl _ _) _
    have BAn := Whole.new w4 24 #[.int .i64 Q, .slice A4 L4.length k4]
    have HBt := HB_4.out.below b HB_4.out.lt
    have r0 : (w4.alloc (.cells #[.int .i64 Q, .slice A4 L4.length k4] 24)).cell? ⟨bx, 0, none⟩ = some (.int .i64 N) := HBt.cell 0
    have r1 : (w4.alloc (.cells #[.int .i64 Q, .slice A4 L4.length k4] 24)).cell? ⟨bx, 1, none⟩ = some (.int .i64 K) := HBt.cell 1
    have r2 : (w4.alloc (.cells #[.int .i64 Q, .slice A4 L4.length k4] 24)).cell? ⟨bx, 2, none⟩ = some (.int .i64 R) := HBt.cell 2
    have r3 : (w4.alloc (.cells #[.int .i64 Q, .slice A4 L4.length k4] 24)).cell? ⟨bx, 3, none⟩ = some (.int .u64 (S : Nat)) := HBt.cell 3
    go_wp2_with fail
    clear r0 r1 r2 r3 HBt
    obtain ⟨w4a, ew⟩ : ∃ wz, w4.alloc (.cells #[.int .i64 Q, .slice A4 L4.length k4] 24) = wz := ⟨_, rfl⟩
    have hz4a : w4.heap.size + 1 = w4a.heap.size := by rw [← ew]; simp
    rw [ew] at b BAn ⊢
    obtain ⟨gBA, egBA⟩ : ∃ gz, w4.heap.size = gz := ⟨_, rfl⟩
    rw [egBA] at BAn ⊢
    have BA_4a := Lib.hid BAn
    have HGBA := Lib.hid egBA
    clear ew egBA BAn
    have HX_4a := Lib.hid (HX_4.out.below b)
    have HB_4a := Lib.hid (HB_4.out.below b HB_4.out.lt)
    have CC_4a := Lib.hid (CC_4.out.trans (b.mono CC_4.out.size))
    have BT2_4a := Lib.hid (BT2_4.out.trans (b.mono BT2_4.out.size))
    have IA_4a := Lib.hid (IA_4.out.below b)
    have RA_4a := Lib.hid ((RA_4.out.below b).more b.size)
    clear HX_4 HB_4 CC_4 BT2_4 IA_4 RA_4
    clear b
    refine (TRE.out w4a BT2_4a.out).mono ?_
    rintro e w5 ⟨A5, k5, L5, rfl, o5, p5, v5, b⟩
    have hz5 : w4a.heap.size ≤ w5.heap.size := b.size
    have IB_5 := Lib.hid (o5.inP (base := g) (by omega) p5 (by rw [v5]; exact AL.out.2))
    have RB_5 := Lib.hid o5.rd
    have LV5 := Lib.hid v5
    clear o5 p5 v5
    have HX_5 := Lib.hid (HX_4a.out.below b)
    have HB_5 := Lib.hid (HB_4a.out.below b HB_4a.out.lt)
    have CC_5 := Lib.hid (CC_4a.out.trans (b.mono CC_4a.out.size))
    have BT2_5 := Lib.hid (BT2_4a.out.trans (b.mono BT2_4a.out.size))
    have IA_5 := Lib.hid (IA_4a.out.below b)
    have RA_5 := Lib.hid ((RA_4a.out.below b).more b.size)
    have BA_5 := Lib.hid (BA_4a.out.below b BA_4a.out.lt)
    clear HX_4a HB_4a CC_4a BT2_4a IA_4a RA_4a BA_4a
    clear b TRE
    dsimp only
    have b : Below w5.heap.size w5 (w5.alloc (.cells #[.int .i64 Q, .slice A5 L5.length k5] 24)) := below_one (Below.refl _ _) _
    have BBn := Whole.new w5 24 #[.int .i64 Q, .slice A5 L5.length k5]
    have HBt := HB_5.out.below b HB_5.out.lt
    have r0 : (w5.alloc (.cells #[.int .i64 Q, .slice A5 L5.length k5] 24)).cell? ⟨bx, 0, none⟩ = some (.int .i64 N) := HBt.cell 0
    have r1 : (w5.alloc (.cells #[.int .i64 Q, .slice A5 L5.length k5] 24)).cell? ⟨bx, 1, none⟩ = some (.int .i64 K) := HBt.cell 1
    have r2 : (w5.alloc (.cells #[.int .i64 Q, .slice A5 L5.length k5] 24)).cell? ⟨bx, 2, none⟩ = some (.int .i64 R) := HBt.cell 2
    have r3 : (w5.alloc (.cells #[.int .i64 Q, .slice A5 L5.length k5] 24)).cell? ⟨bx, 3, none⟩ = some (.int .u64 (S : Nat)) := HBt.cell 3
    go_wp2_with fail
    clear r0 r1 r2 r3 HBt
    obtain ⟨w5a, ew⟩ : ∃ wz, w5.alloc (.cells #[.int .i64 Q, .slice A5 L5.length k5] 24) = wz := ⟨_, rfl⟩
    have hz5a : w5.heap.size + 1 = w5a.heap.size := by rw [← ew]; simp
    rw [ew] at b BBn ⊢
    obtain ⟨gBB, egBB⟩ : ∃ gz, w5.heap.size = gz := ⟨_, rfl⟩
    rw [egBB] at BBn ⊢
    have BB_5a := Lib.hid BBn
    have HGBB := Lib.hid egBB
    clear ew egBB BBn
    have HX_5a := Lib.hid (HX_5.out.below b)
    have HB_5a := Lib.hid (HB_5.out.below b HB_5.out.lt)
    have CC_5a := Lib.hid (CC_5.out.trans (b.mono CC_5.out.size))
    have BT2_5a := Lib.hid (BT2_5.out.trans (b.mono BT2_5.out.size))
    have IA_5a := Lib.hid (IA_5.out.below b)
    have RA_5a := Lib.hid ((RA_5.out.below b).more b.size)
    have BA_5a := Lib.hid (BA_5.out.below b BA_5.out.lt)
    have IB_5a := Lib.hid (IB_5.out.below b)
    have RB_5a := Lib.hid ((RB_5.out.below b).more b.size)
    clear HX_5 HB_5 CC_5 BT2_5 IA_5 RA_5 BA_5 IB_5 RB_5
    clear b
    refine (RTE.out w5a HX_5a.out).mono ?_
    rintro e w7 ⟨A7, k7, L7, rfl, o7, v7, b⟩
    have RW_7 := Lib.hid o7.rd
    have LV7 := Lib.hid v7
    clear o7 v7 RTE
    have HX_7 := Lib.hid (HX_5a.out.below b)
    have HB_7 := Lib.hid (HB_5a.out.below b HB_5a.out.lt)
    have CC_7 := Lib.hid (CC_5a.out.trans (b.mono CC_5a.out.size))
    have BT2_7 := Lib.hid (BT2_5a.out.trans (b.mono BT2_5a.out.size))
    have IA_7 := Lib.hid (IA_5a.out.below b)
    have RA_7 := Lib.hid ((RA_5a.out.below b).more b.size)
    have BA_7 := Lib.hid (BA_5a.out.below b BA_5a.out.lt)
    have IB_7 := Lib.hid (IB_5a.out.below b)
    have RB_7 := Lib.hid ((RB_5a.out.below b).more b.size)
    have BB_7 := Lib.hid (BB_5a.out.below b BB_5a.out.lt)
    clear HX_5a HB_5a CC_5a BT2_5a IA_5a RA_5a BA_5a IB_5a RB_5a BB_5a
    clear b
    dsimp only
    have b : Below w7.heap.size w7 (w7.alloc (.cells #[.int .i64 Q, .slice A7 L7.length k7] 24)) := below_one (Below.refl _ _) _
    have BWn := Whole.new w7 24 #[.int .i64 Q, .slice A7 L7.length k7]
    have BAt := BA_7.out.below b BA_7.out.lt
    have q00 : (w7.alloc (.cells #[.int .i64 Q, .slice A7 L7.length k7] 24)).cell? ⟨gBA, 0, none⟩ = some (.int .i64 Q) := BAt.cell 0
    have q01 : (w7.alloc (.cells #[.int .i64 Q, .slice A7 L7.length k7] 24)).cell? ⟨gBA, 1, none⟩ = some (.slice A4 L4.length k4) := BAt.cell 1
    have q10 : (w7.alloc (.cells #[.int .i64 Q, .slice A7 L7.length k7] 24)).cell? ⟨w7.heap.size, 0, none⟩ = some (.int .i64 Q) := BWn.cell 0
    have q11 : (w7.alloc (.cells #[.int .i64 Q, .slice A7 L7.length k7] 24)).cell? ⟨w7.heap.size, 1, none⟩ = some (.slice A7 L7.length k7) := BWn.cell 1
    go_wp2_with fail
    clear q00 q01 q10 q11 BAt
    obtain ⟨w7a, ew⟩ : ∃ wz, w7.alloc (.cells #[.int .i64 Q, .slice A7 L7.length k7] 24) = wz := ⟨_, rfl⟩
    have hz7a : w7.heap.size ≤ w7a.heap.size := by rw [← ew]; simp
    rw [ew] at b BWn ⊢
    obtain ⟨gBW, egBW⟩ : ∃ gz, w7.heap.size = gz := ⟨_, rfl⟩
    rw [egBW] at BWn ⊢
    have BW_7a := Lib.hid BWn
    clear ew egBW BWn
    have HX_7a := Lib.hid (HX_7.out.below b)
    have CC_7a := Lib.hid (CC_7.out.trans (b.mono CC_7.out.size))
    have BT2_7a := Lib.hid (BT2_7.out.trans (b.mono BT2_7.out.size))
    have IA_7a := Lib.hid (IA_7.out.below b)
    have RA_7a := Lib.hid ((RA_7.out.below b).more b.size)
    have BA_7a := Lib.hid (BA_7.out.below b BA_7.out.lt)
    have IB_7a := Lib.hid (IB_7.out.below b)
    have RB_7a := Lib.hid ((RB_7.out.below b).more b.size)
    have BB_7a := Lib.hid (BB_7.out.below b BB_7.out.lt)
    have RW_7a := Lib.hid ((RW_7.out.below b).more b.size)
    clear HX_7 CC_7 BT2_7 IA_7 RA_7 BA_7 IB_7 RB_7 BB_7 RW_7
    clear b
    have PS := Lib.hid (fun (M : List Pc) (h : words M = Z) => (by unfold PSmall; rw [h]; exact AL.out.1 : PSmall M))
    refine (sameWords_any Q A4 k4 L4 A7 k7 L7 w7a w7a.heap.size w7a.heap.size RA_7a.out RW_7a.out (Nat.le_refl _) (Nat.le_refl _) (LV4.out.trans LV7.out.symm) (PS.out L4 LV4.out)).mono ?_
    rintro e w8 ⟨rfl, b⟩
    have HX_8 := Lib.hid (HX_7a.out.below b)
    have CC_8 := Lib.hid (CC_7a.out.trans (b.mono CC_7a.out.size))
    have BT2_8 := Lib.hid (BT2_7a.out.trans (b.mono BT2_7a.out.size))
    have IA_8 := Lib.hid (IA_7a.out.below b)
    have BA_8 := Lib.hid (BA_7a.out.below b BA_7a.out.lt)
    have IB_8 := Lib.hid (IB_7a.out.below b)
    have RB_8 := Lib.hid ((RB_7a.out.below b).more b.size)
    have BB_8 := Lib.hid (BB_7a.out.below b BB_7a.out.lt)
    have RW_8 := Lib.hid ((RW_7a.out.below b).more b.size)
    have BW_8 := Lib.hid (BW_7a.out.below b BW_7a.out.lt)
    clear HX_7a CC_7a BT2_7a IA_7a BA_7a IB_7a RB_7a BB_7a RW_7a BW_7a
    clear b
    dsimp only
    have BBt := BB_8.out
    have BWt := BW_8.out
    have q00 : w8.cell? ⟨gBB, 0, none⟩ = some (.int .i64 Q) := BBt.cell 0
    have q01 : w8.cell? ⟨gBB, 1, none⟩ = some (.slice A5 L5.length k5) := BBt.cell 1
    have q10 : w8.cell? ⟨gBW, 0, none⟩ = some (.int .i64 Q) := BWt.cell 0
    have q11 : w8.cell? ⟨gBW, 1, none⟩ = some (.slice A7 L7.length k7) := BWt.cell 1
    go_wp2_with fail
    clear q00 q01 q10 q11 BBt BWt
    refine (sameWords_any Q A5 k5 L5 A7 k7 L7 w8 w8.heap.size w8.heap.size RB_8.out RW_8.out (Nat.le_refl _) (Nat.le_refl _) (LV5.out.trans LV7.out.symm) (PS.out L5 LV5.out)).mono ?_
    rintro e w9 ⟨rfl, b⟩
    have HX_9 := Lib.hid (HX_8.out.below b)
    have CC_9 := Lib.hid (CC_8.out.trans (b.mono CC_8.out.size))
    have BT2_9 := Lib.hid (BT2_8.out.trans (b.mono BT2_8.out.size))
    have IA_9 := Lib.hid (IA_8.out.below b)
    have BA_9 := Lib.hid (BA_8.out.below b BA_8.out.lt)
    have IB_9 := Lib.hid (IB_8.out.below b)
    have BB_9 := Lib.hid (BB_8.out.below b BB_8.out.lt)
    clear HX_8 CC_8 BT2_8 IA_8 BA_8 IB_8 BB_8
    clear b
    dsimp only
    go_wp2_with fail
    refine (left_arg (c := c) (T2.out.below BT2_9.out) TV.out HX_9.out HR.out SM.out).mono ?_
    rintro e w10 ⟨rfl, b⟩
    have HX_10 := Lib.hid (HX_9.out.below b)
    have CC_10 := Lib.hid (CC_9.out.trans (b.mono CC_9.out.size))
    have BT2_10 := Lib.hid (BT2_9.out.trans (b.mono BT2_9.out.size))
    have IA_10 := Lib.hid (IA_9.out.below b)
    have BA_10 := Lib.hid (BA_9.out.below b BA_9.out.lt)
    have IB_10 := Lib.hid (IB_9.out.below b)
    have BB_10 := Lib.hid (BB_9.out.below b BB_9.out.lt)
    clear HX_9 CC_9 BT2_9 IA_9 BA_9 IB_9 BB_9
    clear b
    dsimp only
    have B12 : Below w10.heap.size w10 (w10.alloc newBk) := below_one (Below.refl _ _) _
    have hlo : g ≤ w10.heap.size := by have := BT2_10.out.size; omega
    have W1 := bt_vectors (bt_new w10 g g) ((IT2.out.below BT2_10.out).below B12) z2s (by rw [World.size_alloc]; omega) hlo (by rw [TL.out]; exact SM.out.len) (by omega)
    rw [TL.out] at W1
    have HWC := Lib.hid W1
    have HB12 := Lib.hid B12
    have HLW := Lib.hid hlo
    have hLL := SM.out.len
    have hcA : cntP L4 ≤ 20000 := by have h1 := cntP_size L4; rw [LV4.out] at h1; have := AL.out.1; omega
    have hcB : cntP L5 ≤ 20000 := by have h1 := cntP_size L5; rw [LV5.out] at h1; have := AL.out.1; omega
    have hlA : L4.length ≤ 20000 := (PS.out L4 LV4.out).len
    have hlB : L5.length ≤ 20000 := (PS.out L5 LV5.out).len
    clear W1 B12 hlo
    go_wp2_with fail
    refine HWC.out.mono ?_
    rintro e w13 ⟨rfl, hB1, kq1⟩
    have s13 : g ≤ w13.heap.size := Nat.le_trans HLW.out (Nat.le_trans (by rw [World.size_alloc]; omega) kq1.below.size)
    have IA13 := kq1.inP (IA_10.out.below HB12.out)
    have HIB13 := Lib.hid (kq1.inP (IB_10.out.below HB12.out))
    have BAt := kq1.row (by decide) (by decide) (by decide) (by decide) (by decide) (by decide) (by decide) (own_below (whole_row (n := 2) (cap := 2) (base := g) BA_10.out rfl (Nat.le_refl _) (by decide) (by have := HGBA.out; omega)) HB12.out)
    have BBt := kq1.row (by decide) (by decide) (by decide) (by decide) (by decide) (by decide) (by decide) (own_below (whole_row (n := 2) (cap := 2) (base := g) BB_10.out rfl (Nat.le_refl _) (by decide) (by have := HGBB.out; omega)) HB12.out)
    have HBBt := Lib.hid BBt
    have q00 : w13.cell? ⟨gBA, 0, none⟩ = some (.int .i64 Q) := (BAt.cellAt 0 (by decide)).trans rfl
    have q01 : w13.cell? ⟨gBA, 1, none⟩ = some (.slice A4 L4.length k4) := (BAt.cellAt 1 (by decide)).trans rfl
    have W2 := bt_words (P := Q) hB1 IA13 hz4 s13 HLW.out hlA (by omega) (by omega)
    have HW2 := Lib.hid W2
    have HC13 := Lib.hid kq1.below
    clear W2 hB1 IA13 kq1 HWC BAt BBt
    dsimp only
    go_wp2_with fail
    clear q00 q01
    refine HW2.out.mono ?_
    rintro e w14 ⟨rfl, hB2, kq2⟩
    have s14 : g ≤ w14.heap.size := Nat.le_trans s13 kq2.below.size
    have BBt := kq2.row (by decide) (by decide) (by decide) (by decide) (by decide) (by decide) (by decide) HBBt.out
    have q00 : w14.cell? ⟨gBB, 0, none⟩ = some (.int .i64 Q) := (BBt.cellAt 0 (by decide)).trans rfl
    have q01 : w14.cell? ⟨gBB, 1, none⟩ = some (.slice A5 L5.length k5) := (BBt.cellAt 1 (by decide)).trans rfl
    have W3 := bt_words (P := Q) (hB2.up (show w4.heap.size ≤ w4a.heap.size by omega)) (kq2.inP HIB13.out) hz5 s14 HLW.out hlB (by omega) (by omega)
    have HW3 := Lib.hid W3
    have HC14 := Lib.hid (HC13.out.trans kq2.below)
    clear W3 hB2 kq2 HW2 HIB13 HBBt BBt HC13
    dsimp only
    go_wp2_with fail
    clear q00 q01
    refine HW3.out.mono ?_
    rintro e w15 ⟨rfl, hB3, kq3⟩
    have s15 : g ≤ w15.heap.size := Nat.le_trans s14 kq3.below.size
    have HAP := Lib.hid (bt_apart hB3 s15)
    have HC15 := Lib.hid (HC14.out.trans kq3.below)
    clear hB3 kq3 HW3 HC14
    dsimp only
    go_wp2_with fail
    refine HAP.out.mono ?_
    rintro e w16 ⟨rfl, b16⟩
    go_wp2
    go_ret
    have wl : w.heap.size ≤ g := by rw [← HG.out]; exact CW1.out.size
    exact ⟨rfl, (CC_10.out.trans (HB12.out.mono CC_10.out.size)).trans ((HC15.out.trans b16).mono wl)⟩
end Go.Proofs.YthbimjkcpmffcaaGreat
