/- The walk of the statement VecMoved. -/
import Derived.Test.YtegphnlfhcokfaaL
namespace Go.Proofs.Ytegphnlfhcokfaa
open Go.RowKit Go.Shelf
set_option linter.unusedVariables false
/-- Go's remainder by 61. -/
def rm (x : Int) : Int := x.tmod 61
theorem rm_bd (x : Int) : -60 ≤ rm x ∧ rm x ≤ 60 := by
  unfold rm
  have h1 := Int.tmod_lt_of_pos x (show (0 : Int) < 61 by omega)
  rcases Int.le_total 0 x with h | h
  · have := Int.tmod_nonneg 61 h; omega
  · have e : x.tmod 61 = -((-x).tmod 61) := by rw [Int.neg_tmod]; omega
    have h3 := Int.tmod_nonneg 61 (show 0 ≤ -x by omega)
    have h4 := Int.tmod_lt_of_pos (-x) (show (0 : Int) < 61 by omega)
    omega
theorem far_move : ∀ (xs ys bs : List Int), ys.length = xs.length → bs.length = xs.length → far (List.zipWith (· + ·) xs bs) (List.zipWith (· + ·) ys bs) = far xs ys
  | [], ys, bs, _, _ => by simp [far_nil]
  | x :: xs, [], _, h, _ => by simp at h
  | x :: xs, _ :: _, [], _, h => by simp at h
  | x :: xs, y :: ys, b :: bs, h1, h2 => by
    rw [List.zipWith_cons_cons, List.zipWith_cons_cons, far_cons, far_cons, far_move xs ys bs (by simpa using h1) (by simpa using h2)]
    rw [show x + b - (y + b) = x - y by omega]
theorem far_neg : ∀ (xs ys : List Int), far (xs.map (- ·)) (ys.map (- ·)) = far xs ys
  | [], ys => by simp [far_nil]
  | x :: xs, [] => by simp [far_nil']
  | x :: xs, y :: ys => by
    rw [List.map_cons, List.map_cons, far_cons, far_cons, far_neg xs ys, show -x - -y = -(x - y) by omega, Int.neg_mul_neg]
set_option maxRecDepth 100000 in
set_option maxHeartbeats 400000 in
theorem vecMoved_no (A B D : Option Addr) (a b d n m l : Nat) (w : World) (h : n = 0 ∨ 64 < n ∨ m ≠ n ∨ l ≠ n) :
    Calls Try.prog 10 #[.slice A n a, .slice B m b, .slice D l d] w fun e w' => e = .returned (.bool true) ∧ Below w.heap.size w w' := by
  have HA := Lib.hid alive_any
  by_cases h0 : n = 0
  · subst h0
    clear h
    go_enter Try.func10, Try.ntmps10
    go_wp2_with fail
    refine (HA.out w).mono ?_
    rintro e w1 ⟨rfl, hB1⟩
    go_wp2_with fail
    refine (HA.out _).mono ?_
    rintro e w3 ⟨rfl, hB3⟩
    go_wp2
    go_ret
    exact ⟨rfl, hB1.trans (hB3.mono hB1.size)⟩
  · have hz : ((n : Int) == 0) = false := by rw [beq_eq_false_iff_ne]; omega
    by_cases h1 : 64 < n
    · have hz1 : decide (64 < (n : Int)) = true := decide_eq_true (by omega)
      clear h h0
      go_enter Try.func10, Try.ntmps10
      go_wp2_with fail
      refine (HA.out w).mono ?_
      rintro e w1 ⟨rfl, hB1⟩
      go_wp2_with fail
      refine (HA.out _).mono ?_
      rintro e w3 ⟨rfl, hB3⟩
      go_wp2
      go_ret
      exact ⟨rfl, hB1.trans (hB3.mono hB1.size)⟩
    · have hz1 : decide (64 < (n : Int)) = false := decide_eq_false (by omega)
      by_cases h2 : m = n
      · have h3 : l ≠ n := by omega
        subst h2
        have n1 : ((m : Int) != (m : Int)) = false := by simp
        have n2 : ((l : Int) != (m : Int)) = true := by simp; omega
        clear h h0 h3
        go_enter Try.func10, Try.ntmps10
        go_wp2_with fail
        refine (HA.out w).mono ?_
        rintro e w1 ⟨rfl, hB1⟩
        go_wp2_with fail
        refine (HA.out _).mono ?_
        rintro e w3 ⟨rfl, hB3⟩
        go_wp2
        go_ret
        exact ⟨rfl, hB1.trans (hB3.mono hB1.size)⟩
      · have n1 : ((m : Int) != (n : Int)) = true := by simp; omega
        clear h h0 h2
        go_enter Try.func10, Try.ntmps10
        go_wp2_with fail
        refine (HA.out w).mono ?_
        rintro e w1 ⟨rfl, hB1⟩
        go_wp2_with fail
        refine (HA.out _).mono ?_
        rintro e w3 ⟨rfl, hB3⟩
        go_wp2
        go_ret
        exact ⟨rfl, hB1.trans (hB3.mono hB1.size)⟩
/-- Four rows of the call's own, no two in one block. -/
def Own4 (base : Nat) (wr : World) (S : Nat → Value) (R : Nat → List Int) : Prop :=
  (∀ j, j < 4 → wr.ownsRow base 53 1 (S j) (R j).length ((R j).map (Value.int .i8))) ∧ (∀ j j', j < 4 → j' < 4 → j ≠ j' → (S j).ownBlock = none ∨ (S j).ownBlock ≠ (S j').ownBlock)
def upd {β : Type} (S : Nat → β) (i : Nat) (v : β) : Nat → β := fun j => if j = i then v else S j
theorem Own4.start (base : Nat) (w : World) : Own4 base w (fun _ => .slice none 0 0) (fun _ => []) := ⟨fun _ _ => own_nil_row _ _ _, fun _ _ _ _ _ => .inl rfl⟩
theorem Own4.step {base : Nat} {wr w2 : World} {S : Nat → Value} {R : Nat → List Int} (h : Own4 base wr S R) (hb : base ≤ wr.heap.size) {i : Nat} (hi : i < 4) {o : Obj} {g n cap : Nat} {x : Int} (hg : (wr.alloc o).grownBy w2 (S i).ownBlock)
    (hown : w2.ownsRow base 53 1 (.slice (some ⟨g, 0, none⟩) n cap) n ((R i).map (Value.int .i8) ++ [.int .i8 x])) (hat : (S i).ownBlock = some g ∨ g = wr.heap.size + 1) :
    Own4 base w2 (upd S i (.slice (some ⟨g, 0, none⟩) n cap)) (upd R i (R i ++ [x])) := by
  have hn : n = (R i ++ [x]).length := by have := hown.1; simp at this ⊢; omega
  have lt_of : ∀ j, j < 4 → ∀ b, (S j).ownBlock = some b → b < wr.heap.size := fun j hj b hb => ((h.1 j hj).lt b hb).2
  refine ⟨fun j hj => ?_, fun j j' hj hj' hne => ?_⟩
  · unfold upd
    by_cases e : j = i
    · subst e
      rw [if_pos rfl, if_pos rfl, ← hn, List.map_append]
      exact hown
    · rw [if_neg e, if_neg e]
      refine ((h.1 j hj).alloc o).kept hg ?_
      rcases h.2 j i hj hi e with h1 | h1
      · exact .inl h1
      · exact .inr h1
  · unfold upd
    by_cases e : j = i
    · subst e
      rw [if_pos rfl, if_neg (Ne.symm hne)]
      refine .inr (fun h1 => ?_)
      have h1' : (S j').ownBlock = some g := h1.symm
      rcases hat with h2 | h2
      · rcases h.2 j j' hj hj' hne with h3 | h3
        · rw [h3] at h2; cases h2
        · exact h3 (h2.trans h1'.symm)
      · have := lt_of j' hj' g h1'; omega
    · rw [if_neg e]
      by_cases e' : j' = i
      · subst e'
        rw [if_pos rfl]
        rcases ho : (S j).ownBlock with _ | b
        · exact .inl rfl
        · refine .inr (fun h1 => ?_)
          have h1' : b = g := by simpa [Value.ownBlock] using h1
          subst h1'
          rcases hat with h2 | h2
          · rcases h.2 j j' hj hi hne with h3 | h3
            · rw [ho] at h3; cases h3
            · exact h3 (ho.trans h2.symm)
          · have := lt_of j hj b ho; omega
      · rw [if_neg e']
        exact h.2 j j' hj hj' hne
theorem Own4.row {base : Nat} {wr : World} {S : Nat → Value} {R : Nat → List Int} (h : Own4 base wr S R) (j : Nat) (hj : j < 4) {n : Nat} (hn : (R j).length = n) : wr.ownsRow base 53 1 (S j) n ((R j).map (Value.int .i8)) := by
  have := h.1 j hj; rw [hn] at this; exact this
theorem Own4.congr {base : Nat} {wr : World} {S S' : Nat → Value} {R R' : Nat → List Int} (h : Own4 base wr S R) (hS : ∀ j, j < 4 → S j = S' j) (hR : ∀ j, j < 4 → R j = R' j) : Own4 base wr S' R' :=
  ⟨fun j hj => by rw [← hS j hj, ← hR j hj]; exact h.1 j hj, fun j j' hj hj' hne => by rw [← hS j hj, ← hS j' hj']; exact h.2 j j' hj hj' hne⟩
/-- The four rows of VecMoved. -/
def movR (P Q M : List Int) (k : Nat) : Nat → List Int
  | 0 => (List.zipWith (· + ·) P M).take k
  | 1 => (List.zipWith (· + ·) Q M).take k
  | 2 => P.take k
  | _ => Q.take k
theorem take_snoc' {l : List Int} {k : Nat} {v : Int} (h : l[k]? = some v) : l.take k ++ [v] = l.take (k + 1) := by
  have hk : k < l.length := (List.getElem?_eq_some_iff.1 h).1
  rw [List.take_succ_eq_append_getElem hk]
  rw [List.getElem?_eq_getElem hk] at h
  simp at h; rw [h]
theorem vecMoved_rows {xs ys bs : List Int} {n k : Nat} {x y b : Int} (hx : xs[k]? = some x) (hy : ys[k]? = some y) (hb : bs[k]? = some b) :
    let P := xs.map rm; let Q := ys.map rm; let M := bs.map rm
    movR P Q M k 0 ++ [rm x + rm b] = movR P Q M (k + 1) 0 ∧ movR P Q M k 1 ++ [rm y + rm b] = movR P Q M (k + 1) 1 ∧ movR P Q M k 2 ++ [rm x] = movR P Q M (k + 1) 2 ∧ movR P Q M k 3 ++ [rm y] = movR P Q M (k + 1) 3 := by
  refine ⟨take_snoc' ?_, take_snoc' ?_, take_snoc' ?_, take_snoc' ?_⟩
  · simp [List.getElem?_zipWith, hx, hb]
  · simp [List.getElem?_zipWith, hy, hb]
  · simp [hx]
  · simp [hy]
theorem own_below {w w' : World} {base n size : Nat} {e : TypeId} {v : Value} {xs : List Value} (h : w.ownsRow base e size v n xs) (hb : Below w.heap.size w w') : w'.ownsRow base e size v n xs := by
  refine ⟨h.1, ?_⟩
  rcases h.2 with h1 | ⟨g, cap, cur, h1, h2, h3, h4⟩
  · exact .inl h1
  · exact .inr ⟨g, cap, cur, h1, h2, (hb.block g (Array.getElem?_eq_some_iff.1 h3).1).trans h3, h4⟩
theorem Own4.below {base : Nat} {w w' : World} {S : Nat → Value} {R : Nat → List Int} (h : Own4 base w S R) (hb : Below w.heap.size w w') : Own4 base w' S R := ⟨fun j hj => own_below (h.1 j hj) hb, h.2⟩
/-- A list whose first k numbers are turned about. -/
def negTo (P : List Int) (k : Nat) : List Int := (P.take k).map (- ·) ++ P.drop k
theorem negTo_zero (P : List Int) : negTo P 0 = P := by simp [negTo]
theorem negTo_all (P : List Int) (k : Nat) (h : P.length ≤ k) : negTo P k = P.map (- ·) := by simp [negTo, List.take_of_length_le h, List.drop_of_length_le h]
theorem negTo_len (P : List Int) (k : Nat) : (negTo P k).length = P.length := by simp [negTo]; omega
theorem negTo_at {P : List Int} {k : Nat} {v : Int} (h : P[k]? = some v) : (negTo P k)[k]? = some v := by
  have hk := (List.getElem?_eq_some_iff.1 h).1
  unfold negTo
  rw [List.getElem?_append_right (by simp; omega)]
  simp only [List.length_map, List.length_take, Nat.min_eq_left (Nat.le_of_lt hk), Nat.sub_self, List.getElem?_drop, Nat.add_zero]
  exact h
theorem negTo_step {P : List Int} {k : Nat} {v : Int} (h : P[k]? = some v) : ((negTo P k).map (Value.int .i8)).set k (.int .i8 (-v)) = (negTo P (k + 1)).map (Value.int .i8) := by
  have hk := (List.getElem?_eq_some_iff.1 h).1
  rw [← List.map_set]
  congr 1
  unfold negTo
  rw [List.set_append_right (h := by simp; omega)]
  simp only [List.length_map, List.length_take, Nat.min_eq_left (Nat.le_of_lt hk), Nat.sub_self]
  rw [List.drop_eq_getElem_cons hk, List.set_cons_zero, List.take_succ_eq_append_getElem hk, List.map_append, List.append_assoc]
  rw [List.getElem?_eq_getElem hk] at h
  simp only [Option.some.injEq] at h
  simp [h]
theorem rm_list (xs : List Int) : ∀ x ∈ xs.map rm, -60 ≤ x ∧ x ≤ 60 := fun x hx => by
  simp only [List.mem_map] at hx
  obtain ⟨y, _, rfl⟩ := hx
  exact rm_bd y
theorem zip_add_bd : ∀ (l m : List Int), (∀ x ∈ l, -60 ≤ x ∧ x ≤ 60) → (∀ x ∈ m, -60 ≤ x ∧ x ≤ 60) → ∀ x ∈ List.zipWith (· + ·) l m, -128 ≤ x ∧ x ≤ 127
  | [], m, _, _, x, hx => by simp at hx
  | _ :: _, [], _, _, x, hx => by simp at hx
  | u :: l, v :: m, hl, hm, x, hx => by
    rw [List.zipWith_cons_cons] at hx
    rcases List.mem_cons.1 hx with h | h
    · have h1 := hl u (by simp)
      have h2 := hm v (by simp)
      omega
    · exact zip_add_bd l m (fun y hy => hl y (by simp [hy])) (fun y hy => hm y (by simp [hy])) x h
/-- Two rows of the call's own in two blocks, each turned about up to k. -/
def Own2 (base : Nat) (wr : World) (g2 c2 g3 c3 n : Nat) (P Q : List Int) (k : Nat) : Prop :=
  wr.ownsRow base 53 1 (.slice (some ⟨g2, 0, none⟩) n c2) n ((negTo P k).map (Value.int .i8)) ∧ wr.ownsRow base 53 1 (.slice (some ⟨g3, 0, none⟩) n c3) n ((negTo Q k).map (Value.int .i8)) ∧ g2 ≠ g3
theorem Own2.step {base : Nat} {wr : World} {g2 c2 g3 c3 n : Nat} {P Q : List Int} {k : Nat} {p q : Int} (h : Own2 base wr g2 c2 g3 c3 n P Q k) (hp : P[k]? = some p) (hq : Q[k]? = some q) :
    Own2 base ((wr.setCell ⟨g2, k, none⟩ (.int .i8 (-p))).setCell ⟨g3, k, none⟩ (.int .i8 (-q))) g2 c2 g3 c3 n P Q (k + 1) := by
  obtain ⟨h1, h2, h3⟩ := h
  have s1 := h1.stored k (.int .i8 (-p))
  rw [negTo_step hp] at s1
  have t1 := h2.kept s1.2 (.inr (by simpa [Value.ownBlock] using h3.symm))
  have t2 := t1.stored k (.int .i8 (-q))
  rw [negTo_step hq] at t2
  exact ⟨s1.1.kept t2.2 (.inr (by simpa [Value.ownBlock] using h3)), t2.1, h3⟩
set_option maxRecDepth 100000 in
set_option maxHeartbeats 4000000 in
theorem vecMoved_yes (A B D : Option Addr) (a b d : Nat) (xs ys zs : List Int) (n : Nat) (hn : xs.length = n) (hy : ys.length = n) (hz : zs.length = n) (h1 : 1 ≤ n) (h2 : n ≤ 64) (w : World)
    (rx : Rd .i8 w w.heap.size A xs) (ry : Rd .i8 w w.heap.size B ys) (rz : Rd .i8 w w.heap.size D zs) (bx : ∀ x ∈ xs, -128 ≤ x ∧ x ≤ 127) (bY : ∀ x ∈ ys, -128 ≤ x ∧ x ≤ 127) (bz : ∀ x ∈ zs, -128 ≤ x ∧ x ≤ 127) :
    Calls Try.prog 10 #[.slice A n a, .slice B n b, .slice D n d] w fun e w' => e = .returned (.bool true) ∧ Below w.heap.size w w' := by
  have HA := Lib.hid alive_any
  have HNX := Lib.hid hn
  have HNY := Lib.hid hy
  have HNZ := Lib.hid hz
  clear hn hy hz
  have z0 : ((n : Int) == 0) = false := by rw [beq_eq_false_iff_ne]; omega
  have z1 : decide (64 < (n : Int)) = false := decide_eq_false (by omega)
  have n1 : ((n : Int) != (n : Int)) = false := by simp
  obtain ⟨i0, hi, hz0, hz1, hz2⟩ := info_parts Try.info53
  go_enter Try.func10, Try.ntmps10
  go_wp2_with fail
  refine (HA.out w).mono ?_
  rintro e w1 ⟨rfl, hB1⟩
  clear HA
  go_wp2
  clear z0 z1 n1
  go_loopw [7, 8, 9, 10, 11] (fun u7 u8 u9 u10 i wr => ∃ (k : Nat) (S : Nat → Value), k ≤ n ∧ i = .int .i64 k ∧ u7 = S 0 ∧ u8 = S 1 ∧ u9 = S 2 ∧ u10 = S 3 ∧ Hid (Own4 w1.heap.size wr S (movR (xs.map rm) (ys.map rm) (zs.map rm) k)) ∧ Below w1.heap.size w1 wr) (fun _ _ _ _ i _ => n - (intOf i).toNat)
  case atStart => exact ⟨0, fun _ => .slice none 0 0, by omega, rfl, rfl, rfl, rfl, rfl, (Own4.congr (Own4.start w1.heap.size w1) (fun _ _ => rfl) (fun j hj => by match j, hj with | 0, _ => simp [movR] | 1, _ => simp [movR] | 2, _ => simp [movR] | 3, _ => simp [movR]) : Own4 w1.heap.size w1 (fun _ => .slice none 0 0) (movR (xs.map rm) (ys.map rm) (zs.map rm) 0)), Below.refl _ _⟩
  case round =>
    obtain ⟨k, S, hk, rfl, rfl, rfl, rfl, rfl, HO, hB⟩ := hrel
    have hBw : Below w.heap.size w wr := hB1.trans (hB.mono hB1.size)
    by_cases hlt : k < n
    · obtain ⟨bA, oA, x, rfl, _, hcx, hvx⟩ := (rx.below hBw).at_ (i := k) (by rw [HNX.out]; exact hlt)
      obtain ⟨bB, oB, y, rfl, _, hcy, hvy⟩ := (ry.below hBw).at_ (i := k) (by rw [HNY.out]; exact hlt)
      obtain ⟨bD, oD, m, rfl, _, hcm, hvm⟩ := (rz.below hBw).at_ (i := k) (by rw [HNZ.out]; exact hlt)
      have kx : xs[k]? = some x := by rw [← hvx.out, List.getElem?_eq_getElem (by rw [HNX.out]; exact hlt)]; rfl
      have ky : ys[k]? = some y := by rw [← hvy.out, List.getElem?_eq_getElem (by rw [HNY.out]; exact hlt)]; rfl
      have km : zs[k]? = some m := by rw [← hvm.out, List.getElem?_eq_getElem (by rw [HNZ.out]; exact hlt)]; rfl
      have gx := bx x (List.mem_of_getElem? kx)
      have gy := bY y (List.mem_of_getElem? ky)
      have gm := bz m (List.mem_of_getElem? km)
      have ROWS := Lib.hid (vecMoved_rows (n := n) kx ky km)
      have rx1 := rm_bd x
      have ry1 := rm_bd y
      have rm1 := rm_bd m
      obtain ⟨px, hpx⟩ : ∃ px, x.tmod 61 = px := ⟨_, rfl⟩
      obtain ⟨py, hpy⟩ : ∃ py, y.tmod 61 = py := ⟨_, rfl⟩
      obtain ⟨pm, hpm⟩ : ∃ pm, m.tmod 61 = pm := ⟨_, rfl⟩
      rw [show rm x = px from hpx] at ROWS rx1
      rw [show rm y = py from hpy] at ROWS ry1
      rw [show rm m = pm from hpm] at ROWS rm1
      have L0 := Lib.hid (show (movR (xs.map rm) (ys.map rm) (zs.map rm) k 0).length = k by simp [movR, HNX.out, HNZ.out]; omega)
      have L1 := Lib.hid (show (movR (xs.map rm) (ys.map rm) (zs.map rm) k 1).length = k by simp [movR, HNY.out, HNZ.out]; omega)
      have L2 := Lib.hid (show (movR (xs.map rm) (ys.map rm) (zs.map rm) k 2).length = k by simp [movR, HNX.out]; omega)
      have L3 := Lib.hid (show (movR (xs.map rm) (ys.map rm) (zs.map rm) k 3).length = k by simp [movR, HNY.out]; omega)
      have HPX := Lib.hid hpx
      have HPY := Lib.hid hpy
      have HPM := Lib.hid hpm
      clear hpx hpy hpm
      have h0 : (0 : Int) ≤ (k : Int) := by omega
      have hkn : (k : Int) < (n : Int) := by omega
      clear kx ky km hvx hvy hvm hBw
      go_wp2
      go_quiet (fail)
      rw [HPX.out, HPY.out, HPM.out]
      have Oq : Own4 w1.heap.size (wr.drewN nq) S (movR (xs.map rm) (ys.map rm) (zs.map rm) k) := HO.out
      have hBq := below_drewN hB nq
      have hsq := hBq.size
      clear hB HO HPX HPY HPM
      generalize wr.drewN nq = Wq at Oq hBq hsq ⊢
      go_wp2_with (first
        | (at_builtin; refine wpList_append_lies _ rfl (.tmp 70) (.tmp 74) 22 rfl w1.heap.size 53 i0 (.int .i8 0) 1 1 Try.underlying22 hi hz0 hz1 hz2 rfl (by omega) (S 0) k ((movR (xs.map rm) (ys.map rm) (zs.map rm) k 0).map (Value.int .i8)) rfl ((Oq.row 0 (by omega) (L0.out)).alloc _) ⟨Wq.heap.size, 0, none⟩ 1 1 [.int .i8 (px + pm)] rfl rfl (cell_one_new _ _ _) (by simp [Value.oneCell']) (by omega) (by unfold maxLen; omega) (by omega) (by simp; omega) (Wq.heap.size + 1) (by simp) ?_; intro g0 c0 W1 hown0 hg0 hat0 hlt0; have O1 := Oq.step hsq (show 0 < 4 by omega) hg0 hown0 hat0; have hB1x : Below w1.heap.size w1 W1 := (hBq.alloc hsq _).grown hg0 (by simp; omega) (fun j hj => ((Oq.row 0 (by omega) (L0.out)).lt j hj).1); have hs1 := hB1x.size)
        | (at_builtin; refine wpList_append_lies _ rfl (.tmp 76) (.tmp 80) 22 rfl w1.heap.size 53 i0 (.int .i8 0) 1 1 Try.underlying22 hi hz0 hz1 hz2 rfl (by omega) (S 1) k ((movR (xs.map rm) (ys.map rm) (zs.map rm) k 1).map (Value.int .i8)) rfl ((O1.row 1 (by omega) (L1.out)).alloc _) ⟨W1.heap.size, 0, none⟩ 1 1 [.int .i8 (py + pm)] rfl rfl (cell_one_new _ _ _) (by simp [Value.oneCell']) (by omega) (by unfold maxLen; omega) (by omega) (by simp; omega) (W1.heap.size + 1) (by simp) ?_; intro g1 c1 W2 hown1 hg1 hat1 hlt1; have O2 := O1.step hs1 (show 1 < 4 by omega) hg1 hown1 hat1; have hB2x : Below w1.heap.size w1 W2 := (hB1x.alloc hs1 _).grown hg1 (by simp; omega) (fun j hj => ((O1.row 1 (by omega) (L1.out)).lt j hj).1); have hs2 := hB2x.size)
        | (at_builtin; refine wpList_append_lies _ rfl (.tmp 82) (.tmp 84) 22 rfl w1.heap.size 53 i0 (.int .i8 0) 1 1 Try.underlying22 hi hz0 hz1 hz2 rfl (by omega) (S 2) k ((movR (xs.map rm) (ys.map rm) (zs.map rm) k 2).map (Value.int .i8)) rfl ((O2.row 2 (by omega) (L2.out)).alloc _) ⟨W2.heap.size, 0, none⟩ 1 1 [.int .i8 (px)] rfl rfl (cell_one_new _ _ _) (by simp [Value.oneCell']) (by omega) (by unfold maxLen; omega) (by omega) (by simp; omega) (W2.heap.size + 1) (by simp) ?_; intro g2 c2 W3 hown2 hg2 hat2 hlt2; have O3 := O2.step hs2 (show 2 < 4 by omega) hg2 hown2 hat2; have hB3x : Below w1.heap.size w1 W3 := (hB2x.alloc hs2 _).grown hg2 (by simp; omega) (fun j hj => ((O2.row 2 (by omega) (L2.out)).lt j hj).1); have hs3 := hB3x.size)
        | (at_builtin; refine wpList_append_lies _ rfl (.tmp 86) (.tmp 88) 22 rfl w1.heap.size 53 i0 (.int .i8 0) 1 1 Try.underlying22 hi hz0 hz1 hz2 rfl (by omega) (S 3) k ((movR (xs.map rm) (ys.map rm) (zs.map rm) k 3).map (Value.int .i8)) rfl ((O3.row 3 (by omega) (L3.out)).alloc _) ⟨W3.heap.size, 0, none⟩ 1 1 [.int .i8 (py)] rfl rfl (cell_one_new _ _ _) (by simp [Value.oneCell']) (by omega) (by unfold maxLen; omega) (by omega) (by simp; omega) (W3.heap.size + 1) (by simp) ?_; intro g3 c3 W4 hown3 hg3 hat3 hlt3; have O4 := O3.step hs3 (show 3 < 4 by omega) hg3 hown3 hat3; have hB4x : Below w1.heap.size w1 W4 := (hB3x.alloc hs3 _).grown hg3 (by simp; omega) (fun j hj => ((O3.row 3 (by omega) (L3.out)).lt j hj).1); have hs4 := hB4x.size))
      go_roundw
      case rel => exact ⟨k + 1, fun j => match j with | 0 => .slice (some ⟨g0, 0, none⟩) (k + 1) c0 | 1 => .slice (some ⟨g1, 0, none⟩) (k + 1) c1 | 2 => .slice (some ⟨g2, 0, none⟩) (k + 1) c2 | _ => .slice (some ⟨g3, 0, none⟩) (k + 1) c3, by omega, by go_num, rfl, rfl, rfl, rfl, (O4.congr (fun j hj => by match j, hj with | 0, _ => rfl | 1, _ => rfl | 2, _ => rfl | 3, _ => rfl) (fun j hj => by match j, hj with | 0, _ => exact ROWS.out.1 | 1, _ => exact ROWS.out.2.1 | 2, _ => exact ROWS.out.2.2.1 | 3, _ => exact ROWS.out.2.2.2)), hB4x⟩
      case measure => simp [intOf]; omega
    · obtain rfl : k = n := by omega
      have hbw := hB1.size
      have e0 : movR (xs.map rm) (ys.map rm) (zs.map rm) k 0 = List.zipWith (· + ·) (xs.map rm) (zs.map rm) := List.take_of_length_le (by simp [HNX.out, HNZ.out])
      have e1 : movR (xs.map rm) (ys.map rm) (zs.map rm) k 1 = List.zipWith (· + ·) (ys.map rm) (zs.map rm) := List.take_of_length_le (by simp [HNY.out, HNZ.out])
      have e2 : movR (xs.map rm) (ys.map rm) (zs.map rm) k 2 = xs.map rm := List.take_of_length_le (by simp [HNX.out])
      have e3 : movR (xs.map rm) (ys.map rm) (zs.map rm) k 3 = ys.map rm := List.take_of_length_le (by simp [HNY.out])
      have q0 := HO.out.row 0 (by omega) (n := k) (by rw [e0]; simp [HNX.out, HNZ.out])
      have q1 := HO.out.row 1 (by omega) (n := k) (by rw [e1]; simp [HNY.out, HNZ.out])
      have q2 := HO.out.row 2 (by omega) (n := k) (by rw [e2]; simp [HNX.out])
      have q3 := HO.out.row 3 (by omega) (n := k) (by rw [e3]; simp [HNY.out])
      have hne23 := HO.out.2 2 3 (by omega) (by omega) (by omega)
      rw [e0] at q0; rw [e1] at q1; rw [e2] at q2; rw [e3] at q3
      obtain ⟨k', rfl⟩ : ∃ k', k = k' + 1 := ⟨k - 1, by omega⟩
      obtain ⟨g0, c0, hS0⟩ := ownsRow_succ q0
      obtain ⟨g1, c1, hS1⟩ := ownsRow_succ q1
      obtain ⟨g2, c2, hS2⟩ := ownsRow_succ q2
      obtain ⟨g3, c3, hS3⟩ := ownsRow_succ q3
      rw [hS0] at q0 ⊢; rw [hS1] at q1 ⊢; rw [hS2] at q2 hne23 ⊢; rw [hS3] at q3 hne23 ⊢
      have hne : g2 ≠ g3 := by
        rcases hne23 with h | h
        · simp [Value.ownBlock] at h
        · simpa [Value.ownBlock] using h
      have HP := Lib.hid (show (xs.map rm).length = k' + 1 by simp [HNX.out])
      have HQ := Lib.hid (show (ys.map rm).length = k' + 1 by simp [HNY.out])
      have HZL := Lib.hid (show (zs.map rm).length = k' + 1 by simp [HNZ.out])
      have bP := rm_list xs
      have bQ := rm_list ys
      have hX : (List.zipWith (· + ·) (xs.map rm) (zs.map rm)).length = k' + 1 := by simp [HNX.out, HNZ.out]
      have hY : (List.zipWith (· + ·) (ys.map rm) (zs.map rm)).length = k' + 1 := by simp [HNY.out, HNZ.out]
      have zb := zip_add_bd
      have H1 := dist_yes (some ⟨g2, 0, none⟩) (some ⟨g3, 0, none⟩) c2 c3 (xs.map rm) (ys.map rm) (by rw [HP.out]; omega) (by rw [HP.out]; omega) (by rw [HP.out, HQ.out]) (k' + 1) HP.out.symm wr (rd_own q2) (rd_own q3) (fun x hx => by have := bP x hx; omega) (fun x hx => by have := bQ x hx; omega)
      rw [HP.out] at H1
      have H1' := Lib.hid H1
      clear H1 e0 e1 e2 e3 HO hS0 hS1 hS2 hS3 hne23 hlt rx ry rz bx bY bz HNX HNY HNZ
      go_wp2_with fail
      refine H1'.out.mono ?_
      rintro e w5 ⟨rfl, hB5⟩
      have p0 := own_below q0 hB5
      have p1 := own_below q1 hB5
      have p2 := own_below q2 hB5
      have p3 := own_below q3 hB5
      have hB5' := hB.trans (hB5.mono hB.size)
      have H2 := dist_yes (some ⟨g0, 0, none⟩) (some ⟨g1, 0, none⟩) c0 c1 (List.zipWith (· + ·) (xs.map rm) (zs.map rm)) (List.zipWith (· + ·) (ys.map rm) (zs.map rm)) (by rw [hX]; omega) (by rw [hX]; omega) (by rw [hX, hY]) (k' + 1) hX.symm w5 (rd_own p0) (rd_own p1) (zb _ _ bP (rm_list zs)) (zb _ _ bQ (rm_list zs))
      rw [hX, far_move _ _ _ (by rw [HP.out, HQ.out]) (by rw [HP.out]; exact HZL.out)] at H2
      have H2' := Lib.hid H2
      clear H2 q0 q1 q2 q3 p0 p1 hB hB5 H1' hX hY zb
      go_wp2_with fail
      refine H2'.out.mono ?_
      rintro e w6 ⟨rfl, hB6⟩
      have r2 := own_below p2 hB6
      have r3 := own_below p3 hB6
      have hB6' := hB5'.trans (hB6.mono hB5'.size)
      have HF := Lib.hid (far_neg (xs.map rm) (ys.map rm))
      generalize xs.map rm = P at *
      generalize ys.map rm = Q at *
      have O0 : Hid (Own2 w1.heap.size w6 g2 c2 g3 c3 (k' + 1) P Q 0) := ⟨by rw [negTo_zero]; exact r2, by rw [negTo_zero]; exact r3, hne⟩
      clear r2 r3 p2 p3 hB5' hB6 H2'
      go_wp2
      go_loopw [19] (fun i wr => ∃ t : Nat, t ≤ k' + 1 ∧ i = .int .i64 t ∧ Hid (Own2 w1.heap.size wr g2 c2 g3 c3 (k' + 1) P Q t) ∧ Below w1.heap.size w1 wr) (fun i _ => k' + 1 - (intOf i).toNat)
      case atStart => exact ⟨0, by omega, rfl, O0, hB6'⟩
      case round =>
        clear O0 hB6'
        obtain ⟨t, ht, rfl, HO, hB⟩ := hrel
        by_cases hlt : t < k' + 1
        · have kp : P[t]? = some (P[t]'(by rw [HP.out]; exact hlt)) := List.getElem?_eq_getElem _
          have kq : Q[t]? = some (Q[t]'(by rw [HQ.out]; exact hlt)) := List.getElem?_eq_getElem _
          have bp := bP _ (List.mem_of_getElem? kp)
          have bq := bQ _ (List.mem_of_getElem? kq)
          generalize P[t]'(by rw [HP.out]; exact hlt) = p at kp bp
          generalize Q[t]'(by rw [HQ.out]; exact hlt) = q at kq bq
          have HN := Lib.hid (HO.out.step kp kq)
          have cp : wr.cell? ⟨g2, t, none⟩ = some (.int .i8 p) := by rw [HO.out.1.cellAt t (by omega), List.getElem?_map, negTo_at kp]; rfl
          have fp := HO.out.1.frozenAt t
          have cq : wr.cell? ⟨g3, t, none⟩ = some (.int .i8 q) := by rw [HO.out.2.1.cellAt t (by omega), List.getElem?_map, negTo_at kq]; rfl
          have fq := HO.out.2.1.frozenAt t
          have cq' : (wr.setCell ⟨g2, t, none⟩ (.int .i8 (-p))).cell? ⟨g3, t, none⟩ = some (.int .i8 q) := by rw [World.cell?_setCell_other _ _ _ _ (by simp; try omega)]; exact cq
          have fq' : (wr.setCell ⟨g2, t, none⟩ (.int .i8 (-p))).frozen? ⟨g3, t, none⟩ = false := by rw [World.frozen?_setCell]; exact fq
          have l2 := (HO.out.1.lt g2 rfl).1
          have l3 := (HO.out.2.1.lt g3 rfl).1
          clear kp kq HO cq fq
          go_wp2
          go_roundw
          case rel => exact ⟨t + 1, by omega, by go_num, HN.out, (hB.setCell (p := ⟨g2, t, none⟩) l2 _).setCell (p := ⟨g3, t, none⟩) l3 _⟩
          case measure => simp [intOf]; omega
        · obtain rfl : t = k' + 1 := by omega
          have a2 := HO.out.1
          have a3 := HO.out.2.1
          rw [negTo_all P _ (by rw [HP.out]; omega)] at a2
          rw [negTo_all Q _ (by rw [HQ.out]; omega)] at a3
          have nb : ∀ (l : List Int), (∀ x ∈ l, -60 ≤ x ∧ x ≤ 60) → ∀ x ∈ l.map (- ·), -128 ≤ x ∧ x ≤ 127 := fun l hl x hx => by
            simp only [List.mem_map] at hx
            obtain ⟨y, hy, rfl⟩ := hx
            have := hl y hy; omega
          have H3 := dist_yes (some ⟨g2, 0, none⟩) (some ⟨g3, 0, none⟩) c2 c3 (P.map (- ·)) (Q.map (- ·)) (by rw [List.length_map, HP.out]; omega) (by rw [List.length_map, HP.out]; omega) (by rw [List.length_map, List.length_map, HP.out, HQ.out]) (k' + 1) (by rw [List.length_map, HP.out]) wr (rd_own a2) (rd_own a3) (nb _ bP) (nb _ bQ)
          rw [List.length_map, HP.out, HF.out] at H3
          have H3' := Lib.hid H3
          clear H3 a2 a3 nb HO bP bQ
          generalize far P Q = fx at H3' ⊢
          go_wp2_with fail
          refine H3'.out.mono ?_
          rintro e w9 ⟨rfl, hB9⟩
          have hBe := hB1.trans ((hB.trans (hB9.mono hB.size)).mono hB1.size)
          have n2 : (fx == fx) = true := by simp
          go_wp2
          go_ret
          exact ⟨rfl, hBe⟩
end Go.Proofs.Ytegphnlfhcokfaa
