/- The walk of the statement VecAlike. -/
import Derived.Test.YtegphnlfhcokfaaN
import Derived.Test.YtegphnlfhcokfaaZ
namespace Go.Proofs.Ytegphnlfhcokfaa
open Go.RowKit Go.Shelf
set_option linter.unusedVariables false
theorem Try.info22 : (Try.prog.info? 22).map (fun i => (i.zero, i.size, i.bytes)) = some (some (.slice none 0 0), 1, 24) := by kernel_rfl
/-- A vector as a slice value. -/
def slv (v : Vc) : Value := .slice v.1 v.2.2.length v.2.1
theorem own_apart {w : World} {b1 b2 e1 e2 : Nat} {s1 s2 n1 n2 : Nat} {v1 v2 : Value} {xs ys : List Value} (h : w.ownsRow b1 e1 s1 v1 n1 xs) (g : w.ownsRow b2 e2 s2 v2 n2 ys) (hne : e1 ≠ e2) : v1.ownBlock = none ∨ v1.ownBlock ≠ v2.ownBlock := by
  rcases h.2 with ⟨rfl, _⟩ | ⟨g1, cap, cur, rfl, _, h3, _⟩
  · exact .inl rfl
  · rcases g.2 with ⟨rfl, _⟩ | ⟨g2, cap', cur', rfl, _, h3', _⟩
    · exact .inr (fun h => by simp [Value.ownBlock] at h)
    · refine .inr (fun h => ?_)
      have e : g1 = g2 := by simpa [Value.ownBlock] using h
      subst e
      rw [h3] at h3'
      simp only [Option.some.injEq, Obj.cells.injEq] at h3'
      exact hne h3'.2.1
/-- What stands when i vectors are laid: the row of them, the row of them turned about, each of these in a row of its own. -/
structure Alike (base : Nat) (wr : World) (n : Nat) (s T : Nat → Vc) (v7 v8 : Value) (i : Nat) : Prop where
  own7 : wr.ownsRow base 22 1 v7 i ((List.range i).map fun j => slv (s j))
  own8 : wr.ownsRow base 22 1 v8 i ((List.range i).map fun j => slv (T j))
  ne : v7.ownBlock = none ∨ v7.ownBlock ≠ v8.ownBlock
  rows : ∀ j, j < i → (T j).2.2 = (s j).2.2.map (- ·) ∧ wr.ownsRow base 53 1 (slv (T j)) n ((T j).2.2.map (Value.int .i8)) ∧ ∀ x ∈ (s j).2.2, -127 ≤ x
theorem Alike.start (base : Nat) (w : World) (n : Nat) (s : Nat → Vc) : Alike base w n s s (.slice none 0 0) (.slice none 0 0) 0 :=
  ⟨⟨rfl, .inl ⟨rfl, rfl⟩⟩, ⟨rfl, .inl ⟨rfl, rfl⟩⟩, .inl rfl, fun j hj => by omega⟩
theorem Alike.below {base : Nat} {w w' : World} {n : Nat} {s T : Nat → Vc} {v7 v8 : Value} {i : Nat} (h : Alike base w n s T v7 v8 i) (hb : Below w.heap.size w w') : Alike base w' n s T v7 v8 i :=
  ⟨own_below h.own7 hb, own_below h.own8 hb, h.ne, fun j hj => ⟨(h.rows j hj).1, own_below (h.rows j hj).2.1 hb, (h.rows j hj).2.2⟩⟩
theorem range_snoc {β : Type} (f : Nat → β) (i : Nat) : (List.range i).map f ++ [f i] = (List.range (i + 1)).map f := by rw [List.range_succ, List.map_append]; rfl
theorem Alike.own8' {base : Nat} {wr W1 : World} {n : Nat} {s T : Nat → Vc} {v7 v8 : Value} {i : Nat} (h : Alike base wr n s T v7 v8 i) {o1 : Obj} (hg1 : (wr.alloc o1).grownBy W1 v7.ownBlock) : W1.ownsRow base 22 1 v8 i ((List.range i).map fun j => slv (T j)) :=
  (h.own8.alloc o1).kept hg1 (by
    rcases h.ne with h1 | h1
    · rcases h8 : v8.ownBlock with _ | g
      · exact .inl rfl
      · rw [h1]; exact .inr (by simp)
    · exact .inr (Ne.symm h1))
theorem Alike.step {base : Nat} {wr W1 W2 : World} {n : Nat} {s T : Nat → Vc} {v7 v8 : Value} {i : Nat} (h : Alike base wr n s T v7 v8 i) (hb : base ≤ wr.heap.size) {V : Vc} (hV : wr.ownsRow base 53 1 (slv V) n (V.2.2.map (Value.int .i8))) (hVe : V.2.2 = (s i).2.2.map (- ·)) (hVb : ∀ x ∈ (s i).2.2, -127 ≤ x)
    {o1 o2 : Obj} {g7 c7 g8 c8 : Nat} {m1 m2 : Nat} (hg1 : (wr.alloc o1).grownBy W1 v7.ownBlock) (hown7 : W1.ownsRow base 22 1 (.slice (some ⟨g7, 0, none⟩) m1 c7) m1 ((List.range i).map (fun j => slv (s j)) ++ [slv (s i)])) (hat7 : v7.ownBlock = some g7 ∨ g7 = wr.heap.size + 1)
    (hg2 : (W1.alloc o2).grownBy W2 v8.ownBlock) (hown8 : W2.ownsRow base 22 1 (.slice (some ⟨g8, 0, none⟩) m2 c8) m2 ((List.range i).map (fun j => slv (T j)) ++ [slv V])) (hat8 : v8.ownBlock = some g8 ∨ g8 = W1.heap.size + 1) :
    Alike base W2 n s (upd T i V) (.slice (some ⟨g7, 0, none⟩) m1 c7) (.slice (some ⟨g8, 0, none⟩) m2 c8) (i + 1) := by
  have e1 : m1 = i + 1 := by have := hown7.1; simp at this; omega
  have e2 : m2 = i + 1 := by have := hown8.1; simp at this; omega
  subst e1 e2
  have k8 := h.own8' hg1
  have row1 : ∀ (j : Nat) (V' : Vc), (wr.ownsRow base 53 1 (slv V') n (V'.2.2.map (Value.int .i8))) → W2.ownsRow base 53 1 (slv V') n (V'.2.2.map (Value.int .i8)) := fun j V' h' => by
    have t1 := (h'.alloc o1).kept hg1 (own_apart h' h.own7 (by decide))
    exact (t1.alloc o2).kept hg2 (own_apart t1 k8 (by decide))
  have lt8 : ∀ b, v8.ownBlock = some b → b < wr.heap.size := fun b hb => (h.own8.lt b hb).2
  have ne7 : (Value.slice (some ⟨g7, 0, none⟩) (i + 1) c7).ownBlock ≠ v8.ownBlock := by
    intro hh
    have hh' : v8.ownBlock = some g7 := hh.symm
    rcases hat7 with h1 | h1
    · rcases h.ne with h2 | h2
      · rw [h2] at h1; cases h1
      · exact h2 (h1.trans hh'.symm)
    · have := lt8 g7 hh'; omega
  have k7 := (hown7.alloc o2).kept hg2 (.inr ne7)
  refine ⟨by rw [range_snoc (fun j => slv (s j))] at k7; exact k7, ?_, .inr (fun hh => ?_), fun j hj => ?_⟩
  · have e : (List.range i).map (fun j => slv (T j)) ++ [slv V] = (List.range (i + 1)).map (fun j => slv (upd T i V j)) := by
      rw [← range_snoc]
      congr 1
      · apply List.map_congr_left
        intro j hj
        have : j ≠ i := by have := List.mem_range.1 hj; omega
        simp [upd, this]
      · simp [upd]
    rw [e] at hown8; exact hown8
  · have hh' : g7 = g8 := by simpa [Value.ownBlock] using hh
    subst hh'
    rcases hat8 with h1 | h1
    · exact ne7 h1.symm
    · have l7 : g7 < W1.heap.size := (hown7.lt g7 rfl).2
      omega
  · unfold upd
    by_cases e : j = i
    · subst e
      rw [if_pos rfl]
      exact ⟨hVe, row1 j V hV, hVb⟩
    · rw [if_neg e]
      have hr := h.rows j (by omega)
      exact ⟨hr.1, row1 j _ hr.2.1, hr.2.2⟩
theorem own_base {w : World} {base base' n size : Nat} {e : TypeId} {v : Value} {xs : List Value} (h : w.ownsRow base e size v n xs) (hb : base' ≤ base) : w.ownsRow base' e size v n xs := by
  refine ⟨h.1, ?_⟩
  rcases h.2 with h1 | ⟨g, cap, cur, h1, h2, h3, h4⟩
  · exact .inl h1
  · exact .inr ⟨g, cap, cur, h1, Nat.le_trans hb h2, h3, h4⟩
theorem rdV_own {w : World} {base g n cap : Nat} {L : List Vc} (h : w.ownsRow base 22 1 (.slice (some ⟨g, 0, none⟩) n cap) n (L.map slv)) (hr : ∀ v ∈ L, Rd .i8 w w.heap.size v.1 v.2.2) : RdV w w.heap.size (some ⟨g, 0, none⟩) L := fun hl => by
  have hn : n = L.length := by have := h.1; simpa using this.symm
  refine ⟨g, 0, rfl, (h.lt g rfl).2, fun i hi => ⟨?_, ?_⟩⟩
  · rw [Nat.zero_add, h.cellAt i (by omega)]
    simp [List.getElem?_eq_getElem hi, slv]
  · rw [List.getElem?_eq_getElem hi]
    exact hr _ (List.getElem_mem _)
theorem RdV.take {w : World} {B : Nat} {A : Option Addr} {L : List Vc} (h : RdV w B A L) (n : Nat) : RdV w B A (L.take n) := fun hl => by
  rw [List.length_take] at hl
  obtain ⟨b, off, hA, hb, hc⟩ := h (by omega)
  refine ⟨b, off, hA, hb, fun i hi => ?_⟩
  rw [List.length_take] at hi
  have := hc i (by omega)
  rw [List.getElem?_take, if_pos (by omega)]
  exact this
theorem vecs_range (s : Nat → Vc) (i : Nat) : vecs ((List.range i).map s) = (List.range i).map fun j => (s j).2.2 := by unfold vecs; rw [List.map_map]; rfl
theorem dim_range (f : Nat → List Int) (i n : Nat) (hi : 0 < i) (h : ∀ j, (f j).length = n) : dimOf ((List.range i).map f) = n := by
  unfold dimOf
  rw [List.getElem?_map, List.getElem?_range hi]
  exact h 0
theorem mayB_range (f : Nat → List Int) (i n : Nat) (hi : 0 < i) (hi2 : i ≤ 2048) (h1 : 1 ≤ n) (h2 : n ≤ 64) (h : ∀ j, (f j).length = n) : mayB ((List.range i).map f) = true := by
  have hd := dim_range f i n hi h
  refine decide_eq_true ⟨by simp; omega, by simp; omega, by omega, by omega, fun k hk => ?_⟩
  rw [hd, List.getElem?_map, List.getElem?_range (by simpa using hk)]
  exact h k
theorem quoB {vs : List (List Int)} (h1 : 1 ≤ vs.length) (h : ∀ v ∈ vs, ∀ x ∈ v, -127 ≤ x ∧ x ≤ 127) : ∀ x ∈ meanL vs, -127 ≤ x ∧ x ≤ 127 := by
  intro x hx
  unfold meanL at hx
  simp only [List.mem_map, List.mem_range] at hx
  obtain ⟨p, _, rfl⟩ := hx
  have sb : ∀ us : List (List Int), (∀ v ∈ us, ∀ x ∈ v, -127 ≤ x ∧ x ≤ 127) → -127 * (us.length : Int) ≤ sumP us p ∧ sumP us p ≤ 127 * (us.length : Int) := fun us => by
    induction us with
    | nil => intro _; simp [sumP]
    | cons v r ih =>
      intro hu
      have h1 := ih (fun u hu' => hu u (by simp [hu']))
      have h2 : -127 ≤ v[p]?.getD 0 ∧ v[p]?.getD 0 ≤ 127 := by
        rcases Nat.lt_or_ge p v.length with h3 | h3
        · rw [List.getElem?_eq_getElem h3]; exact hu v (by simp) _ (List.getElem_mem _)
        · rw [List.getElem?_eq_none h3]; simp
      have e : sumP (v :: r) p = v[p]?.getD 0 + sumP r p := by unfold sumP; simp
      rw [e]; simp only [List.length_cons]; omega
  exact quo_127 (by omega) (sb vs h)
theorem own_cap {w : World} {base e size n cap : Nat} {A : Option Addr} {xs : List Value} (h : w.ownsRow base e size (.slice A n cap) n xs) : n ≤ cap := by
  rcases h.2 with ⟨h1, h0⟩ | ⟨g', cap', cur, h1, _, _, h2, _⟩
  · injection h1 with _ _ h4; omega
  · injection h1 with _ _ h4; subst h4; exact h2
theorem meanAs (A : Option Addr) (c : Nat) (L : List Vc) (k : Nat) (hk : k = L.length) (w : World) (hx : RdV w w.heap.size A L) (h : mayB (vecs L) = true) (hb : B8 (vecs L)) (n : Nat) (hd : dimOf (vecs L) = n) (M : List Int) (hM : meanL (vecs L) = M) :
    Calls Try.prog 29 #[.slice A k c] w fun e w' => ∃ g, e = .returned (.tuple #[.slice (some ⟨g, 0, none⟩) n n, .int .i64 0]) ∧ Rd .i8 w' w'.heap.size (some ⟨g, 0, none⟩) M ∧ Below w.heap.size w w' := by
  refine (mean_yes A c L k hk w hx h hb).mono fun e w' hh => ?_
  obtain ⟨h1, h2, h3⟩ := hh
  rw [hd] at h1 h2
  rw [hM] at h2
  exact ⟨_, h1, rd_own h2, h3⟩
/-- What the two rows of vectors say when all are laid. -/
theorem Alike.read {base : Nat} {wr w : World} {n : Nat} {s T : Nat → Vc} {N g7 c7 g8 c8 : Nat} (h : Alike base wr n s T (.slice (some ⟨g7, 0, none⟩) N c7) (.slice (some ⟨g8, 0, none⟩) N c8) N) (hB : Below w.heap.size w wr) (hR : ∀ j, Rd .i8 w w.heap.size (s j).1 (s j).2.2) :
    RdV wr wr.heap.size (some ⟨g7, 0, none⟩) ((List.range N).map s) ∧ RdV wr wr.heap.size (some ⟨g8, 0, none⟩) ((List.range N).map T) ∧ vecs ((List.range N).map T) = negs (vecs ((List.range N).map s)) ∧ ∀ v ∈ vecs ((List.range N).map s), ∀ x ∈ v, -127 ≤ x := by
  refine ⟨rdV_own (by rw [List.map_map]; exact h.own7) (fun v hv => ?_), rdV_own (by rw [List.map_map]; exact h.own8) (fun v hv => ?_), ?_, fun v hv x hx => ?_⟩
  · simp only [List.mem_map, List.mem_range] at hv
    obtain ⟨j, _, rfl⟩ := hv
    exact ((hR j).below hB).more hB.size
  · simp only [List.mem_map, List.mem_range] at hv
    obtain ⟨j, hj, rfl⟩ := hv
    obtain ⟨A, c, e1, e2, e3, e4, e5⟩ := own_slice (h.rows j hj).2.1
    unfold slv at e1
    injection e1 with e1 _ _
    rw [e1]; exact e4
  · rw [vecs_range, vecs_range]
    unfold negs
    rw [List.map_map]
    apply List.map_congr_left
    intro j hj
    exact (h.rows j (List.mem_range.1 hj)).1
  · rw [vecs_range] at hv
    simp only [List.mem_map, List.mem_range] at hv
    obtain ⟨j, hj, rfl⟩ := hv
    exact (h.rows j hj).2.2 x hx
theorem vecs_first {s : Nat → Vc} {A : Option Addr} {a m0 N : Nat} {xs : List Int} (h : ∀ j, j ≤ m0 → s j = (A, a, xs)) (hN : m0 + 1 ≤ N) : vecs (((List.range N).map s).take (m0 + 1)) = List.replicate (m0 + 1) xs := by
  rw [← List.map_take, List.take_range, Nat.min_eq_left hN, vecs_range]
  apply List.ext_getElem
  · simp
  · intro i h1 h2
    simp only [List.length_map, List.length_range] at h1
    simp [h i (by omega)]

set_option maxRecDepth 100000 in
set_option maxHeartbeats 400000 in
theorem vecAlike_no (A B : Option Addr) (a b n m : Nat) (p q : Int) (w : World) (h : n = 0 ∨ 64 < n ∨ m ≠ n) :
    Calls Try.prog 9 #[.slice A n a, .slice B m b, .agg #[.int .u8 p, .int .u8 q]] w fun e w' => e = .returned (.bool true) ∧ Below w.heap.size w w' := by
  have HA := Lib.hid alive_any
  have hB0 : Below w.heap.size w (w.alloc (.cells #[.int .u8 p, .int .u8 q] 66)) := (Below.refl _ _).alloc (Nat.le_refl _) _
  by_cases h0 : n = 0
  · subst h0
    clear h
    go_enter Try.func9, Try.ntmps9
    go_wp2_with fail
    refine (HA.out _).mono ?_
    rintro e w1 ⟨rfl, hB1⟩
    have hB1' := hB0.trans (hB1.mono (by simp))
    go_wp2_with fail
    refine (HA.out _).mono ?_
    rintro e w3 ⟨rfl, hB3⟩
    go_wp2
    go_ret
    exact ⟨rfl, hB1'.trans (hB3.mono hB1'.size)⟩
  · have hz : ((n : Int) == 0) = false := by rw [beq_eq_false_iff_ne]; omega
    by_cases h1 : 64 < n
    · have hz1 : decide (64 < (n : Int)) = true := decide_eq_true (by omega)
      clear h h0
      go_enter Try.func9, Try.ntmps9
      go_wp2_with fail
      refine (HA.out _).mono ?_
      rintro e w1 ⟨rfl, hB1⟩
      have hB1' := hB0.trans (hB1.mono (by simp))
      go_wp2_with fail
      refine (HA.out _).mono ?_
      rintro e w3 ⟨rfl, hB3⟩
      go_wp2
      go_ret
      exact ⟨rfl, hB1'.trans (hB3.mono hB1'.size)⟩
    · have hz1 : decide (64 < (n : Int)) = false := decide_eq_false (by omega)
      have n1 : ((m : Int) != (n : Int)) = true := by simp; omega
      clear h h0
      go_enter Try.func9, Try.ntmps9
      go_wp2_with fail
      refine (HA.out _).mono ?_
      rintro e w1 ⟨rfl, hB1⟩
      have hB1' := hB0.trans (hB1.mono (by simp))
      go_wp2_with fail
      refine (HA.out _).mono ?_
      rintro e w3 ⟨rfl, hB3⟩
      go_wp2
      go_ret
      exact ⟨rfl, hB1'.trans (hB3.mono hB1'.size)⟩
theorem sel_any (A B : Option Addr) (a b : Nat) (xs ys : List Int) (m0 : Nat) : ∃ s : Nat → Vc, (∀ j, j ≤ m0 → s j = (A, a, xs)) ∧ ∀ j, m0 < j → s j = (B, b, ys) :=
  ⟨fun j => if j ≤ m0 then (A, a, xs) else (B, b, ys), fun j hj => if_pos hj, fun j hj => if_neg (by omega)⟩
set_option maxRecDepth 100000 in
set_option maxHeartbeats 4000000 in
theorem vecAlike_yes (A B : Option Addr) (a b : Nat) (xs ys : List Int) (n m0 m1 : Nat) (hn : xs.length = n) (hy : ys.length = n) (h1 : 1 ≤ n) (h2 : n ≤ 64) (hm0 : m0 ≤ 255) (hm1 : m1 ≤ 255) (w : World)
    (rx : Rd .i8 w w.heap.size A xs) (ry : Rd .i8 w w.heap.size B ys) (bx : ∀ x ∈ xs, -128 ≤ x ∧ x ≤ 127) (bY : ∀ x ∈ ys, -128 ≤ x ∧ x ≤ 127) :
    Calls Try.prog 9 #[.slice A n a, .slice B n b, .agg #[.int .u8 (m0 : Int), .int .u8 (m1 : Int)]] w fun e w' => e = .returned (.bool true) ∧ Below w.heap.size w w' := by
  obtain ⟨s, hs1, hs2⟩ := sel_any A B a b xs ys m0
  have HS1 := Lib.hid hs1
  have HS2 := Lib.hid hs2
  have HSL := Lib.hid (show ∀ j, (s j).2.2.length = n from fun j => by
    rcases Nat.lt_or_ge m0 j with h | h
    · rw [hs2 j h]; exact hy
    · rw [hs1 j h]; exact hn)
  have HSR := Lib.hid (show ∀ j, Rd .i8 w w.heap.size (s j).1 (s j).2.2 from fun j => by
    rcases Nat.lt_or_ge m0 j with h | h
    · rw [hs2 j h]; exact ry
    · rw [hs1 j h]; exact rx)
  have HSB := Lib.hid (show ∀ j, ∀ x ∈ (s j).2.2, -128 ≤ x ∧ x ≤ 127 from fun j => by
    rcases Nat.lt_or_ge m0 j with h | h
    · rw [hs2 j h]; exact bY
    · rw [hs1 j h]; exact bx)
  have HRX := Lib.hid rx
  have HNX := Lib.hid hn
  have HA := Lib.hid alive_any
  clear hs1 hs2 rx ry bx bY hn hy
  have z0 : ((n : Int) == 0) = false := by rw [beq_eq_false_iff_ne]; omega
  have z1 : decide (64 < (n : Int)) = false := decide_eq_false (by omega)
  have n1 : ((n : Int) != (n : Int)) = false := by simp
  obtain ⟨i0, hi, hz0, hz1, hz2⟩ := info_parts Try.info53
  obtain ⟨i2, hi', hy0, hy1, hy2⟩ := info_parts Try.info22
  have hB0 : Below w.heap.size w (w.alloc (.cells #[.int .u8 (m0 : Int), .int .u8 (m1 : Int)] 66)) := (Below.refl _ _).alloc (Nat.le_refl _) _
  have hW0 := Whole.new w 66 #[.int .u8 (m0 : Int), .int .u8 (m1 : Int)]
  go_enter Try.func9, Try.ntmps9
  go_wp2_with fail
  refine (HA.out _).mono ?_
  rintro e w1 ⟨rfl, hB1⟩
  have hB1' := hB0.trans (hB1.mono (by simp))
  have hW1 := hW0.below hB1 hW0.lt
  clear HA hB0 hB1 hW0
  go_wp2
  clear z0 z1 n1
  go_loopw [7, 8, 9] (fun u7 u8 i9 wr => ∃ (i : Nat) (T : Nat → Vc), i ≤ m0 + m1 + 1 ∧ i9 = .int .i64 i ∧ Hid (Alike w1.heap.size wr n s T u7 u8 i) ∧ Below w1.heap.size w1 wr) (fun _ _ i9 _ => m0 + m1 + 1 - (intOf i9).toNat)
  case atStart => exact ⟨0, s, by omega, rfl, Alike.start _ _ _ _, Below.refl _ _⟩
  case round =>
    obtain ⟨i, T, hil, rfl, HO, hB⟩ := hrel
    have hBw : Below w.heap.size w wr := hB1'.trans (hB.mono hB1'.size)
    have hWr := hW1.below hB hW1.lt
    have c0 := hWr.cell 0
    have c1 := hWr.cell 1
    simp only [List.getElem?_toArray, List.getElem?_cons_zero, List.getElem?_cons_succ] at c0 c1
    have hsz := hB.size
    by_cases hlt : i < m0 + m1 + 1
    · obtain ⟨V, c, vs, hV⟩ : ∃ V c vs, s i = (V, c, vs) := ⟨_, _, _, rfl⟩
      have hl := HSL.out i
      have hr := HSR.out i
      have hb := HSB.out i
      rw [hV] at hl hr hb
      have HV := Lib.hid hV
      have HVL := Lib.hid (show vs.length = n from hl)
      have HVB := Lib.hid (show ∀ x ∈ vs, -128 ≤ x ∧ x ≤ 127 from hb)
      obtain ⟨bV, oV, hVe, hbV, hcV⟩ := hr (by show 0 < vs.length; rw [show vs.length = n from hl]; exact h1)
      obtain rfl : V = some ⟨bV, oV, none⟩ := hVe
      have HVC := Lib.hid (show ∀ j, j < vs.length → w.cell? ⟨bV, oV + j, none⟩ = some (.int .i8 (vs[j]?.getD 0)) from hcV)
      clear hl hr hb hcV
      have hcase : (¬ m0 < i ∧ A = some ⟨bV, oV, none⟩ ∧ c = a) ∨ (m0 < i ∧ B = some ⟨bV, oV, none⟩ ∧ c = b) := by
        rcases Nat.lt_or_ge m0 i with h | h
        · have := HS2.out i h
          rw [hV] at this
          simp only [Prod.mk.injEq] at this
          exact .inr ⟨h, this.1.symm, this.2.1⟩
        · have := HS1.out i h
          rw [hV] at this
          simp only [Prod.mk.injEq] at this
          exact .inl ⟨by omega, this.1.symm, this.2.1⟩
      clear hV
      rcases hcase with ⟨hd, hAV, rfl⟩ | ⟨hd, hAV, rfl⟩
      all_goals
        subst hAV
        have z2 : (i : Int) < (m0 : Int) + (m1 : Int) + 1 := by omega
        go_wp2
        have hv0 : wr.ownsRow wr.heap.size 53 1 (.slice none 0 0) 0 (((vs.map (- ·)).take 0).map (Value.int .i8)) := by simpa using own_nil_row wr wr.heap.size 53
        clear c0 c1 hd z2
        obtain ⟨wo, hwo⟩ : ∃ wo : World, wo = wr := ⟨_, rfl⟩
        go_loopw [11, 12] (fun u k w2 => ∃ t : Nat, t ≤ n ∧ k = .int .i64 t ∧ w2.ownsRow wo.heap.size 53 1 u t (((vs.map (- ·)).take t).map (Value.int .i8)) ∧ Below wo.heap.size wo w2 ∧ Hid (∀ j x, j < t → vs[j]? = some x → -127 ≤ x)) (fun _ k _ => n - (intOf k).toNat)
        case atStart => subst hwo; exact ⟨0, by omega, rfl, hv0, Below.refl _ _, fun j x hj => by omega⟩
        case round =>
          subst hwo
          obtain ⟨t, ht, rfl, hown, hB2, HX⟩ := hrel
          have hsz2 := hB2.size
          have hBw2 : Below w.heap.size w wr := hBw.trans (hB2.mono hBw.size)
          by_cases hlt2 : t < n
          · obtain ⟨x, hx⟩ : ∃ x, vs[t]? = some x := ⟨_, List.getElem?_eq_getElem (by rw [HVL.out]; exact hlt2)⟩
            have hcx : wr.cell? ⟨bV, oV + t, none⟩ = some (.int .i8 x) := by
              rw [hBw2.cell (p := ⟨bV, oV + t, none⟩) hbV, HVC.out t (by rw [HVL.out]; exact hlt2), hx]; rfl
            have hbx := HVB.out x (List.mem_of_getElem? hx)
            have HX1 := Lib.hid hx
            clear hx
            by_cases hxe : x = -128
            · subst hxe
              go_wp2
              go_ret
              exact ⟨rfl, hBw2⟩
            · have hne : (x == -128) = false := by rw [beq_eq_false_iff_ne]; exact hxe
              have HS := Lib.hid (show (vs.map (- ·)).take t ++ [-x] = (vs.map (- ·)).take (t + 1) from take_snoc' (by rw [List.getElem?_map, HX1.out]; rfl))
              have HXN : Hid (∀ j x, j < t + 1 → vs[j]? = some x → -127 ≤ x) := fun j x' hj hx' => by
                by_cases e : j = t
                · subst e
                  rw [HX1.out] at hx'
                  simp only [Option.some.injEq] at hx'
                  omega
                · exact HX.out j x' (by omega) hx'
              have g0 : (0 : Int) ≤ (t : Int) := by omega
              have g1 : (t : Int) < (n : Int) := by omega
              have hxb : -127 ≤ x := by omega
              clear hxe
              go_wp2_with (at_builtin; refine wpList_append_lies _ rfl (.tmp 70) (.tmp 76) 22 rfl wo.heap.size 53 i0 (.int .i8 0) 1 1 Try.underlying22 hi hz0 hz1 hz2 rfl (by omega) _ t (((vs.map (- ·)).take t).map (Value.int .i8)) rfl (hown.alloc _) ⟨wr.heap.size, 0, none⟩ 1 1 [.int .i8 (-x)] rfl rfl (cell_one_new _ _ _) (by simp [Value.oneCell']) (by omega) (by unfold maxLen; omega) (by omega) (by simp; omega) (wr.heap.size + 1) (by simp) ?_; intro g cap w3 hown3 hg3 hat3 hlt3)
              have hB3 : Below wo.heap.size wo w3 := (hB2.alloc hsz2 _).grown hg3 (by simp; omega) (fun j hj => (hown.lt j hj).1)
              have hown4 : w3.ownsRow wo.heap.size 53 1 (.slice (some ⟨g, 0, none⟩) (t + 1) cap) (t + 1) (((vs.map (- ·)).take (t + 1)).map (Value.int .i8)) := by rw [← HS.out, List.map_append]; exact hown3
              clear hown hown3 hg3 hat3
              go_roundw
              case rel => exact ⟨t + 1, by omega, by go_num, hown4, hB3, HXN⟩
              case measure => simp [intOf]; omega
          · obtain rfl : t = n := by omega
            have HA2 := Lib.hid (HO.out.below hB2)
            have hvl : (vs.map (- ·)).take t = vs.map (- ·) := List.take_of_length_le (by rw [List.length_map, HVL.out]; omega)
            rw [hvl] at hown
            have hbb : w1.heap.size ≤ wo.heap.size := hB.size
            have hB2' : Below w1.heap.size w1 wr := hB.trans (hB2.mono hB.size)
            have hown' := own_base hown hbb
            obtain ⟨gt, ct, hgt⟩ : ∃ gt ct, u11 = .slice (some ⟨gt, 0, none⟩) t ct := by
              obtain ⟨t', rfl⟩ : ∃ t', t = t' + 1 := ⟨t - 1, by omega⟩
              exact ownsRow_succ hown'
            subst hgt
            have hsv : slv (s i) = .slice (some ⟨bV, oV, none⟩) t c := by rw [HV.out]; unfold slv; rw [HVL.out]
            have HSV := Lib.hid hsv
            have hZ : slv (some ⟨gt, 0, none⟩, ct, vs.map (- ·)) = .slice (some ⟨gt, 0, none⟩) t ct := by unfold slv; rw [List.length_map, HVL.out]
            have HZ := Lib.hid hZ
            have hszr := hB2'.size
            have HTO := Lib.hid hown'
            have HXT : Hid (∀ x ∈ vs, -127 ≤ x) := fun x hx => by
              obtain ⟨j, hj, rfl⟩ := List.mem_iff_getElem.1 hx
              exact HX.out j _ (by rw [HVL.out] at hj; exact hj) (List.getElem?_eq_getElem hj)
            clear hown hown' hvl hsv hZ HX HO hB hBw
            go_wp2_with (first
              | (at_builtin; refine wpList_append_lies _ rfl (.tmp 78) (.tmp 80) 58 rfl w1.heap.size 22 i2 (.slice none 0 0) 1 24 Try.underlying58 hi' hy0 hy1 hy2 rfl (by omega) _ i ((List.range i).map fun j => slv (s j)) rfl (HA2.out.own7.alloc _) ⟨wr.heap.size, 0, none⟩ 1 1 [.slice (some ⟨bV, oV, none⟩) t c] rfl rfl (cell_one_new _ _ _) (by simp [Value.oneCell']) (by omega) (by unfold maxLen; omega) (by omega) (by simp; omega) (wr.heap.size + 1) (by simp) ?_; intro g7 c7 W1 hown7 hg7 hat7 hlt7; have own8 := HA2.out.own8' hg7; have hB7 : Below w1.heap.size w1 W1 := (hB2'.alloc hszr _).grown hg7 (by simp; omega) (fun j hj => (HA2.out.own7.lt j hj).1); have hs7 := hB7.size)
              | (at_builtin; refine wpList_append_lies _ rfl (.tmp 82) (.tmp 84) 58 rfl w1.heap.size 22 i2 (.slice none 0 0) 1 24 Try.underlying58 hi' hy0 hy1 hy2 rfl (by omega) _ i ((List.range i).map fun j => slv (T j)) rfl (own8.alloc _) ⟨W1.heap.size, 0, none⟩ 1 1 [.slice (some ⟨gt, 0, none⟩) t ct] rfl rfl (cell_one_new _ _ _) (by simp [Value.oneCell']) (by omega) (by unfold maxLen; omega) (by omega) (by simp; omega) (W1.heap.size + 1) (by simp) ?_; intro g8 c8 W2 hown8 hg8 hat8 hlt8; have hB8 : Below w1.heap.size w1 W2 := (hB7.alloc hs7 _).grown hg8 (by simp; omega) (fun j hj => (own8.lt j hj).1)))
            rw [← HSV.out] at hown7
            rw [← HZ.out] at hown8
            have HN := Lib.hid (HA2.out.step hszr (V := (some ⟨gt, 0, none⟩, ct, vs.map (- ·))) (by rw [HZ.out]; exact HTO.out) (by rw [HV.out]) (by rw [HV.out]; exact HXT.out) hg7 hown7 hat7 hg8 hown8 hat8)
            clear hown7 hown8 hg7 hg8 hat7 hat8 own8
            go_roundw
            case rel => exact ⟨i + 1, _, by omega, by go_num, HN.out, hB8⟩
            case measure => simp [intOf]; omega
    · obtain rfl : i = m0 + m1 + 1 := by omega
      obtain ⟨g7, c7, hg7⟩ := ownsRow_succ HO.out.own7
      obtain ⟨g8, c8, hg8⟩ := ownsRow_succ HO.out.own8
      subst hg7 hg8
      have hcap := own_cap HO.out.own7
      obtain ⟨r7, r8, hneg, hlow⟩ := HO.out.read hBw HSR.out
      have hfst := vecs_first (N := m0 + m1 + 1) HS1.out (by omega)
      have hvr := vecs_range s (m0 + m1 + 1)
      have hd := dim_range (fun j => (s j).2.2) (m0 + m1 + 1) n (by omega) HSL.out
      have hmb := mayB_range (fun j => (s j).2.2) (m0 + m1 + 1) n (by omega) (by omega) h1 h2 HSL.out
      rw [← hvr] at hd hmb
      have hB8 : B8 (vecs ((List.range (m0 + m1 + 1)).map s)) := fun v hv x hx => by
        rw [hvr] at hv
        simp only [List.mem_map, List.mem_range] at hv
        obtain ⟨j, _, rfl⟩ := hv
        exact HSB.out j x hx
      have hlen : (vecs ((List.range (m0 + m1 + 1)).map s)).length = m0 + m1 + 1 := by rw [vecs_len]; simp
      have hlenS : ((List.range (m0 + m1 + 1)).map s).length = m0 + m1 + 1 := by simp
      have hlenT : ((List.range (m0 + m1 + 1)).map T).length = m0 + m1 + 1 := by simp
      have hMB := quoB (by rw [hlen]; omega) (fun v hv x hx => ⟨hlow v hv x hx, (hB8 v hv x hx).2⟩)
      have hMN := meanL_negs _ (show 1 ≤ (vecs ((List.range (m0 + m1 + 1)).map s)).length by rw [hlen]; omega)
      have hML := meanL_len (vecs ((List.range (m0 + m1 + 1)).map s))
      rw [hd] at hML
      have hdn := negs_dim (vecs ((List.range (m0 + m1 + 1)).map s))
      rw [← hneg] at hMN hdn
      rw [hd] at hdn
      have hmbn : mayB (vecs ((List.range (m0 + m1 + 1)).map T)) = true := by
        rw [hneg, hvr]
        unfold negs
        rw [List.map_map]
        exact mayB_range _ _ n (by omega) (by omega) h1 h2 (fun j => by simp [HSL.out j])
      have hB8n : B8 (vecs ((List.range (m0 + m1 + 1)).map T)) := fun v hv x hx => by
        rw [hneg] at hv
        unfold negs at hv
        simp only [List.mem_map] at hv
        obtain ⟨u, hu, rfl⟩ := hv
        simp only [List.mem_map] at hx
        obtain ⟨y, hy, rfl⟩ := hx
        have q1 := hlow u hu y hy
        have q2 := hB8 u hu y hy
        omega
      have hd3 := dim_range (fun j => (s j).2.2) (m0 + 1) n (by omega) HSL.out
      have hmb3 := mayB_range (fun j => (s j).2.2) (m0 + 1) n (by omega) (by omega) h1 h2 HSL.out
      rw [← vecs_range] at hd3 hmb3
      have htk : ((List.range (m0 + m1 + 1)).map s).take (m0 + 1) = (List.range (m0 + 1)).map s := by rw [← List.map_take, List.take_range, Nat.min_eq_left (by omega)]
      have h83 : B8 (vecs ((List.range (m0 + 1)).map s)) := fun v hv x hx => by
        rw [vecs_range] at hv
        simp only [List.mem_map, List.mem_range] at hv
        obtain ⟨j, _, rfl⟩ := hv
        exact HSB.out j x hx
      have hm3 : meanL (vecs ((List.range (m0 + 1)).map s)) = xs := by rw [← htk, hfst]; exact meanL_rep _ _ (by omega)
      have H1 := Lib.hid (meanAs (some ⟨g7, 0, none⟩) c7 ((List.range (m0 + m1 + 1)).map s) (m0 + m1 + 1) hlenS.symm wr r7 hmb hB8 n hd _ rfl)
      have H2 := Lib.hid (fun W (hW : Below wr.heap.size wr W) => meanAs (some ⟨g8, 0, none⟩) c8 ((List.range (m0 + m1 + 1)).map T) (m0 + m1 + 1) hlenT.symm W ((r8.below hW).more hW.size) hmbn hB8n n hdn _ hMN)
      have H3 := Lib.hid (fun W (hW : Below wr.heap.size wr W) => meanAs (some ⟨g7, 0, none⟩) c7 ((List.range (m0 + 1)).map s) (m0 + 1) (by simp) W (((by rw [← htk]; exact r7.take _ : RdV wr wr.heap.size (some ⟨g7, 0, none⟩) ((List.range (m0 + 1)).map s)).below hW).more hW.size) hmb3 h83 n hd3 xs hm3)
      generalize meanL (vecs ((List.range (m0 + m1 + 1)).map s)) = M at H1 H2 hMB hML
      have HML := Lib.hid hML
      have HMB := Lib.hid hMB
      clear hlow hneg hfst hvr hd hmb hB8 hlen hlenS hlenT hMN hML hdn hmbn hB8n hd3 hmb3 htk h83 hm3 hMB r7 r8 HO hlt
      go_wp2_with fail
      refine H1.out.mono ?_
      intro e w2 h2'
      obtain ⟨ga, rfl, ra, hBa⟩ := h2'
      go_wp2_with fail
      refine (H2.out _ hBa).mono ?_
      intro e w3 h3'
      obtain ⟨gb, rfl, rb, hBb⟩ := h3'
      have hBab := hBa.trans (hBb.mono hBa.size)
      have hW3 := hWr.below hBab hWr.lt
      have c3 := hW3.cell 0
      simp only [List.getElem?_toArray, List.getElem?_cons_zero] at c3
      have ra3 := (ra.below hBb).more hBb.size
      clear H1 H2 c0 c1 ra hBb hBa hW1 hWr hW3
      go_wp2_with fail
      refine (H3.out _ hBab).mono ?_
      intro e w4 h4'
      obtain ⟨gc, rfl, rc, hBc⟩ := h4'
      have ra4 := (ra3.below hBc).more hBc.size
      have rb4 := (rb.below hBc).more hBc.size
      have hBall := hBab.trans (hBc.mono hBab.size)
      have hBw4 := hBw.trans (hBall.mono hBw.size)
      have H4 := Lib.hid (same8_any (some ⟨gc, 0, none⟩) A n a xs xs w4 w4.heap.size rc ((HRX.out.below hBw4).more hBw4.size) (by rw [HNX.out]; omega) (by rw [HNX.out]; omega))
      rw [HNX.out, show eqB xs xs = true from decide_eq_true rfl] at H4
      clear H3 ra3 rb rc hBc hBab hBall c3
      go_wp2_with fail
      refine H4.out.mono ?_
      rintro e w5 ⟨rfl, nq, rfl⟩
      have hB5 := below_drewN hBw4 nq
      have ra5 : Rd .i8 (w4.drewN nq) (w4.drewN nq).heap.size (some ⟨ga, 0, none⟩) M := ra4
      have rb5 : Rd .i8 (w4.drewN nq) (w4.drewN nq).heap.size (some ⟨gb, 0, none⟩) (M.map (- ·)) := rb4
      clear H4 ra4 rb4 hBw4
      generalize w4.drewN nq = w5 at hB5 ra5 rb5 ⊢
      have HRA := Lib.hid ra5
      have HRB := Lib.hid rb5
      clear ra5 rb5 hBw hB hsz
      go_wp2
      go_loopw [19] (fun i wr => ∃ t : Nat, t ≤ n ∧ i = .int .i64 t ∧ Below w5.heap.size w5 wr) (fun i _ => n - (intOf i).toNat)
      case atStart => exact ⟨0, by omega, rfl, Below.refl _ _⟩
      case round =>
        obtain ⟨t, ht, rfl, hB⟩ := hrel
        have hBw := hB5.trans (hB.mono hB5.size)
        by_cases hlt : t < n
        · obtain ⟨b1, o1, x, hA1, _, hcx, hvx⟩ := (HRA.out.below hB).at_ (i := t) (by rw [HML.out]; exact hlt)
          obtain ⟨b2, o2, y, hA2, _, hcy, hvy⟩ := (HRB.out.below hB).at_ (i := t) (by rw [List.length_map, HML.out]; exact hlt)
          simp only [Option.some.injEq, Addr.mk.injEq, and_true] at hA1 hA2
          obtain ⟨rfl, rfl⟩ := hA1
          obtain ⟨rfl, rfl⟩ := hA2
          have kx : M[t]? = some x := by rw [← hvx.out, List.getElem?_eq_getElem (by rw [HML.out]; exact hlt)]; rfl
          have hy : y = -x := by rw [← hvy.out, List.getElem?_map, kx]; rfl
          subst hy
          obtain ⟨q1, q2⟩ := HMB.out x (List.mem_of_getElem? kx)
          have g0 : (0 : Int) ≤ (t : Int) := by omega
          have g1 : (t : Int) < (n : Int) := by omega
          rw [Nat.zero_add] at hcx hcy
          have hne : (x != x) = false := by simp
          clear kx hvx hvy
          go_wp2
          go_quiet (fail)
          go_wp2
          go_roundw
          case rel => exact ⟨t + 1, by omega, by go_num, below_drewN hB _⟩
          case measure => simp [intOf]; omega
        · go_wp2
          go_ret
          exact ⟨rfl, hBw⟩
end Go.Proofs.Ytegphnlfhcokfaa
