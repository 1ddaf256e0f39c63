/- The walks of the list's own Push and Pop, and of the library's Push and Pop (container/heap) at it. -/
import Derived.Test.YtkmngbkghgelfaaGreatHc
import Derived.Test.YtkmngbkghgelfaaGreatOw
import Derived.Test.YtkmngbkghgelfaaGreatVw
import Derived.Deep.AppendLies
namespace Go.Proofs.YtkmngbkghgelfaaGreat
open Go.Shelf Go.RowKit Go.Lib
open Go.Sort hiding Below
set_option linter.unusedVariables false
theorem ta28 (v : Value) (w : World) : Sem.run Tryz.prog (Instr.typeAssert (.iface 78 v) 20 78 false) w = .ok v w := by
  simp [Instr.typeAssert, run_underlying Tryz.underlying78, Result.andThen]
set_option maxRecDepth 100000 in
theorem wPop_any (b g n c : Nat) (x y : Int) (w : World) (c0 : w.cell? ⟨b, 0, none⟩ = some (.slice (some ⟨g, 0, none⟩) (n + 1) c)) (f0 : w.frozen? ⟨b, 0, none⟩ = false)
    (k1 : w.cell? ⟨g, n * 2, none⟩ = some (.int .u64 x)) (k2 : w.cell? ⟨g, n * 2 + 1, none⟩ = some (.int .i64 y)) (hc : n + 1 ≤ c) (hs : n < 1000000) :
    Calls Tryz.prog 175 #[.pointer (some ⟨b, 0, none⟩)] w fun e w' => e = .returned (.iface 78 (.agg #[.int .u64 x, .int .i64 y])) ∧ w' = (w.alloc (.cells #[.int .u64 x, .int .i64 y] 78)).setCell ⟨b, 0, none⟩ (.slice (some ⟨g, 0, none⟩) n c) := by
  have hb := World.block_lt_of_cell? w _ c0
  go_enter Tryz.func175, Tryz.ntmps175
  go_wp2
  go_ret
  exact ⟨rfl, rfl⟩
/-- Behind the list's Push. -/
def PushYes (b : Nat) (m : Value) (most : Int) (v : Value) (n : Nat) (L : List (Int × Int)) (z : Int × Int) (w : World) (e : Ending) (w' : World) : Prop :=
  e = .returned (.tuple #[]) ∧ ∃ g c, Whole w' b 105 #[.slice (some ⟨g, 0, none⟩) (n + 1) c, m, .int .i64 most] ∧ w'.ownsRow 0 78 2 (.slice (some ⟨g, 0, none⟩) (n + 1) c) (n + 1) (flatH (L ++ [z])) ∧ Turn (b :: v.ownBlock.toList) w w' ∧ (v.ownBlock = some g ∨ w.heap.size ≤ g)
theorem push_end {b n g c : Nat} {m : Value} {most : Int} {v : Value} {L : List (Int × Int)} {z : Int × Int} {w w2 : World} {X : Obj} (hb : Whole w b 105 #[v, m, .int .i64 most]) (ho : w.ownsRow 0 78 2 v n (flatH L))
    (ho2 : w2.ownsRow 0 78 2 (.slice (some ⟨g, 0, none⟩) (n + 1) c) (n + 1) (flatH L ++ [.int .u64 z.1, .int .i64 z.2])) (hg : (w.alloc X).drew.grownBy w2 v.ownBlock) (hat : v.ownBlock = some g ∨ g = w.heap.size + 1) :
    PushYes b m most v n L z w (.returned (.tuple #[])) (w2.setCell ⟨b, 0, none⟩ (.slice (some ⟨g, 0, none⟩) (n + 1) c)) := by
  have hne : v.ownBlock ≠ some b := own_apart ho hb (by decide)
  have ht : Turn v.ownBlock.toList w w2 := (((Turn.refl _ w).alloc X).drew).trans (Turn.of_grown hg) (fun k hk => .inl hk)
  have hb2 : Whole w2 b 105 #[v, m, .int .i64 most] := hb.turn ht (fun h => by simp at h; exact hne h)
  have hgb : g ≠ b := fun e => by
    subst e
    rcases hat with h | h
    · exact hne h
    · have := hb.lt; omega
  have hz : flatH (L ++ [z]) = flatH L ++ [.int .u64 z.1, .int .i64 z.2] := by rw [flatH_app]; rfl
  refine ⟨rfl, g, c, by simpa using hb2.set 0 _, ?_, ?_, ?_⟩
  · rw [hz]
    exact own_turn ho2 ((Turn.refl [b] w2).setCell (p := ⟨b, 0, none⟩) (.inl (by simp)) _) (fun g' h => by simp [Value.ownBlock] at h; subst h; simpa using hgb)
  · exact (ht.more (fun a h => List.mem_cons_of_mem _ h)).setCell (p := ⟨b, 0, none⟩) (.inl (by simp)) _
  · rcases hat with h | h
    · exact .inl h
    · exact .inr (by omega)
theorem Tryz.info78k : (Tryz.prog.info? 78).map (fun i => (i.zero, i.size, i.bytes)) = some (some (.agg #[.int .u64 0, .int .i64 0]), 2, 16) := by kernel_rfl
set_option maxRecDepth 100000 in
set_option maxHeartbeats 2000000 in
theorem wPush_any (b n : Nat) (m : Value) (most : Int) (A : Option Addr) (c : Nat) (L : List (Int × Int)) (x y : Int) (w : World) (hb : Whole w b 105 #[.slice A n c, m, .int .i64 most]) (ho : w.ownsRow 0 78 2 (.slice A n c) n (flatH L)) (hs : n < 1000000) :
    Calls Tryz.prog 176 #[.pointer (some ⟨b, 0, none⟩), .iface 78 (.agg #[.int .u64 x, .int .i64 y])] w (PushYes b m most (.slice A n c) n L (x, y) w) := by
  obtain ⟨i0, hi, hz0, hz1, hz2⟩ := info_parts Tryz.info78k
  have hlt := hb.lt
  have c0 : w.cell? ⟨b, 0, none⟩ = some (.slice A n c) := hb.cell 0
  have f0 := hb.frozen 0
  have hrow : (Value.slice A n c).ownBlock ≠ some b := own_apart ho hb (by decide)
  have K1 : Hid (∀ X, (w.alloc X).drew.cell? ⟨b, 0, none⟩ = some (.slice A n c) ∧ (w.alloc X).drew.frozen? ⟨b, 0, none⟩ = false) := fun X =>
    ⟨(World.cell?_alloc_lt w X ⟨b, 0, none⟩ hlt).trans c0, (World.frozen?_of_block (w := w) (w' := w.alloc X) (Below.heap_alloc w X b hlt)).trans f0⟩
  have EN := Lib.hid (fun w2 g gc X ho2 hg hat => push_end (w2 := w2) (g := g) (c := gc) (X := X) (z := (x, y)) (most := most) hb ho ho2 hg hat)
  have hta := ta28
  go_enter Tryz.func176, Tryz.ntmps176
  go_wp2
  clear hb
  go_region_law
    ((refine step_append_lies _ (by rfl) _ _ _ (by rfl) 0 78 i0 _ 2 16 Tryz.underlying100 hi hz0 hz1 hz2 rfl (by omega) (.slice A n c) n (flatH L) (by rfl) ((ho.alloc _).drew)
        ⟨w.heap.size, 0, none⟩ 1 1 [.int .u64 x, .int .i64 y] (by rfl) (by rfl) (World.news_of_block (cs := #[.int .u64 x, .int .i64 y]) (t := 78) (fr := (0, 0)) (heap_alloc_new w _)) (by simp [Value.oneCell'])
        (by omega) (by unfold maxLen; omega) (by omega) (by simp) (w.heap.size + 1) (by simp) ?_; intro gg gcap w2 hown2 hgrow hat hlt2; have e1 := (hgrow.cell_far (a := ⟨b, 0, none⟩) (by simp; omega) (Ne.symm hrow)).trans (K1.out _).1; have e2 := (hgrow.frozen_far (a := ⟨b, 0, none⟩) (by simp; omega) (Ne.symm hrow)).trans (K1.out _).2))
  all_goals
    go_end0
    exact EN.out _ _ _ _ hown2 hgrow hat
theorem own_rowK {w : World} {g n c : Nat} {L : List (Int × Int)} (h : w.ownsRow 0 78 2 (.slice (some ⟨g, 0, none⟩) n c) n (flatH L)) : RowK encH 2 w g 0 L.toArray ∧ n = L.length ∧ n ≤ c := by
  have hl := h.1
  rw [flatH_len] at hl
  rcases h.2 with ⟨hv, _⟩ | ⟨g', cap, cur, hv, _, hg, hnc, _, hcs, htk⟩
  · cases hv
  · injection hv with q1 q2 q3
    injection q1 with q1
    injection q1 with q1
    subst q1 q3
    refine ⟨rowK2 (fun j hj => ?_) (Array.getElem?_eq_some_iff.1 hg).1, by omega, hnc⟩
    rw [size_flatK] at hj
    have hj' : j < L.length * 2 := by simpa using hj
    rw [Nat.zero_add]
    refine ⟨?_, frozen_of_row w g j cur 78 hg⟩
    rw [cell_of_row w g j cur 78 (0, 0) hg]
    have e1 : cur[j]? = (flatH L)[j]? := by
      rw [← htk, List.getElem?_take, if_pos (by omega)]; simp
    rw [e1, flatK_flatH]
    simp only [id]
    rw [getElem!_pos _ j (by simp [flatH_len]; omega), List.getElem?_eq_getElem (by rw [flatH_len]; omega)]
    rfl
theorem swk_turn {w w' : World} {g : Nat} {d : HA} (S : SWK encH 2 w g 0 d w') : Turn [g] w w' := by
  have hb := fun k hk (hl : k < w.heap.size) => swk_block S (k := k) hk hl
  have hle := S.le
  obtain ⟨n, os, rfl⟩ := S
  exact ⟨rfl, rfl, rfl, hle, fun k hk hn => hb k (by simpa using hn) hk⟩
theorem swk_own {w w' : World} {g n c : Nat} {d : HA} {L : List (Int × Int)} (h : w.ownsRow 0 78 2 (.slice (some ⟨g, 0, none⟩) n c) n (flatH L)) (hd : d.size = n) (S : SWK encH 2 w g 0 d w') : w'.ownsRow 0 78 2 (.slice (some ⟨g, 0, none⟩) n c) n (flatH d.toList) := by
  refine ⟨by rw [flatH_len]; simp [hd], .inr ?_⟩
  rcases h.2 with ⟨hv, _⟩ | ⟨g', cap, cur, hv, h0, hg, hnc, hcm, hcs, htk⟩
  · cases hv
  · injection hv with q1 q2 q3
    injection q1 with q1
    injection q1 with q1
    subst q1 q3
    obtain ⟨m, os, rfl⟩ := S
    have hgl := (Array.getElem?_eq_some_iff.1 hg).1
    refine ⟨g, c, putCells id 0 (flatK encH 2 d) cur, rfl, h0, ?_, hnc, hcm, ?_, ?_⟩
    · unfold sortWorldK
      rw [heap_grow_old _ _ (by rw [size_putRowK]; exact hgl)]
      unfold putRowK putRow mapBlock
      show (w.heap.modify g _)[g]? = _
      rw [Array.getElem?_modify, if_pos rfl, hg]
      rfl
    · unfold putCells; rw [Array.size_mapIdx]; exact hcs
    · have hd2 : n * 2 ≤ c * 2 := by omega
      apply List.ext_getElem?
      intro i
      rw [List.getElem?_take]
      by_cases hi : i < n * 2
      · rw [if_pos hi, Array.getElem?_toList]
        unfold putCells
        rw [Array.getElem?_mapIdx, Array.getElem?_eq_getElem (by omega : i < cur.size)]
        have hi2 : i < d.size * 2 := by omega
        simp only [Option.map_some]
        rw [if_pos (by rw [size_flatK]; omega), Nat.sub_zero]
        rw [flatK_flatH, getElem!_pos _ i (by simp [flatH_len]; omega)]
        simp only [id]
        rw [List.getElem?_eq_getElem (by rw [flatH_len]; simpa using hi2)]
        simp
      · rw [if_neg hi, List.getElem?_eq_none (by rw [flatH_len]; simp [hd]; omega)]
theorem perm_of_permIn {d d' : HA} {n : Nat} (h : PermIn 0 n d d') (hn : n = d.size) : d'.toList.Perm d.toList := by
  obtain ⟨h1, _, h3⟩ := h
  subst hn
  have e1 : d.extract 0 d.size = d := by simp
  have e2 : d'.extract 0 d.size = d' := by rw [← h1]; simp
  rwa [e1, e2] at h3
/-- A list of hits in block b, as a heap, the worst first. -/
structure LAt (w : World) (b : Nat) (m : Value) (most : Int) (v : Value) (n : Nat) (L : List (Int × Int)) : Prop where
  blk : Whole w b 105 #[v, m, .int .i64 most]
  row : w.ownsRow 0 78 2 v n (flatH L)
  hp : Hp L.toArray n
theorem LAt.len {w : World} {b n : Nat} {m : Value} {most : Int} {v : Value} {L : List (Int × Int)} (h : LAt w b m most v n L) : n = L.length := by
  have := h.row.1; rw [flatH_len] at this; omega
def LPushed (b : Nat) (m : Value) (most : Int) (v : Value) (n : Nat) (L : List (Int × Int)) (z : Int × Int) (w : World) (e : Ending) (w' : World) : Prop :=
  e = .returned (.tuple #[]) ∧ ∃ g c L', LAt w' b m most (.slice (some ⟨g, 0, none⟩) (n + 1) c) (n + 1) L' ∧ L'.Perm (L ++ [z]) ∧ Turn (b :: v.ownBlock.toList) w w' ∧ (v.ownBlock = some g ∨ w.heap.size ≤ g)
theorem getL (L : List (Int × Int)) (k : Nat) : L.toArray[k]! = L[k]?.getD default := by
  simp [getElem!_def]
  cases L[k]? <;> rfl
set_option maxRecDepth 100000 in
set_option maxHeartbeats 1000000 in
theorem hPush_any (b n : Nat) (m : Value) (most : Int) (v : Value) (L : List (Int × Int)) (x y : Int) (w : World) (h : LAt w b m most v n L) (hs : n < 1000000) :
    Calls Tryz.prog 138 #[.iface 194 (.pointer (some ⟨b, 0, none⟩)), .iface 78 (.agg #[.int .u64 x, .int .i64 y])] w (LPushed b m most v n L (x, y) w) := by
  obtain ⟨A, q, c, rfl⟩ := own_form h.row
  obtain rfl : q = n := by
    rcases h.row.2 with ⟨hv, h0⟩ | ⟨g, cap, cur, hv, _⟩
    · injection hv with _ q2 _; omega
    · injection hv
  have m1 := fun W v => mPush W v
  have H1 := Lib.hid (wPush_any b q m most A c L x y w h.blk h.row hs)
  have HL := Lib.hid h
  clear h
  go_enter Tryz.func138, Tryz.ntmps138
  go_wp2_with fail
  refine H1.out.mono ?_
  rintro e w1 ⟨rfl, g, c', hb1, ho1, ht1, hat⟩
  have c1 : w1.cell? ⟨b, 0, none⟩ = some (.slice (some ⟨g, 0, none⟩) (q + 1) c') := hb1.cell 0
  have m2 := mLen w1 b _ c1
  obtain ⟨R, hn, hnc⟩ := own_rowK ho1
  have hne : b ≠ g := fun e => own_apart ho1 hb1 (by decide) (by rw [e]; rfl)
  have hl : L.length = q := HL.out.len.symm
  have hus : UpBut (L ++ [(x, y)]).toArray (q + 1) q := UpBut.start HL.out.hp (fun k hk => by
    rw [getL, getL, List.getElem?_append_left (by omega)])
  have h2 := up_any b g (q + 1) c' q (L ++ [(x, y)]).toArray w1 R c1 hne hb1.lt (by simpa using hn) (by omega) (by omega) hus
  have H2 := Lib.hid h2
  have HB := Lib.hid (⟨hb1, ho1, ht1, hat, hn⟩ : _ ∧ _ ∧ _ ∧ _ ∧ _)
  clear h2 R hus hb1 ho1 ht1 hat hn c1 H1 m1 hl
  have H3 := Lib.hid (wLen_any (some ⟨g, 0, none⟩) (q + 1) c' w1)
  go_wp2_with fail
  refine H3.out.mono ?_
  rintro e w2 ⟨rfl, rfl⟩
  go_wp2_with fail
  refine H2.out.mono ?_
  rintro e w3 ⟨rfl, d', hS, hP, hp⟩
  go_wp2
  go_end0
  obtain ⟨hb1, ho1, ht1, hat, hn⟩ := HB.out
  have hds : d'.size = q + 1 := by rw [hP.1]; simpa using hn.symm
  refine ⟨rfl, g, c', d'.toList, ⟨hb1.turn (swk_turn hS) (by simpa using hne), swk_own ho1 hds hS, by simpa using hp⟩, by simpa using perm_of_permIn hP (by simpa using hn), ht1.trans (swk_turn hS) (fun k hk => ?_), hat⟩
  simp only [List.mem_singleton] at hk
  subst hk
  rcases hat with h | h
  · exact .inl (by rw [h]; simp)
  · exact .inr h
theorem flatH_take (xs : List (Int × Int)) (k : Nat) : (flatH xs).take (k * 2) = flatH (xs.take k) := by
  induction xs generalizing k with
  | nil => simp [flatH]
  | cons x r ih =>
    cases k with
    | zero => simp [flatH]
    | succ k =>
      have e : flatH (x :: r) = Value.int .u64 x.1 :: Value.int .i64 x.2 :: flatH r := rfl
      rw [e, show (k + 1) * 2 = k * 2 + 1 + 1 by omega, List.take_succ_cons, List.take_succ_cons, ih, List.take_succ_cons]
      rfl
/-- The farthest one. -/
def top (L : List (Int × Int)) : Int × Int := L.toArray[0]!
theorem top_far {L : List (Int × Int)} (h : Hp L.toArray L.length) : ∀ y ∈ L, ltH (top L) y = false := fun y hy => by
  obtain ⟨k, hk, rfl⟩ := List.getElem_of_mem hy
  have := h.root k hk
  rwa [getL L k, List.getElem?_eq_getElem hk] at this
theorem top_mem {L : List (Int × Int)} (h : 0 < L.length) : top L ∈ L := by
  unfold top
  rw [getL, List.getElem?_eq_getElem h]
  simp
theorem perm_pop {d : HA} {q : Nat} {L : List (Int × Int)} {t : Int × Int} (hd : d.size = q + 1) (hp : d.toList.Perm L) (ht : d[q]! = t) : (t :: d.toList.take q).Perm L := by
  have e : d.toList = d.toList.take q ++ [t] := by
    have h1 := List.take_append_drop q d.toList
    have h2 : d.toList.drop q = [t] := by
      rw [List.drop_eq_getElem_cons (by simp; omega), List.drop_of_length_le (by simp; omega)]
      rw [← ht, getElem!_pos d q (by omega)]
      simp
    rw [h2] at h1
    exact h1.symm
  refine List.Perm.trans ?_ hp
  conv => rhs; rw [e]
  exact (List.perm_append_singleton _ _).symm
def LPopped (b : Nat) (m : Value) (most : Int) (g c q : Nat) (L : List (Int × Int)) (w : World) (e : Ending) (w' : World) : Prop :=
  e = .returned (.iface 78 (.agg #[.int .u64 (top L).1, .int .i64 (top L).2])) ∧ ∃ L', LAt w' b m most (.slice (some ⟨g, 0, none⟩) q c) q L' ∧ (top L :: L').Perm L ∧ Turn [b, g] w w'
set_option maxRecDepth 100000 in
set_option maxHeartbeats 1000000 in
theorem hPop_any (b q g c : Nat) (m : Value) (most : Int) (L : List (Int × Int)) (w : World) (h : LAt w b m most (.slice (some ⟨g, 0, none⟩) (q + 1) c) (q + 1) L) (hs : q < 1000000) :
    Calls Tryz.prog 137 #[.iface 194 (.pointer (some ⟨b, 0, none⟩))] w (LPopped b m most g c q L w) := by
  have hl : L.length = q + 1 := h.len.symm
  have hne : b ≠ g := fun e => own_apart h.row h.blk (by decide) (by rw [e]; rfl)
  obtain ⟨R, hn, hnc⟩ := own_rowK h.row
  have c0 : w.cell? ⟨b, 0, none⟩ = some (.slice (some ⟨g, 0, none⟩) (q + 1) c) := h.blk.cell 0
  have hbl := h.blk.lt
  have m1 := mLen w b _ c0
  have m2 := mSwap w b _ c0
  have m3 := fun W v => mPop W v
  have hz : L.toArray.size = q + 1 := by simpa using hl
  have H1 := Lib.hid (wLen_any (some ⟨g, 0, none⟩) (q + 1) c w)
  have H2 := Lib.hid (wSwap_any g (q + 1) c 0 q L.toArray L.toArray w w R rfl (SWK.start R.hH) (by omega) (by omega) (by omega))
  have HL := Lib.hid (⟨h, R, hz⟩ : _ ∧ _ ∧ _)
  clear h R hn hz hl
  go_enter Tryz.func137, Tryz.ntmps137
  go_wp2_with fail
  refine H1.out.mono ?_
  rintro e w1 ⟨rfl, rfl⟩
  go_wp2_with fail
  refine H2.out.mono ?_
  rintro e w2 ⟨rfl, S2⟩
  have hz1 : (swp L.toArray 0 q).size = q + 1 := by rw [size_swp]; exact HL.out.2.2
  have c2 := (swk_cell S2 (i := 0) hne hbl).trans c0
  have hd := DnBut.start (d' := swp L.toArray 0 q) (m := q) HL.out.1.hp (by omega) (fun k h1 h2 => swp_other L.toArray 0 q k (by omega) (by omega))
  have hbl2 : b < w2.heap.size := Nat.lt_of_lt_of_le hbl S2.le
  have R2 : RowK encH 2 w2 g 0 (swp L.toArray 0 q) := rowK2 (S2.holds HL.out.2.1.hblk HL.out.2.1.hH (by rw [size_swp])) (S2.lt HL.out.2.1.hblk)
  have h3 := down_any b g (q + 1) c q (swp L.toArray 0 q) w2 R2 c2 hne hbl2 hz1.symm (by omega) (by omega) hd
  have H3 := Lib.hid h3
  have HS := Lib.hid (⟨S2, R2, hz1⟩ : _ ∧ _ ∧ _)
  clear h3 S2 R2 hd H1 H2 m1 m2 hz1
  go_wp2_with fail
  refine H3.out.mono ?_
  rintro e w3 ⟨⟨r, rfl⟩, d', S3, P3, hp3⟩
  obtain ⟨S2, R2, hz1⟩ := HS.out
  have c3 := (swk_cell S3 (i := 0) hne hbl2).trans c2
  have hz3 : d'.size = q + 1 := P3.1.trans hz1
  have htop : d'[q]! = top L := by
    rw [P3.2.1 q (.inr (Nat.le_refl _)), swp_right _ _ _ (by have := HL.out.2.2; omega)]
    rfl
  have k3 := cellsH (S3.holds R2.hblk R2.hH (by omega)) (i := q) (by omega)
  rw [htop] at k3
  have hb3 : Whole w3 b 105 #[.slice (some ⟨g, 0, none⟩) (q + 1) c, m, .int .i64 most] := (HL.out.1.blk.turn (swk_turn S2) (by simpa using hne)).turn (swk_turn S3) (by simpa using hne)
  have h4 := wPop_any b g q c (top L).1 (top L).2 w3 c3 (hb3.frozen 0) k3.1 k3.2 hnc hs
  have H4 := Lib.hid h4
  have HE := Lib.hid (⟨S3, P3, hp3, hz3, htop, hb3⟩ : _ ∧ _ ∧ _ ∧ _ ∧ _ ∧ _)
  clear h4 S2 R2 hz1 S3 P3 hp3 hz3 htop k3 hb3 H3 c3
  go_wp2_with fail
  refine H4.out.mono ?_
  rintro e w4 ⟨rfl, rfl⟩
  go_wp2
  go_ret
  obtain ⟨S2, R2, hz1⟩ := HS.out
  obtain ⟨S3, P3, hp3, hz3, htop, hb3⟩ := HE.out
  have hgl := S3.lt R2.hblk
  have ho2 := swk_own HL.out.1.row (by rw [size_swp]; exact HL.out.2.2) S2
  have ho3 := own_shrink (c := q) (by omega) (swk_own ho2 hz3 S3)
  rw [flatH_take] at ho3
  have hpm : PermIn 0 (q + 1) L.toArray d' := permIn_trans _ _ _ _ _ (swp_permIn L.toArray 0 (q + 1) 0 q (by omega) (by omega) (by omega) (by omega) (by have := HL.out.2.2; omega)) (permIn_mono _ _ 0 q 0 (q + 1) (by omega) (by omega) (by omega) P3)
  have ht4 : Turn [b, g] w1 ((w3.alloc (.cells #[.int .u64 (top L).1, .int .i64 (top L).2] 78)).setCell ⟨b, 0, none⟩ (.slice (some ⟨g, 0, none⟩) q c)) :=
    ((((swk_turn S2).trans (swk_turn S3) (fun k hk => .inl hk)).more (B := [b, g]) (fun k hk => by simp at hk; simp [hk])).alloc _).setCell (p := ⟨b, 0, none⟩) (.inl (by simp)) _
  refine ⟨rfl, d'.toList.take q, ⟨?_, ?_, ?_⟩, perm_pop hz3 (by simpa using perm_of_permIn hpm (by have := HL.out.2.2; omega)) htop, ht4⟩
  · have := (hb3.alloc (.cells #[.int .u64 (top L).1, .int .i64 (top L).2] 78)).set 0 (.slice (some ⟨g, 0, none⟩) q c)
    simpa using this
  · exact own_turn (ho3.alloc _) ((Turn.refl [b] _).setCell (p := ⟨b, 0, none⟩) (.inl (by simp)) _) (fun g' h => by simp [Value.ownBlock] at h; subst h; simpa using Ne.symm hne)
  · intro k h1 h2
    have := hp3 k h1 h2
    have e : ∀ j, j < q → (d'.toList.take q).toArray[j]! = d'[j]! := fun j hj => by
      rw [getL, List.getElem?_take, if_pos hj, Array.getElem?_toList, getElem!_def]
      cases d'[j]? <;> rfl
    rw [e k h2, e _ (by omega)]
    exact this
end Go.Proofs.YtkmngbkghgelfaaGreat
