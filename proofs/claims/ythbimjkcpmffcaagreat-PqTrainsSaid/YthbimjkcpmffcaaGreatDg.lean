/- Several texts in one. -/
import Derived.Test.YthbimjkcpmffcaaGreatDe
import Derived.Laws.EntriesVeiled
import Derived.Test.YthbimjkcpmffcaaGreatDc
import Derived.Test.YthbimjkcpmffcaaGreatOw
/- The walk of Shuffle. -/
namespace Go.Proofs.YthbimjkcpmffcaaGreat
open Go.RowKit Go.Shelf
set_option linter.unusedVariables false
attribute [local go_sem] Oper.semAt_some
theorem Whole.kept {W W' : World} {b B : Nat} {t : TypeId} {cs : Array Value} {row : Option Nat} (h : Whole W b t cs) (hg : W.grownBy W' row) (hr : ∀ r, row = some r → B ≤ r ∧ ∃ o : Obj, W.heap[r]? = some o ∧ o.isCells = false) : Whole W' b t cs :=
  (hg.block b h.lt (fun e => by
    obtain ⟨_, o, ho, hc⟩ := hr b e.symm
    rw [show W.heap[b]? = _ from h] at ho
    cases ho
    cases hc)).trans h
theorem Whole.put {W : World} {b D : Nat} {t : TypeId} {cs : Array Value} {o o' : Obj} (h : Whole W b t cs) (ho : W.heap[D]? = some o) (hc : o.isCells = false) : Whole (W.putObj D o') b t cs :=
  (World.putObj_heap_other (fun e => by
    subst e
    rw [show W.heap[b]? = _ from h] at ho
    cases ho
    cases hc)).trans h
theorem keepsFrom_turn {A : List Nat} {B : Nat} {W W' : World} (h : Turn A W W') (hA : ∀ a ∈ A, a < B) : KeepsFrom B W W' :=
  ⟨h.size, fun k o hk ho _ => (h.block k (Array.getElem?_eq_some_iff.1 ho).1 (fun ha => by have := hA k ha; omega)).trans ho⟩
theorem sd_cell {w W1 W2 : World} {s : Nat} {o : Obj} (hW0 : Whole (w.alloc o) w.heap.size 63 #[.int .u64 s]) (hrb : Below (w.heap.size + 1) (w.alloc o) W1) (hrs : Hid (W1.heap.size = w.heap.size + 1 + 1)) (hxb : Below W1.heap.size W1 W2) (hxs : Hid (W2.heap.size = W1.heap.size + 2)) (o2 : Obj) :
    (W2.alloc o2).cell? ⟨w.heap.size, 0, none⟩ = some (.int .u64 s) := by
  have h1 := hW0.below hrb (by omega)
  have h2 := h1.below hxb (by have := hrs.out; omega)
  exact (h2.alloc o2).cell 0
/-- Shuffle's state behind some draws. -/
structure ShSt (B n s : Nat) (w : World) (pre : List (Dr n)) (W : World) : Prop where
  seed : Whole W B 63 #[.int .u64 (lastOf s (vals pre) : Nat)]
  row : Whole W (B + 1) 3 (rowI (app (List.range n) (n - 1) (vals pre)))
  lst : Whole W (B + 2) 73 #[.slice (some ⟨B + 1, 0, none⟩) n n]
  place : Whole W (B + 3) 3 #[.int .i64 ((n : Int) - 1 - (pre.length : Int))]
  take : Whole W (B + 4) 186 #[.func (.func 153) #[] #[.pointer (some ⟨B + 2, 0, none⟩), .pointer (some ⟨B + 3, 0, none⟩)]]
  bel : Below B w W
theorem two_news (w : World) (x : Obj) (y : Obj) {a b : Array Value} {t u : TypeId} (hx : x = .cells a t) (hy : y = .cells b u) : Whole ((w.alloc x).alloc y) w.heap.size t a ∧ Whole ((w.alloc x).alloc y) (w.heap.size + 1) u b ∧ Below w.heap.size w ((w.alloc x).alloc y) ∧ ((w.alloc x).alloc y).heap.size = w.heap.size + 2 := by
  subst hx hy
  refine ⟨(Whole.new w t a).alloc _, ?_, ((Below.refl _ w).alloc (Nat.le_refl _) _).alloc (by simp) _, by simp⟩
  have := Whole.new (w.alloc (.cells a t)) u b
  rwa [World.size_alloc] at this
/-- exchanger, its boxes told. -/
theorem exch_any (A : Option Addr) (n c : Nat) (hn : n ≤ 2048) (w : World) : Calls Tryz.prog 143 #[.slice A n c] w fun e w' => e = .returned (.func (.func 153) #[] #[.pointer (some ⟨w.heap.size, 0, none⟩), .pointer (some ⟨w.heap.size + 1, 0, none⟩)]) ∧
    Whole w' w.heap.size 73 #[.slice A n c] ∧ Whole w' (w.heap.size + 1) 3 #[.int .i64 ((n : Int) - 1)] ∧ Below w.heap.size w w' ∧ Hid (w'.heap.size = w.heap.size + 2) :=
  (exchanger_any A n c hn w).mono fun e w' ⟨h1, h2⟩ => by subst h2; exact ⟨h1, two_news w _ _ rfl rfl⟩
theorem draw_any (s n : Nat) (w : World) : Calls Tryz.prog 144 #[.int .u64 s, .int .i64 n] w fun e w' => e = .returned (.func (.func 154) #[] #[.pointer (some ⟨w.heap.size, 0, none⟩), .pointer (some ⟨w.heap.size + 1, 0, none⟩)]) ∧
    Whole w' w.heap.size 63 #[.int .u64 s] ∧ Whole w' (w.heap.size + 1) 3 #[.int .i64 n] ∧ Below w.heap.size w w' ∧ Hid (w'.heap.size = w.heap.size + 2) :=
  (drawsFor_any s n w).mono fun e w' ⟨h1, h2⟩ => by subst h2; exact ⟨h1, two_news w _ _ rfl rfl⟩
set_option maxRecDepth 100000 in
set_option maxHeartbeats 2000000 in
theorem shuffle_yes (s n : Nat) (hn : n ≤ 2048) (w : World) : CallsIn Fence.wide 9 Tryz.prog 132 #[.int .u64 s, .int .i64 n] w fun e w' =>
    ∃ g, e = .returned (.tuple #[.slice (some ⟨g, 0, none⟩) n n, .int .u64 (shufS s n : Nat), .int .i64 0]) ∧ w.heap.size ≤ g ∧ Whole w' g 3 (rowI (shufL s n)) ∧ Below w.heap.size w w' := by
  have f20 : Fence.wide.fn 142 := trivial
  have f21 : Fence.wide.fn 143 := trivial
  have f22 : Fence.wide.fn 144 := trivial
  have f25 : Fence.wide.fn 153 := trivial
  have h1 : 1 ≤ 9 := by omega
  have e1 : decide ((n : Int) < 0) = false := decide_eq_false (by omega)
  have e2 : decide ((2048 : Int) < n) = false := decide_eq_false (by omega)
  have hW0 : Whole (w.alloc (.cells #[.int .u64 s] 63)) w.heap.size 63 #[.int .u64 s] := Whole.new w 63 _
  have hB0 : Below w.heap.size w (w.alloc (.cells #[.int .u64 s] 63)) := below_one (Below.refl _ _) _
  have HR0 := rising_any n hn (w.alloc (.cells #[.int .u64 s] 63))
  rw [World.size_alloc] at HR0
  have HR := Lib.hid HR0
  clear HR0
  refine callsIn_of_wp_marks Tryz.func132 rfl trivial ?_ rfl
  simp only [Tryz.ntmps132, List.size_toArray, List.length_cons, List.length_nil, Nat.reduceAdd, Nat.reduceSub, Array.replicate_succ, Array.replicate_zero, List.push_toArray, List.append_toArray, List.nil_append, List.cons_append]
  gi_wp2_with (first
    | (gi_at_call 142; refine (callsIn_wide.2 HR.out).mono ?_; rintro e W1 ⟨rfl, hr1, hrb, hrs0⟩; have hrs := Lib.hid hrs0; clear hrs0)
    | (gi_at_call 143; refine (callsIn_wide.2 (exch_any _ n n hn _)).mono ?_; rintro e W2 ⟨rfl, hx1, hx2, hxb, hxs⟩
       have hse := Lib.hid (sd_cell hW0 hrb hrs hxb hxs (.cells #[.func (.func 153) #[] #[.pointer (some ⟨W1.heap.size, 0, none⟩), .pointer (some ⟨W1.heap.size + 1, 0, none⟩)]] 186))
       have hc0 := hse.out
       have hcn : (W2.alloc (.cells #[.nilFunc] 186)).cell? ⟨W2.heap.size, 0, none⟩ = some .nilFunc := (Whole.new W2 186 _).cell 0
       have hfn : (W2.alloc (.cells #[.nilFunc] 186)).frozen? ⟨W2.heap.size, 0, none⟩ = false := (Whole.new W2 186 _).frozen 0)
    | (gi_at_call 144; refine (callsIn_wide.2 (draw_any s n _)).mono ?_; rintro e W3 ⟨rfl, hd1, hd2, hdb, hds⟩))
  have st0 : ShSt w.heap.size n s w [] W3 ∧ Whole W3 (w.heap.size + 5) 63 #[.int .u64 s] ∧ Whole W3 (w.heap.size + 6) 3 #[.int .i64 n] ∧ W3.heap.size = w.heap.size + 7 ∧ W1.heap.size = w.heap.size + 2 ∧ W2.heap.size = w.heap.size + 4 := by
    have s1 : W1.heap.size = w.heap.size + 2 := hrs.out
    have s2 : W2.heap.size = w.heap.size + 4 := by have := hxs.out; omega
    have s3 := hds.out
    rw [World.size_alloc] at s3 hd1 hd2 hdb
    have ta := (Whole.new W2 186 #[.func (.func 153) #[] #[.pointer (some ⟨W1.heap.size, 0, none⟩), .pointer (some ⟨W1.heap.size + 1, 0, none⟩)]]).below hdb (by omega)
    have q0 := (((hW0.below hrb (by omega)).below hxb (by omega)).alloc (.cells #[.func (.func 153) #[] #[.pointer (some ⟨W1.heap.size, 0, none⟩), .pointer (some ⟨W1.heap.size + 1, 0, none⟩)]] 186)).below hdb (by omega)
    have q1 := ((hr1.below hxb (by omega)).alloc (.cells #[.func (.func 153) #[] #[.pointer (some ⟨W1.heap.size, 0, none⟩), .pointer (some ⟨W1.heap.size + 1, 0, none⟩)]] 186)).below hdb (by omega)
    have q2 := (hx1.alloc (.cells #[.func (.func 153) #[] #[.pointer (some ⟨W1.heap.size, 0, none⟩), .pointer (some ⟨W1.heap.size + 1, 0, none⟩)]] 186)).below hdb (by omega)
    have q3 := (hx2.alloc (.cells #[.func (.func 153) #[] #[.pointer (some ⟨W1.heap.size, 0, none⟩), .pointer (some ⟨W1.heap.size + 1, 0, none⟩)]] 186)).below hdb (by omega)
    have q4 := (((hB0.trans (hrb.mono (by omega))).trans (hxb.mono (by omega))).alloc (by omega) (.cells #[.func (.func 153) #[] #[.pointer (some ⟨W1.heap.size, 0, none⟩), .pointer (some ⟨W1.heap.size + 1, 0, none⟩)]] 186)).trans (hdb.mono (by omega))
    rw [s1] at q2 q3
    rw [s2] at ta hd1 hd2
    rw [s1] at ta
    refine ⟨⟨q0, q1, q2, ?_, ta, q4⟩, hd1, hd2, by omega, s1, s2⟩
    simpa using q3
  obtain ⟨st0, hd1', hd2', s3, s1, s2⟩ := st0
  clear hd1 hd2 hdb hds hxs hxb hx1 hx2 hrs hr1 hrb hse hc0 hcn hfn hW0 hB0 HR
  rw [s1, s2]
  clear s1 s2
  refine wpIn_rangeFunc_O rfl h1 (gf := 154) (lb := #[.pointer (some ⟨w.heap.size + 4 + 1, 0, none⟩), .pointer (some ⟨w.heap.size + 4 + 1 + 1, 0, none⟩)]) rfl trivial (enters_of Tryz.func154 (by kernel_rfl) rfl)
    (draws_seq n (9 - 1) (w.heap.size + 5) (w.heap.size + 6) s hn (by omega) W3 hd1' hd2') (fun _ _ => trivial) (fun _ _ _ _ _ _ _ _ => trivial) (Below.refl _ _) (fun _ => rfl)
    (fun pre W => ShSt w.heap.size n s w pre W) (fun _ _ _ => False)
    (fun pre W W' row hs hg hr => ⟨hs.seed.kept hg hr, hs.row.kept hg hr, hs.lst.kept hg hr, hs.place.kept hg hr, hs.take.kept hg hr, hs.bel.grown hg hs.bel.size (fun k e => by have := (hr k e).1; omega)⟩)
    (fun _ _ _ _ _ hs _ _ => hs)
    st0
    (fun x => { tmps := #[.int .u64 s, .int .i64 n, .pointer (some ⟨w.heap.size, 0, none⟩), undef, .slice none 0 0, .int .u64 0, .int .i64 0, .slice (some ⟨w.heap.size + 1, 0, none⟩) n n, .pointer (some ⟨w.heap.size + 4, 0, none⟩), .int .i64 (x.val.1 : Nat), .int .u64 (x.val.2 : Nat),
      .int .i64 n, .bool false, .bool false, .int .i64 n, .bool false, .bool false, .int .i64 n, .slice (some ⟨w.heap.size + 1, 0, none⟩) n n, .slice (some ⟨w.heap.size + 1, 0, none⟩) n n,
      .func (.func 153) #[] #[.pointer (some ⟨w.heap.size + 2, 0, none⟩), .pointer (some ⟨w.heap.size + 2 + 1, 0, none⟩)], .int .u64 s, .int .i64 n,
      .func (.func 154) #[] #[.pointer (some ⟨w.heap.size + 4 + 1, 0, none⟩), .pointer (some ⟨w.heap.size + 4 + 1 + 1, 0, none⟩)], .int .i64 (x.val.1 : Nat), .int .u64 (x.val.2 : Nat), undef, undef, undef, undef, undef, undef], defers := [] }) ?assign ?body ?done ?stop
  case assign =>
    intro l x W K hK
    simp only [encD]
    gi_wp2
    exact hK
  case body =>
    rintro l pre x W hs hlen
    have hx := x.property
    have hlen2 : pre.length + 1 < n := by omega
    obtain ⟨p, hp⟩ : ∃ p : Nat, (n : Int) - 1 - (pre.length : Int) = p := ⟨n - 1 - pre.length, by omega⟩
    have hpn : p = n - 1 - pre.length := by omega
    have c8 : W.cell? ⟨w.heap.size + 4, 0, none⟩ = some (.func (.func 153) #[] #[.pointer (some ⟨w.heap.size + 2, 0, none⟩), .pointer (some ⟨w.heap.size + 3, 0, none⟩)]) := hs.take.cell 0
    have hpl := hs.place
    rw [hp] at hpl
    have HT0 := take_any (w.heap.size + 2) (w.heap.size + 3) (w.heap.size + 1) n p x.val.1 _ (by rw [app_len, List.length_range]) hn (by omega) hx W hs.lst hpl hs.row (by omega)
    have HT := Lib.hid HT0
    clear HT0
    have hs := hs
    have q0 := hs.seed
    have q2 := hs.lst
    have q4 := hs.take
    have qb := hs.bel
    clear hs hpl
    gi_wp2_with (gi_at_call 153; refine (CallsIn.inRound l (callsIn_wide.2 HT.out)).mono ?_; rintro e W4 ⟨rfl, t1, t2, t3, t4⟩; have z0 := q0.turn t3 (by simp); have cs : W4.cell? ⟨w.heap.size, 0, none⟩ = some (.int .u64 (lastOf s (vals pre) : Nat)) := z0.cell 0; have fs := z0.frozen 0; have T4 := Lib.hid t4; clear t4)
    have hk : KeepsFrom W3.heap.size W (W4.setCell ⟨w.heap.size, 0, none⟩ (.int .u64 (x.val.2 : Nat))) :=
      keepsFrom_turn (A := [w.heap.size, w.heap.size + 1, w.heap.size + 3]) ((t3.more (by simp)).setCell (.inl (by simp)) _) (by simp; omega)
    refine ⟨hk, trivial, ⟨?_, ?_, ?_, ?_, ?_, ?_⟩⟩
    · rw [vals_snoc, lastOf_snoc]
      exact z0.set 0 _
    · rw [vals_snoc, app_snoc, vals_len, ← hpn]
      exact t1.far (by simp) _
    · exact (q2.turn t3 (by simp)).far (by simp) _
    · have e : (n : Int) - 1 - ((pre ++ [x]).length : Int) = (p : Int) - 1 := by rw [List.length_append, List.length_singleton]; omega
      rw [e]
      exact t2.far (by simp) _
    · exact (q4.turn t3 (by simp)).far (by simp) _
    · exact (qb.trans (t3.below (by simp) qb.size)).setCell (p := ⟨w.heap.size, 0, none⟩) (Nat.le_refl _) _
  case done =>
    rintro D ys W hD hys hs hK
    have cs : W.cell? ⟨w.heap.size, 0, none⟩ = some (.int .u64 (lastOf s (vals ys) : Nat)) := hs.seed.cell 0
    gi_wp2
    gi_region
    gi_wp2
    have hK' : W.drew.heap[D]? = some (.deferred (some [])) := hK
    have hr : Whole W.drew (w.heap.size + 1) 3 (rowI (app (List.range n) (n - 1) (vals ys))) := hs.row
    rw [hys] at hr
    refine ⟨by simp, .inl ⟨_, _, rfl, run_takeDeferred hK', ?_⟩⟩
    exact ⟨_, results_tmp3 rfl _ _ _, w.heap.size + 1, rfl, by omega, hr.put hK' rfl, hs.bel.drew.trans (belowK_b (w := w) (Nat.le_refl _) W.drew D _ _ (by omega) hK' rfl rfl)⟩
  case stop =>
    rintro D c pre W _ _ h _
    exact h.elim
/-- What Shuffle answers, of any number. -/
def ShufYes (s : Nat) (n : Int) (w : World) (e : Ending) (w' : World) : Prop :=
  Below w.heap.size w w' ∧ if 0 ≤ n ∧ n ≤ 2048 then ∃ g, e = .returned (.tuple #[.slice (some ⟨g, 0, none⟩) n.toNat n.toNat, .int .u64 (shufS s n.toNat : Nat), .int .i64 0]) ∧ w.heap.size ≤ g ∧ Whole w' g 3 (rowI (shufL s n.toNat))
    else e = .returned (.tuple #[.slice none 0 0, .int .u64 0, .int .i64 1])
set_option maxRecDepth 100000 in
theorem shuffle_no (s : Nat) (n : Int) (h : ¬ (0 ≤ n ∧ n ≤ 2048)) (w : World) : Calls Tryz.prog 132 #[.int .u64 s, .int .i64 n] w fun e w' => e = .returned (.tuple #[.slice none 0 0, .int .u64 0, .int .i64 1]) ∧ Below w.heap.size w w' := by
  have hB0 : Below w.heap.size w (w.alloc (.cells #[.int .u64 s] 63)) := below_one (Below.refl _ _) _
  go_enter Tryz.func132, Tryz.ntmps132
  by_cases h1 : n < 0
  · have e1 : decide (n < 0) = true := decide_eq_true h1
    go_wp2
    refine bodyPost_ret (results_tmp3 rfl _ _ _) rfl ?_
    exact ⟨rfl, hB0⟩
  · have e1 : decide (n < 0) = false := decide_eq_false h1
    have e2 : decide (2048 < n) = true := decide_eq_true (by omega)
    go_wp2
    refine bodyPost_ret (results_tmp3 rfl _ _ _) rfl ?_
    exact ⟨rfl, hB0⟩
theorem shuffle_any (s : Nat) (n : Int) (w : World) : Calls Tryz.prog 132 #[.int .u64 s, .int .i64 n] w (ShufYes s n w) := by
  by_cases h : 0 ≤ n ∧ n ≤ 2048
  · obtain ⟨m, rfl⟩ := Int.eq_ofNat_of_zero_le h.1
    refine (callsIn_wide.1 (shuffle_yes s m (by omega) w)).mono ?_
    rintro e w' ⟨g, h1, h2, h3, h4⟩
    refine ⟨h4, ?_⟩
    rw [if_pos h, Int.toNat_natCast]
    exact ⟨g, h1, h2, h3⟩
  · refine (shuffle_no s n h w).mono ?_
    rintro e w' ⟨h1, h2⟩
    refine ⟨h2, ?_⟩
    rw [if_neg h]
    exact h1
end Go.Proofs.YthbimjkcpmffcaaGreat
/- The walk of Pick. -/
namespace Go.Proofs.YthbimjkcpmffcaaGreat
open Go.RowKit Go.Shelf
set_option linter.unusedVariables false
theorem rowI_ints (l : List Nat) : rowI l = ((ints l).map (Value.int .i64)).toArray := by simp [rowI, ints]
theorem ints_getD (l : List Nat) (j : Nat) : (ints l).getD j 0 = ((l[j]?.getD 0 : Nat) : Int) := by rw [List.getD_eq_getElem?_getD]; exact ints_at l j
set_option maxRecDepth 100000 in
set_option maxHeartbeats 1000000 in
theorem pick_yes (s n k : Nat) (hn : n ≤ 2048) (hk : k ≤ n) (w : World) : Calls Tryz.prog 123 #[.int .u64 s, .int .i64 n, .int .i64 k] w fun e w' =>
    ∃ v, e = .returned (.tuple #[v, .int .u64 (shufS s n : Nat), .int .i64 0]) ∧ v ≠ .slice none 0 0 ∧ w'.ownsRow w.heap.size 3 1 v k ((ints (pkL s n k)).map (Value.int .i64)) ∧ Below w.heap.size w w' := by
  have e1 : decide ((k : Int) < 0) = false := decide_eq_false (by omega)
  have e2 : decide ((n : Int) < k) = false := decide_eq_false (by omega)
  have HS := Lib.hid (callsIn_wide.1 (shuffle_yes s n hn w))
  go_enter Tryz.func123, Tryz.ntmps123
  go_wp2_with (first
    | (go_at_call 132; refine HS.out.mono ?_; rintro e W1 ⟨g, rfl, hg, hw, hb⟩
       have HC := Lib.hid (clone_any g k n (ints (shufL s n)) W1 (by rw [ints_len, shufL_len]; exact hk) (by omega) (fun j hj => by
         rw [ints_len] at hj
         rw [hw.cell0 j, rowI_at hj, ints_getD]))
       have HW := Lib.hid hw
       clear hw)
    | (go_at_call 133; refine HC.out.mono ?_; rintro e W2 ⟨v, rfl, hv, hv0, hb2⟩
       have HO := Lib.hid (sort_own _ _ _ _ _ hv (by omega)))
    | (go_at_call 134; refine HO.out.mono ?_; rintro e W3 ⟨rfl, hv3, hg3⟩))
  refine bodyPost_ret (results_tmp3 rfl _ _ _) rfl ?_
  refine ⟨v, rfl, hv0, ?_, ?_⟩
  · have h := own_base hv3 hb.size
    rw [ints_take, sort_pick (take_ok s n k).1 (take_ok s n k).2] at h
    exact h
  · exact (hb.trans (hb2.mono hb.size)).grown hg3 (by have := hb.size; have := hb2.size; omega) (fun r hr => by
      have := (hv.lt r hr).1; have := hb.size; omega)
set_option maxRecDepth 100000 in
theorem pick_no (s : Nat) (n k : Int) (h : ¬ (0 ≤ k ∧ k ≤ n ∧ n ≤ 2048)) (w : World) : Calls Tryz.prog 123 #[.int .u64 s, .int .i64 n, .int .i64 k] w fun e w' => e = .returned (.tuple #[.slice none 0 0, .int .u64 0, .int .i64 1]) ∧ Below w.heap.size w w' := by
  go_enter Tryz.func123, Tryz.ntmps123
  by_cases h1 : k < 0
  · have e1 : decide (k < 0) = true := decide_eq_true h1
    go_wp2
    refine bodyPost_ret (results_tmp3 rfl _ _ _) rfl ?_
    exact ⟨rfl, Below.refl _ _⟩
  · have e1 : decide (k < 0) = false := decide_eq_false h1
    by_cases h2 : n < k
    · have e2 : decide (n < k) = true := decide_eq_true h2
      go_wp2
      refine bodyPost_ret (results_tmp3 rfl _ _ _) rfl ?_
      exact ⟨rfl, Below.refl _ _⟩
    · have e2 : decide (n < k) = false := decide_eq_false h2
      have HS := Lib.hid (shuffle_no s n (by omega) w)
      go_wp2_with (go_at_call 132; refine HS.out.mono ?_; rintro e W1 ⟨rfl, hb⟩)
      refine bodyPost_ret (results_tmp3 rfl _ _ _) rfl ?_
      exact ⟨rfl, hb⟩
end Go.Proofs.YthbimjkcpmffcaaGreat
