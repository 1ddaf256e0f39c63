/- Several texts in one. -/
import Derived.Test.YthbimjkcpmffcaaGreatWd
import Derived.Test.YthbimjkcpmffcaaGreatMe
import Derived.Test.YthbimjkcpmffcaaGreatWr
import Derived.Test.YthbimjkcpmffcaaGreatWh
import Derived.Maps.AppendAt
/- Package pq: may vectors be, and so many parts of them. -/
namespace Go.Proofs.YthbimjkcpmffcaaGreat
open Go.RowKit Go.Shelf
set_option linter.unusedVariables false
attribute [local go_sem] Oper.semAt_some
def canT (vs : List (List Int)) (P : Int) : Bool := decide (mayB vs = true ∧ 1 ≤ P ∧ P ≤ (dimOf vs : Int))
theorem canT_no {vs : List (List Int)} {P : Int} (h : ¬ (mayB vs = true ∧ 1 ≤ P ∧ P ≤ (dimOf vs : Int))) : canT vs P = false := decide_eq_false h
set_option maxRecDepth 100000 in
set_option maxHeartbeats 1000000 in
theorem canTrain_any (A : Option Addr) (c : Nat) (L : List Vc) (P : Int) (w : World) (hx : VArg w A L) :
    Calls Tryz.prog 83 #[.slice A L.length c, .int .i64 P] w fun e w' => e = .returned (.bool (canT (vecs L) P)) ∧ w = w' := by
  have HVL := Lib.hid (vecs_len L)
  have hl := hx.len
  by_cases h0 : L.length = 0
  · have e1 : ((L.length : Int) == 0) = true := beq_iff_eq.2 (by omega)
    have HR := Lib.hid (show canT (vecs L) P = false from canT_no (fun h => by have := (mayB_yes h.1).1; rw [vecs_len] at this; omega))
    clear hx h0
    go_enter Tryz.func83, Tryz.ntmps83
    go_wp2
    go_ret
    exact ⟨by rw [HR.out]; rfl, rfl⟩
  · have e1 : ((L.length : Int) == 0) = false := by rw [beq_eq_false_iff_ne]; omega
    by_cases h1 : 2048 < L.length
    · have e2 : decide ((2048 : Int) < (L.length : Int)) = true := decide_eq_true (by omega)
      have HR := Lib.hid (show canT (vecs L) P = false from canT_no (fun h => by have := (mayB_yes h.1).2.1; rw [vecs_len] at this; omega))
      clear hx h0 h1
      go_enter Tryz.func83, Tryz.ntmps83
      go_wp2
      go_ret
      exact ⟨by rw [HR.out]; rfl, rfl⟩
    · have e2 : decide ((2048 : Int) < (L.length : Int)) = false := decide_eq_false (by omega)
      obtain ⟨b, off, a0, c0, v, rfl, hb, hc0, hrd, hv⟩ := hx.rd.at_ (i := 0) (by omega)
      rw [Nat.add_zero] at hc0
      have hd0 : dimOf (vecs L) = v.length := dim0 hv.out
      have hz : (0 : Int) < (L.length : Int) := by omega
      have HC := Lib.hid (canCut_any (v.length : Int) P)
      have HH := Lib.hid (have8_any (some ⟨b, off, none⟩) c L L.length rfl (v.length : Int) w _ hx.rd (by omega))
      cases hcut : cutB (v.length : Int) P with
      | false =>
        rw [hcut] at HC
        have HR := Lib.hid (show canT (vecs L) P = false from canT_no (fun h => cutB_no hcut (by have h3 := mayB_yes h.1; rw [hd0] at h3 h; omega)))
        clear hx h0 h1 hrd hv hd0 hcut HH
        go_enter Tryz.func83, Tryz.ntmps83
        go_wp2_with (go_at_call 38; refine (HC.out _).mono ?_; rintro e w1 ⟨rfl, rfl⟩)
        go_ret
        exact ⟨by rw [HR.out]; rfl, rfl⟩
      | true =>
        rw [hcut] at HC
        have HR := Lib.hid (show canT (vecs L) P = haveL (vecs L) (v.length : Int) by
          have h3 := cutB_yes hcut
          cases hh : haveL (vecs L) (v.length : Int) with
          | true =>
            have h4 := of_decide_eq_true hh
            have h5 := mayB_of (vs := vecs L) (d := v.length) (by rw [vecs_len]; omega) (by rw [vecs_len]; omega) (by omega) (by omega) (fun u hu => by have := h4 u hu; omega)
            exact decide_eq_true ⟨h5.1, h3.2.2.1, by rw [h5.2]; exact h3.2.2.2⟩
          | false =>
            refine canT_no (fun h => of_decide_eq_false hh (fun u hu => ?_))
            rw [mayB_len h.1 u hu, hd0])
        clear hx h0 h1 hrd hv hd0 hcut
        go_enter Tryz.func83, Tryz.ntmps83
        go_wp2_with (first
          | (go_at_call 38; refine (HC.out _).mono ?_; rintro e w1 ⟨rfl, rfl⟩)
          | (go_at_call 41; refine HH.out.mono ?_; rintro e w1 ⟨rfl, rfl⟩))
        go_ret
        exact ⟨by rw [HR.out]; rfl, rfl⟩
end Go.Proofs.YthbimjkcpmffcaaGreat
/- Package pq: of all vectors what each part has. -/
namespace Go.Proofs.YthbimjkcpmffcaaGreat
open Go.RowKit Go.Shelf
set_option linter.unusedVariables false
attribute [local go_sem] Oper.semAt_some
/-- A row of the call's own stays where what is no cells turns. -/
theorem row_keptW {w w' : World} {base B n size : Nat} {e : TypeId} {v : Value} {xs : List Value} {row : Option Nat} (h : w.ownsRow base e size v n xs) (hg : w.grownBy w' row) (hr : ∀ r, row = some r → B ≤ r ∧ ∃ o : Obj, w.heap[r]? = some o ∧ o.isCells = false) : w'.ownsRow base e size v n xs := by
  obtain ⟨h1, h2⟩ := h
  refine ⟨h1, ?_⟩
  rcases h2 with h2 | ⟨g', cap, cur, hv, hb, hw, h4⟩
  · exact .inl h2
  · exact .inr ⟨g', cap, cur, hv, hb, whole_keptW (show Whole w g' _ cur from hw) hg hr, h4⟩
theorem row_putW {w : World} {base D n size : Nat} {e : TypeId} {v : Value} {xs : List Value} {o o' : Obj} (h : w.ownsRow base e size v n xs) (ho : w.heap[D]? = some o) (hc : o.isCells = false) : (w.putObj D o').ownsRow base e size v n xs := by
  obtain ⟨h1, h2⟩ := h
  refine ⟨h1, ?_⟩
  rcases h2 with h2 | ⟨g', cap, cur, hv, hb, hw, h4⟩
  · exact .inl h2
  · exact .inr ⟨g', cap, cur, hv, hb, whole_putW (show Whole w g' _ cur from hw) ho hc, h4⟩
theorem keepsF_grown {B : Nat} {W W' : World} {row : Option Nat} (hg : W.grownBy W' row) (hr : ∀ r, row = some r → ∃ cs t fz, W.heap[r]? = some (.cells cs t fz)) : KeepsFrom B W W' :=
  ⟨hg.size, fun k o hk h2 h3 => (hg.block k (Array.getElem?_eq_some_iff.1 h2).1 (fun e => by
    obtain ⟨cs, t, fz, h4⟩ := hr k e.symm
    rw [h4] at h2
    cases h2
    cases h3)).trans h2⟩
theorem keepsK_grown {K : Nat → TypeId → Prop} {W W' : World} {row : Option Nat} (hg : W.grownBy W' row) (hr : ∀ k t, K k t → some k ≠ row) : Keeps K W W' :=
  ⟨hg.size, fun k cs t fr hK h2 => (hg.block k (Array.getElem?_eq_some_iff.1 h2).1 (hr k t hK)).trans h2⟩
theorem own_cells {w : World} {base size n g : Nat} {e : TypeId} {v : Value} {xs : List Value} (h : w.ownsRow base e size v n xs) (hb : v.ownBlock = some g) : ∃ cs t fz, w.heap[g]? = some (.cells cs t fz) := by
  rcases h.2 with ⟨hv, _⟩ | ⟨g', cap, cur, hv, _, hw, _⟩
  · rw [hv] at hb; cases hb
  · rw [hv] at hb
    have : g' = g := by simpa [Value.ownBlock] using hb
    exact ⟨cur, _, _, by rw [← this]; exact hw⟩
/-- Lists of vectors, gathered in a row of n places: the row, each place's own list, no two in one. -/
structure GrpR (w : World) (base r n : Nat) (G : Nat → List Vc) (sv : Nat → Value) : Prop where
  row : w.ownsRow r 62 1 (.slice (some ⟨r, 0, none⟩) n n) n ((List.range n).map sv)
  own : ∀ k, w.ownsRow base 25 1 (sv k) (G k).length (cellsV (G k))
  apart : ∀ j k, j ≠ k → (sv j).ownBlock = none ∨ (sv j).ownBlock ≠ (sv k).ownBlock
  lt : r < base
theorem GrpR.below {w w' : World} {base r n : Nat} {G : Nat → List Vc} {sv : Nat → Value} (h : GrpR w base r n G sv) (hb : Below w.heap.size w w') : GrpR w' base r n G sv :=
  ⟨own_below h.row hb, fun k => own_below (h.own k) hb, h.apart, h.lt⟩
theorem GrpR.keptW {w w' : World} {base r n B : Nat} {G : Nat → List Vc} {sv : Nat → Value} {row : Option Nat} (h : GrpR w base r n G sv) (hg : w.grownBy w' row) (hr : ∀ r, row = some r → B ≤ r ∧ ∃ o : Obj, w.heap[r]? = some o ∧ o.isCells = false) : GrpR w' base r n G sv :=
  ⟨row_keptW h.row hg hr, fun k => row_keptW (h.own k) hg hr, h.apart, h.lt⟩
theorem GrpR.putW {w : World} {base r n D : Nat} {G : Nat → List Vc} {sv : Nat → Value} {o o' : Obj} (h : GrpR w base r n G sv) (ho : w.heap[D]? = some o) (hc : o.isCells = false) : GrpR (w.putObj D o') base r n G sv :=
  ⟨row_putW h.row ho hc, fun k => row_putW (h.own k) ho hc, h.apart, h.lt⟩
theorem GrpR.off {w : World} {base r n : Nat} {G : Nat → List Vc} {sv : Nat → Value} (h : GrpR w base r n G sv) (k : Nat) : (sv k).ownBlock ≠ some r := fun e => by
  have := ((h.own k).lt r e).1
  have := h.lt
  omega
theorem GrpR.cell {w : World} {base r n : Nat} {G : Nat → List Vc} {sv : Nat → Value} (h : GrpR w base r n G sv) {k : Nat} (hk : k < n) : w.cell? ⟨r, k, none⟩ = some (sv k) := by
  rw [h.row.cellAt k (by simpa using hk)]
  simp [hk]
theorem GrpR.frozen {w : World} {base r n : Nat} {G : Nat → List Vc} {sv : Nat → Value} (h : GrpR w base r n G sv) (k : Nat) : w.frozen? ⟨r, k, none⟩ = false := by
  obtain ⟨h1, h2 | ⟨g', cap, cur, hv, _, hg, _⟩⟩ := h.row
  · obtain ⟨h2, _⟩ := h2; cases h2
  · injection hv with q1
    injection q1 with q1
    injection q1 with q1
    subst q1
    exact (show Whole w r 62 cur from hg).frozen k
theorem range_set {α : Type} (sv : Nat → α) (n z : Nat) (v : α) : ((List.range n).map sv).set z v = (List.range n).map fun j => if j = z then v else sv j := by
  refine List.ext_getElem (by simp) (fun i h1 h2 => ?_)
  rw [List.getElem_set]
  simp only [List.length_set, List.length_map, List.length_range] at h1
  by_cases hz : z = i
  · subst hz; simp
  · rw [if_neg hz]; simp [Ne.symm hz]
theorem GrpR.put {w w1 : World} {base r n : Nat} {G : Nat → List Vc} {sv : Nat → Value} (h : GrpR w base r n G sv) {o : Obj} {z : Nat} (hz : z < n) {x : Vc} {v' : Value}
    (hown : w1.ownsRow base 25 1 v' ((G z).length + 1) (cellsV (G z) ++ [.slice x.1 x.2.2.length x.2.1])) (hg : (w.alloc o).grownBy w1 (sv z).ownBlock) (hloc : v'.ownBlock = (sv z).ownBlock ∨ v'.ownBlock = some (w.alloc o).heap.size) :
    GrpR (w1.setCell ⟨r, z, none⟩ v') base r n (moreAt G z x) (fun j => if j = z then v' else sv j) ∧ w1.grownBy (w1.setCell ⟨r, z, none⟩ v') (some r) := by
  have hall : w.grownBy w1 (sv z).ownBlock := (World.grownBy_alloc _ _ _).trans hg
  have hm1 : w1.ownsRow r 62 1 (.slice (some ⟨r, 0, none⟩) n n) n ((List.range n).map sv) := h.row.kept hall (.inr (fun e => h.off z e.symm))
  have hst := hm1.stored z v'
  rw [range_set] at hst
  have hoff : v'.ownBlock ≠ some r := by
    rcases hloc with e | e
    · rw [e]; exact h.off z
    · rw [e]; intro e2
      have h1 := (h.row.lt r rfl).2
      injection e2 with e2
      simp at e2; omega
  have old : ∀ j, j ≠ z → (sv j).ownBlock = none ∨ (sv j).ownBlock ≠ v'.ownBlock := fun j hj => by
    rcases hloc with e | e
    · rw [e]; exact h.apart j z hj
    · rw [e]
      cases hs : (sv j).ownBlock with
      | none => exact .inl rfl
      | some g =>
        refine .inr (fun e2 => ?_)
        have := ((h.own j).lt g hs).2
        injection e2 with e2
        simp at e2; omega
  have hg2 : w1.grownBy (w1.setCell ⟨r, z, none⟩ v') (some r) := hst.2
  refine ⟨⟨hst.1, fun j => ?_, fun j k hjk => ?_, h.lt⟩, hg2⟩
  · by_cases hj : j = z
    · subst hj
      rw [if_pos rfl]
      have hG : moreAt G j x j = G j ++ [x] := if_pos rfl
      rw [hG, ← cellsV_snoc, List.length_append, List.length_singleton]
      exact hown.kept hg2 (.inr hoff)
    · rw [if_neg hj]
      have hG : moreAt G z x j = G j := if_neg hj
      rw [hG]
      exact ((h.own j).kept hall (h.apart j z hj)).kept hg2 (.inr (h.off j))
  · by_cases hj : j = z
    · subst hj
      rw [if_pos rfl, if_neg (Ne.symm hjk)]
      cases hv : v'.ownBlock with
      | none => exact .inl rfl
      | some g =>
        refine .inr (fun e => ?_)
        rcases old k (Ne.symm hjk) with h1 | h1
        · rw [h1] at e; cases e
        · exact h1 (by rw [hv, e])
    · rw [if_neg hj]
      by_cases hk2 : k = z
      · rw [if_pos hk2]; exact old j hj
      · rw [if_neg hk2]; exact h.apart j k hjk
/-- What is gathered so far: of each part what is wanted; and it reads in the first world. -/
structure GathR (w0 : World) (n : Nat) (want : Nat → List (List Int)) (G : Nat → List Vc) : Prop where
  is : ∀ k, k < n → vecs (G k) = want k
  rd : ∀ k, ∀ x ∈ G k, Rd .i8 w0 w0.heap.size x.1 x.2.2
def wantR (vs : List (List Int)) (v : List Int) (n j : Nat) : Nat → List (List Int) := fun k => subL vs k n ++ if k < j then [partAt v k n] else []
theorem wantR_zero (vs : List (List Int)) (v : List Int) (n k : Nat) : wantR vs v n 0 k = subL vs k n := by simp [wantR]
theorem wantR_all (vs : List (List Int)) (v : List Int) {n k : Nat} (h : k < n) : wantR vs v n n k = subL (vs ++ [v]) k n := by simp [wantR, h, subL]
theorem GathR.more {w0 : World} {n j : Nat} {vs : List (List Int)} {v : List Int} {G : Nat → List Vc} (h : GathR w0 n (wantR vs v n j) G) {a : Option Addr} {c : Nat} (hj : j < n) (hr : Rd .i8 w0 w0.heap.size a (partAt v j n)) : GathR w0 n (wantR vs v n (j + 1)) (moreAt G j (a, c, partAt v j n)) := by
  refine ⟨fun k hk => ?_, fun k x hx => ?_⟩
  · unfold moreAt
    by_cases hkj : k = j
    · subst hkj
      rw [if_pos rfl, vecs_snoc, h.is k hk]
      simp [wantR]
    · rw [if_neg hkj, h.is k hk]
      unfold wantR
      by_cases h1 : k < j
      · rw [if_pos h1, if_pos (by omega)]
      · rw [if_neg h1, if_neg (by omega)]
  · unfold moreAt at hx
    by_cases hkj : k = j
    · rw [if_pos hkj] at hx
      rcases List.mem_append.1 hx with h1 | h1
      · exact h.rd _ x h1
      · rw [List.mem_singleton] at h1; subst h1; exact hr
    · rw [if_neg hkj] at hx; exact h.rd k x hx
/-- A function's marks for its loops over iterators, none of which defers. -/
def mark (D : Nat) : Deferred := { target := .collected D, args := #[] }
structure Marks (w : World) (base : Nat) (Ds : List Nat) : Prop where
  nodup : Ds.Nodup
  at_ : ∀ D ∈ Ds, base ≤ D ∧ w.heap[D]? = some (.deferred (some []))
theorem Marks.nil (w : World) (base : Nat) : Marks w base [] := ⟨List.nodup_nil, fun D h => by cases h⟩
theorem Marks.lt {w : World} {base : Nat} {Ds : List Nat} (h : Marks w base Ds) : ∀ D ∈ Ds, D < w.heap.size := fun D hD => (Array.getElem?_eq_some_iff.1 (h.at_ D hD).2).1
theorem Marks.grown {w w' : World} {base : Nat} {Ds : List Nat} {row : Option Nat} (h : Marks w base Ds) (hg : w.grownBy w' row) (hr : ∀ r, row = some r → r ∉ Ds) : Marks w' base Ds :=
  ⟨h.nodup, fun D hD => ⟨(h.at_ D hD).1, (hg.block D (h.lt D hD) (fun e => hr D e.symm hD)).trans (h.at_ D hD).2⟩⟩
/-- A function that leaves with marks alone: its answer holds in the last world, if it holds now and no mark's turn touches it. -/
theorem leaves_marks {F : Fence} {n : Nat} {P : Program} {fn : Func} {tmps : Array Value} {R : Ending → World → Prop} {base : Nat} {v : Value} (hres : ∀ W, (results fn tmps).run P W = .ok v W)
    (hR : ∀ W D, base ≤ D → W.heap[D]? = some (.deferred (some [])) → R (.returned v) W → R (.returned v) (W.putObj D (.deferred none))) :
    ∀ (Ds : List Nat) (W : World), Marks W base Ds → R (.returned v) W → LeavesInM F n P fn tmps R (Ds.map mark) .returning W
  | [], W, _, h => ⟨v, hres W, h⟩
  | D :: Ds, W, hM, h => by
    have hD := hM.at_ D (List.mem_cons_self)
    refine ⟨by simp, .inl ⟨D, _, rfl, run_takeDeferred hD.2, leaves_marks hres hR Ds _ ⟨(List.nodup_cons.1 hM.nodup).2, fun E hE => ⟨(hM.at_ E (List.mem_cons_of_mem _ hE)).1, ?_⟩⟩ (hR W D hD.1 hD.2 h)⟩⟩
    have hne : E ≠ D := fun e => (List.nodup_cons.1 hM.nodup).1 (e ▸ hE)
    exact (World.putObj_heap_other hne).trans (hM.at_ E (List.mem_cons_of_mem _ hE)).2
end Go.Proofs.YthbimjkcpmffcaaGreat
/- Package pq: byPart. -/
namespace Go.Proofs.YthbimjkcpmffcaaGreat
open Go.RowKit Go.Shelf
set_option linter.unusedVariables false
attribute [local go_sem] Oper.semAt_some
/-- What byPart's outer loop keeps. -/
structure BySt (w0 w : World) (g b0 n : Nat) (vs : List (List Int)) (W : World) : Prop where
  bel : Below g w W
  box : Whole W b0 22 #[.slice (some ⟨g, 0, none⟩) n n]
  grp : ∃ G sv, GrpR W (b0 + 1) g n G sv ∧ GathR w0 n (fun k => subL vs k n) G
/-- What its inner loop keeps. -/
structure ByIn (w0 w : World) (g b0 n s : Nat) (vs : List (List Int)) (v : List Int) (Ds : List Nat) (pre : List Nat) (W : World) : Prop where
  bel : Below g w W
  box : Whole W b0 22 #[.slice (some ⟨g, 0, none⟩) n n]
  marks : Marks W (b0 + 1) Ds
  size : s + 2 ≤ W.heap.size
  grp : ∃ G sv, GrpR W (b0 + 1) g n G sv ∧ (∀ k b, (sv k).ownBlock = some b → b ≠ s ∧ b ≠ s + 1) ∧ GathR w0 n (wantR vs v n pre.length) G
theorem info70z : (Tryz.prog.info? 62).map (fun i => (i.zero, i.size, i.bytes)) = some (some (.slice none 0 0), 1, 24) := by kernel_rfl
theorem info30z : (Tryz.prog.info? 25).map (fun i => (i.zero, i.size, i.bytes)) = some (some (.slice none 0 0), 1, 24) := by kernel_rfl
theorem row_frozen {w : World} {base g n c : Nat} {e : TypeId} {xs : List Value} (h : w.ownsRow base e 1 (.slice (some ⟨g, 0, none⟩) n c) n xs) (k : Nat) : w.frozen? ⟨g, k, none⟩ = false := by
  obtain ⟨h1, h2 | ⟨g', cap, cur, hv, _, hg, _⟩⟩ := h
  · obtain ⟨h2, _⟩ := h2; cases h2
  · injection hv with q1
    injection q1 with q1
    injection q1 with q1
    subst q1
    exact (show Whole w g e cur from hg).frozen k
theorem GrpR.made {w : World} {g n b : Nat} (hb : g < b) (h : w.ownsRow g 62 1 (.slice (some ⟨g, 0, none⟩) n n) n (madeCells #[Value.slice none 0 0] (n * 1)).toList) : GrpR w b g n (fun _ => []) (fun _ => .slice none 0 0) := by
  refine ⟨?_, fun k => own_nil_row _ _ _, fun j k _ => .inl rfl, hb⟩
  rw [madeZ] at h
  have e : (List.range n).map (fun _ => Value.slice none 0 0) = List.replicate n (Value.slice none 0 0) := by simp [List.map_const']
  rw [e]
  exact h
set_option maxRecDepth 100000 in
set_option maxHeartbeats 4000000 in
theorem byPart_any (A : Option Addr) (c m n : Nat) (L : List Vc) (w0 w : World) (hx : VArg w0 A L) (hb0 : Below w0.heap.size w0 w) (hr : RoomOk L) (hm : m = L.length) (hmay : mayB (vecs L) = true) (h1 : 1 ≤ n) (h2 : n ≤ dimOf (vecs L)) :
    CallsIn Fence.wide 9 Tryz.prog 84 #[.slice A m c, .int .i64 n] w fun e w' => e = .returned (.slice (some ⟨w.heap.size, 0, none⟩) n n) ∧ Below w.heap.size w w' ∧
      ∃ base G sv, GrpR w' base w.heap.size n G sv ∧ GathR w0 n (fun k => subL (vecs L) k n) G := by
  have f88 : Fence.wide.fn 31 := trivial
  have hmb := mayB_yes hmay
  have HX := Lib.hid hx
  have HB0 := Lib.hid hb0
  have HR := Lib.hid hr
  have HM := Lib.hid hm
  have HMY := Lib.hid hmay
  have hn64 : n ≤ 64 := by omega
  have hm2 : m ≤ 2048 := by have := hmb.2.1; rw [vecs_len] at this; omega
  have H2 := Lib.hid h2
  clear hx hr hm hmay hmb h2 hb0
  obtain ⟨i0, hi, hz0, hz1, hz2⟩ := info_parts info70z
  obtain ⟨w2, hmk, ho2, hg2⟩ := run_make_full (P := Tryz.prog) w w.heap.size 22 62 i0 (.slice none 0 0) 1 Tryz.underlying22 hi hz0 hz1 .i64 .i64 n (by rw [hz2]; omega) (by unfold maxLen; omega) (Nat.le_refl _)
  have hs2 : w.heap.size < w2.heap.size := (World.ownsRow.lt ho2 _ rfl).2
  have hgr := GrpR.made (b := w2.heap.size + 1) (by omega) (show w2.ownsRow w.heap.size 62 1 (.slice (some ⟨w.heap.size, 0, none⟩) n n) n (madeCells #[Value.slice none 0 0] (n * 1)).toList from ho2)
  clear hi hz0 hz1 hz2 i0 ho2
  refine callsIn_of_wp_marks Tryz.func84 rfl trivial ?_ rfl
  simp only [Tryz.ntmps84, List.size_toArray, List.length_cons, List.length_nil, Nat.reduceAdd, Nat.reduceSub, Array.replicate_succ, Array.replicate_zero, List.push_toArray, List.append_toArray, List.nil_append, List.cons_append]
  gi_wp2
  obtain ⟨g, eg⟩ : ∃ g, w.heap.size = g := ⟨_, rfl⟩
  obtain ⟨b0, eb⟩ : ∃ b0, w2.heap.size = b0 := ⟨_, rfl⟩
  have hW3 : Whole (w2.alloc (.cells #[.slice (some ⟨w.heap.size, 0, none⟩) n n] 22)) w2.heap.size 22 #[.slice (some ⟨w.heap.size, 0, none⟩) n n] := Whole.new w2 22 _
  have hb3 : Below w2.heap.size w2 (w2.alloc (.cells #[.slice (some ⟨w.heap.size, 0, none⟩) n n] 22)) := below_one (Below.refl _ _) _
  have hbel : Below w.heap.size w (w2.alloc (.cells #[.slice (some ⟨w.heap.size, 0, none⟩) n n] 22)) := (below_of_grown0 hg2).trans (hb3.mono (by omega))
  have hg3 := hgr.below hb3
  have hz3 : (w2.alloc (.cells #[.slice (some ⟨w.heap.size, 0, none⟩) n n] 22)).heap.size = w2.heap.size + 1 := by simp
  obtain ⟨W3, eW3⟩ : ∃ W3, w2.alloc (.cells #[.slice (some ⟨w.heap.size, 0, none⟩) n n] 22) = W3 := ⟨_, rfl⟩
  rw [eW3] at hW3 hbel hg3 hz3 ⊢
  rw [eg] at hW3 hbel hg3 hs2 ⊢
  rw [eb] at hW3 hg3 hz3 hs2 ⊢
  have HG := Lib.hid eg
  clear eW3 hb3 hgr hmk hg2 eg eb
  have st0 : BySt w0 w g b0 n [] W3 := ⟨hbel, hW3, _, _, hg3, ⟨fun k hk => rfl, fun k x hx => by simp at hx⟩⟩
  clear hW3 hbel hg3
  refine wpIn_loop (fun a W => ∃ (q : Nat) (Ds : List Nat) (u7 u15 u16 u17 u18 u19 u20 u33 : Value), a = Act.mk #[.slice A m c, .int .i64 n, undef, undef, .slice none 0 0, .pointer (some ⟨b0, 0, none⟩), undef, u7, undef, undef, .int .i64 n, .slice (some ⟨g, 0, none⟩) n n, .slice A m c, .int .i64 m, .int .i64 q, u15, u16, u17, u18, u19, u20,
      undef, undef, undef, undef, undef, undef, undef, undef, undef, undef, undef, undef, u33, undef] (Ds.map mark) ∧ q ≤ m ∧ BySt w0 w g b0 n ((vecs L).take q) W ∧ Marks W (b0 + 1) Ds) (fun a W => m - (intOf (a.tmps.getD 14 undef)).toNat) ?start ?round
  case start => exact ⟨0, [], undef, undef, undef, undef, undef, undef, undef, undef, rfl, Nat.zero_le _, st0, Marks.nil _ _⟩
  case round =>
    clear st0 hz3
    rintro _ W ⟨q, Ds, u7, u15, u16, u17, u18, u19, u20, u33, rfl, hq, hs, hMk⟩
    by_cases hlt : q < m
    · have eL : decide ((q : Int) < (m : Int)) = true := decide_eq_true (by omega)
      have hbW : Below w0.heap.size w0 W := HB0.out.trans ((show Below w.heap.size w W by rw [HG.out]; exact hs.bel).mono HB0.out.size)
      obtain ⟨b, off, a1, c1, v, rfl, hBk, hck, hrd, hv⟩ := (HX.out.rd).at_ (i := q) (by rw [← HM.out]; exact hlt)
      have hckW : W.cell? ⟨b, off + q, none⟩ = some (.slice a1 v.length c1) := (hbW.cell (p := ⟨b, off + q, none⟩) hBk).trans hck
      have g1 : (0 : Int) ≤ (q : Int) := by omega
      have g2 : (q : Int) < (m : Int) := by omega
      have HV := Lib.hid hv.out
      have HS := Lib.hid hs
      have HMk := Lib.hid hMk
      have HRD := Lib.hid hrd
      clear hv hs hMk hrd hck hbW
      gi_wp2_with (gi_at_call 31; refine (callsIn_wide.2 (partsOf_any _ v.length c1 n _)).mono ?_; rintro e w3 ⟨rfl, h3⟩; subst h3)
      have hvm : v ∈ vecs L := List.mem_of_getElem? (vecs_at HV.out)
      have hvd := mayB_len HMY.out v hvm
      have hd := mayB_yes HMY.out
      have hnv : n ≤ v.length ∧ v.length ≤ 64 := by have := H2.out; rw [hvd]; omega
      have hroom := (HR.out _ (List.mem_of_getElem? HV.out)).1
      have hb8 := HX.out.b8 v hvm
      obtain ⟨b1, o1, rfl⟩ := rd_some HRD.out (by omega)
      have HTK := Lib.hid (show (vecs L).take (q + 1) = (vecs L).take q ++ [v] by rw [List.take_add_one, vecs_at HV.out]; rfl)
      have HQL := Lib.hid (show ((vecs L).take q).length = q by rw [List.length_take, vecs_len, ← HM.out]; omega)
      obtain ⟨vs, evs⟩ : ∃ vs, (vecs L).take q = vs := ⟨_, rfl⟩
      rw [evs] at HTK HQL HS
      clear evs hvm hvd hd
      have tn := two_one W (.slice (some ⟨b1, o1, none⟩) v.length c1) (.int .i64 n) 25 3
      obtain ⟨W4, eW4⟩ : ∃ W4, (W.alloc (.cells #[.slice (some ⟨b1, o1, none⟩) v.length c1] 25)).alloc (.cells #[.int .i64 n] 3) = W4 := ⟨_, rfl⟩
      rw [eW4] at tn ⊢
      clear eW4
      obtain ⟨tn1, tn2, tn3, tn4⟩ := tn
      obtain ⟨s, es⟩ : ∃ s, W.heap.size = s := ⟨_, rfl⟩
      have hbs : b0 < s := by rw [← es]; exact HS.out.box.lt
      have hbel4 : Below g w W4 := HS.out.bel.trans (tn3.mono (by omega))
      have hbox4 := HS.out.box.below tn3 HS.out.box.lt
      have hmk4 : Marks W4 (b0 + 1) Ds := ⟨HMk.out.nodup, fun D hD => ⟨(HMk.out.at_ D hD).1, (tn3.block D (HMk.out.lt D hD)).trans (HMk.out.at_ D hD).2⟩⟩
      have HDs := Lib.hid (fun D hD => (by have := HMk.out.lt D hD; rw [es] at this; exact this : D < s) : ∀ D ∈ Ds, D < s)
      have hin0 : ByIn w0 w g b0 n s vs v Ds [] W4 := by
        obtain ⟨G, sv, hg, hG⟩ := HS.out.grp
        refine ⟨hbel4, hbox4, hmk4, by rw [tn4, es]; exact Nat.le_refl _, G, sv, hg.below tn3, fun k b hk => ?_, ⟨fun k hk => by rw [hG.is k hk]; exact (wantR_zero vs v n k).symm, hG.rd⟩⟩
        have := ((hg.own k).lt b hk).2
        omega
      rw [es] at tn1 tn2 tn4 ⊢
      clear hbel4 hbox4 hmk4 tn3 es
      have mixed : Tryz.prog.follows .mixedOrders = true := by kernel_rfl
      have HS4 := Lib.hid tn4
      refine wpIn_rangeFunc_N rfl (by omega : 1 ≤ 9) (gf := 90) (lb := #[.pointer (some ⟨s + 1, 0, none⟩), .pointer (some ⟨s, 0, none⟩)]) rfl trivial (enters_of Tryz.func90 (by kernel_rfl) rfl)
        (partsI_seq n (9 - 1) (s + 1) s b1 o1 v.length c1 h1 hnv.1 hnv.2 hroom (by omega) W4 tn2 tn1) (fun h k => h.trans k) (fun W l o o' _ ho hc _ => Keeps.put W l o o' ho hc) (Below.refl _ _) (fun _ => rfl)
        (ByIn w0 w g b0 n s vs v Ds) (fun c' pre W => False)
        (fun pre W W' row hs hg hr => ⟨hs.bel.grown hg (by have := hs.bel.size; have := HG.out; omega) (fun k e => by have := (hr k e).1; omega), whole_keptW hs.box hg hr, hs.marks.grown hg (fun r e hD => by have := (hr r e).1; have := HDs.out r hD; omega), Nat.le_trans hs.size hg.size, by
          obtain ⟨G, sv, h1, h2, h3⟩ := hs.grp; exact ⟨G, sv, h1.keptW hg hr, h2, h3⟩⟩)
        (fun c' pre W W' row hs hg hr => hs)
        hin0
        (fun x => Act.mk #[.slice (some ⟨b, off, none⟩) m c, .int .i64 n, undef, undef, .slice none 0 0, .pointer (some ⟨b0, 0, none⟩), undef, .slice (some ⟨b1, o1, none⟩) v.length c1, .int .i64 x, .slice (some ⟨b1, o1 + beg x n v.length, none⟩) (beg (x + 1) n v.length - beg x n v.length) (beg (x + 1) n v.length - beg x n v.length),
          .int .i64 n, .slice (some ⟨g, 0, none⟩) n n, .slice (some ⟨b, off, none⟩) m c, .int .i64 m, .int .i64 q, .bool true, .pointer (some ⟨b, off + q, none⟩), .slice (some ⟨b1, o1, none⟩) v.length c1, .slice (some ⟨b1, o1, none⟩) v.length c1, .int .i64 n, .func (.func 90) #[] #[.pointer (some ⟨s + 1, 0, none⟩), .pointer (some ⟨s, 0, none⟩)],
          .int .i64 x, .slice (some ⟨b1, o1 + beg x n v.length, none⟩) (beg (x + 1) n v.length - beg x n v.length) (beg (x + 1) n v.length - beg x n v.length), undef, undef, undef, undef, undef, undef, undef, undef, undef, undef, u33, undef] []) ?assign ?body ?done ?stop
      case assign =>
        intro l x W K hK
        simp only [encI]
        gi_wp2
        exact hK
      case body =>
        rintro l pre x W hs ⟨hxp, hxn⟩
        obtain ⟨G, sv, hgr, hof, hga⟩ := hs.grp
        have hown := hgr.own x
        obtain ⟨pa, pm, pc, ev⟩ := own_form hown
        have hpm : pm = (G x).length := own_len (by rw [← ev]; exact hown)
        have hgl : (G x).length ≤ 2049 := by
          have := congrArg List.length (hga.is x hxn)
          rw [vecs_len] at this
          unfold wantR at this
          rw [List.length_append, sub_len, HQL.out, if_neg (by omega)] at this
          simp at this
          omega
        obtain ⟨kk, ekk⟩ : ∃ kk, beg (x + 1) n v.length - beg x n v.length = kk := ⟨_, rfl⟩
        obtain ⟨oo, eoo⟩ : ∃ oo, o1 + beg x n v.length = oo := ⟨_, rfl⟩
        have hpl : (partAt v x n).length = kk := by rw [← ekk]; exact part_len h1 hxn
        have hprd : Rd .i8 w0 w0.heap.size (some ⟨b1, oo, none⟩) (partAt v x n) := by
          rw [← eoo]
          exact rd_seg HRD.out (beg_le h1 (by omega))
        rw [ekk, eoo]
        obtain ⟨i1, hi1, hy0, hy1, hy2⟩ := info_parts info30z
        have hbd : Below W.heap.size W (W.drew.alloc (.cells #[.slice (some ⟨b1, oo, none⟩) kk kk] 25)) := below_one (Below.refl _ _).drew _
        obtain ⟨v', w1, hrun, hown', hgrow, hnil, hloc⟩ := run_append_own_at (P := Tryz.prog) (W.drew.alloc (.cells #[.slice (some ⟨b1, oo, none⟩) kk kk] 25)) (b0 + 1) 62 62 25 i1 (.slice none 0 0) 1 24 Tryz.underlying62 hi1 hy0 hy1 hy2 rfl (by decide) (sv x) (G x).length (cellsV (G x)) (own_below hown hbd)
          ⟨W.heap.size, 0, none⟩ 1 1 [.slice (some ⟨b1, oo, none⟩) kk kk] rfl (cell_one_new _ _ _) (by simp [Value.oneCell']) (by show (G x).length + 1 ≤ 9223372036854775807; omega) (by omega) (by have := hs.box.lt; simp; omega)
        obtain ⟨va, vm, vc, rfl⟩ := own_form hown'
        have hb0v : (sv x).ownBlock ≠ some b0 := fun e => by have := ((hown.lt b0 e)).1; omega
        have hput := (hgr.below (Below.refl _ _).drew).put (o := .cells #[.slice (some ⟨b1, oo, none⟩) kk kk] 25) hxn (x := (some ⟨b1, oo, none⟩, kk, partAt v x n)) (by rw [hpl]; exact hown') hgrow (by exact hloc)
        have hGA := hga.more (c := kk) (j := pre.length) (by omega) (by rw [← hxp]; exact hprd)
        rw [← hxp] at hGA
        have hW1 : W.heap.size + 1 ≤ w1.heap.size := by have := hgrow.size; simp at this; exact this
        have hbx5 : Whole (W.drew.alloc (.cells #[.slice (some ⟨b1, oo, none⟩) kk kk] 25)) b0 22 #[.slice (some ⟨g, 0, none⟩) n n] := hs.box.below hbd hs.box.lt
        have hbx1 : Whole w1 b0 22 #[.slice (some ⟨g, 0, none⟩) n n] := (hgrow.block b0 hbx5.lt (fun e => hb0v e.symm)).trans hbx5
        have hgr5 := hgr.below hbd
        have hgn1 : w1.cell? ⟨g, x, none⟩ = some (sv x) := by
          have h3 := hgr5.row.kept hgrow (.inr (fun e => hgr.off x e.symm))
          rw [h3.cellAt x (by simpa using hxn)]
          simp [hxn]
        have hgf1 : w1.frozen? ⟨g, x, none⟩ = false := row_frozen (hgr5.row.kept hgrow (.inr (fun e => hgr.off x e.symm))) x
        have HFIN : Hid (KeepsFrom W4.heap.size W (w1.setCell ⟨g, x, none⟩ (.slice va vm vc)) ∧ Keeps (KB (s + 1) s) W (w1.setCell ⟨g, x, none⟩ (.slice va vm vc)) ∧ ByIn w0 w g b0 n s vs v Ds (pre ++ [x]) (w1.setCell ⟨g, x, none⟩ (.slice va vm vc))) := Lib.hid (by
          have hown5 := own_below hown hbd
          have hsz := hs.size
          have hrow : ∀ r, (sv x).ownBlock = some r → b0 + 1 ≤ r := fun r hr => ((hown.lt r hr)).1
          have hbl := hs.bel
          have hgs : g ≤ W.heap.size := by have := hs.box.lt; omega
          refine ⟨((keepsF_of_below hbd).trans (keepsF_grown hgrow (fun r hr => own_cells hown5 hr))).trans (keepsF_set _ (by omega) _), ((keepsK_of_below hbd).trans (keepsK_grown hgrow (fun k t hk e => ?_))).trans (keepsK_set (fun k t hk => by rcases hk with hk | hk <;> omega)), ?_⟩
          · have := hof x k e.symm
            rcases hk with hk | hk <;> omega
          · refine ⟨((hbl.trans (hbd.mono hgs)).grown hgrow (by simp; omega) (fun r hr => by have := hrow r hr; omega)).setCell (p := ⟨g, x, none⟩) (Nat.le_refl _) _, whole_other hbx1 (by omega), ?_, by simp; omega, _, _, hput.1, fun k b hk => ?_, ?_⟩
            · have m5 : Marks (W.drew.alloc (.cells #[.slice (some ⟨b1, oo, none⟩) kk kk] 25)) (b0 + 1) Ds := ⟨hs.marks.nodup, fun D hD => ⟨(hs.marks.at_ D hD).1, (hbd.block D (hs.marks.lt D hD)).trans (hs.marks.at_ D hD).2⟩⟩
              have m1 := m5.grown hgrow (fun r hr hD => by
                obtain ⟨cs, t, fz, h4⟩ := own_cells hown5 hr
                rw [(m5.at_ r hD).2] at h4
                cases h4)
              exact m1.grown hput.2 (fun r hr hD => by
                injection hr with hr
                have := (m1.at_ r hD).1
                omega)
            · by_cases hkx : k = x
              · rw [if_pos hkx] at hk
                rcases hloc with h3 | h3
                · rw [h3] at hk; exact hof x b hk
                · rw [h3] at hk
                  injection hk with hk
                  simp at hk
                  omega
              · rw [if_neg hkx] at hk; exact hof k b hk
            · rw [List.length_append, List.length_singleton, ← hxp]; exact hGA)
        have k0 : W.drew.cell? ⟨b0, 0, none⟩ = some (.slice (some ⟨g, 0, none⟩) n n) := hs.box.cell 0
        have k1 : (W.drew.alloc (.cells #[.slice (some ⟨b1, oo, none⟩) kk kk] 25)).cell? ⟨b0, 0, none⟩ = some (.slice (some ⟨g, 0, none⟩) n n) := hbx5.cell 0
        have k2 : w1.cell? ⟨b0, 0, none⟩ = some (.slice (some ⟨g, 0, none⟩) n n) := hbx1.cell 0
        have r0 : W.drew.cell? ⟨g, x, none⟩ = some (sv x) := hgr.cell hxn
        have r1 : (W.drew.alloc (.cells #[.slice (some ⟨b1, oo, none⟩) kk kk] 25)).cell? ⟨g, x, none⟩ = some (sv x) := hgr5.cell hxn
        have k1' : (W.alloc (.cells #[.slice (some ⟨b1, oo, none⟩) kk kk] 25)).cell? ⟨b0, 0, none⟩ = some (.slice (some ⟨g, 0, none⟩) n n) := k1
        have x0 : (0 : Int) ≤ (x : Int) := by omega
        have hxn2 : (x : Int) < (n : Int) := by omega
        rw [ev] at r0 r1 hgn1 hrun
        have r1' : (W.alloc (.cells #[.slice (some ⟨b1, oo, none⟩) kk kk] 25)).cell? ⟨g, x, none⟩ = some (.slice pa pm pc) := r1
        clear hput hGA hs hgrow hloc hof hown hbd hb0v hbx1 hbx5 hgr5 hgr hga hown' hnil hprd hxp hpm hgl hpl ekk eoo
        gi_wp2
        refine region_unround mixed rfl (by simp) ?_
        refine wpAnyIn_take (i := 1) (v := ?_) rfl rfl (by decide +kernel) (by decide +kernel) (by decide +kernel) (fun _ _ _ h => h) ⟨Or.inl ⟨by rfl, ?_⟩, fun _ => rfl⟩ ?_
        rotate_left
        (intro w; go_simp; try with_reducible rfl)
        refine wpAnyIn_take (i := 3) (v := ?_) rfl rfl (by decide +kernel) (by decide +kernel) (by decide +kernel) (fun _ _ _ h => h) ⟨Or.inl ⟨by rfl, ?_⟩, fun _ => rfl⟩ ?_
        rotate_left
        (intro w; go_simp; try with_reducible rfl)
        refine wpAnyIn_take (i := 6) (v := ?_) rfl rfl (by decide +kernel) (by decide +kernel) (by decide +kernel) (fun _ _ _ h => h) ⟨Or.inl ⟨by rfl, ?_⟩, fun _ => rfl⟩ ?_
        rotate_left
        (intro w; go_simp; try with_reducible rfl)
        refine wpAnyIn_ready (rs := [0, 2, 7]) (by decide +kernel) (by simp) (AllReadyIn.cons rfl (fun K hK => ?_) (AllReadyIn.cons rfl (fun K hK => ?_) (AllReadyIn.cons rfl (fun K hK => ?_) AllReadyIn.nil)))
        go_simp
        refine hK _ _ ?_
        clear hK K
        refine wpAnyIn_ready (rs := [2, 7]) (by decide +kernel) (by simp) (AllReadyIn.cons rfl (fun K hK => ?_) (AllReadyIn.cons rfl (fun K hK => ?_) AllReadyIn.nil))
        go_simp
        refine hK _ _ ?_
        clear hK K
        refine wpAnyIn_take (i := 4) (v := ?_) rfl rfl (by decide +kernel) (by decide +kernel) (by decide +kernel) (fun _ _ _ h => h) ⟨Or.inl ⟨by rfl, ?_⟩, fun _ => rfl⟩ ?_
        rotate_left
        (intro w; go_simp; try with_reducible rfl)
        refine wpAnyIn_ready (rs := [5, 7]) (by decide +kernel) (by simp) (AllReadyIn.cons rfl (fun K hK => ?_) (AllReadyIn.cons rfl (fun K hK => ?_) AllReadyIn.nil))
        go_simp
        refine hK _ _ ?_
        clear hK K
        refine wpAnyIn_ready (rs := [7]) (by decide +kernel) (by simp) (AllReadyIn.cons rfl (fun K hK => ?_) AllReadyIn.nil)
        go_simp
        refine hK _ _ ?_
        clear hK K
        refine wpAnyIn_ready (rs := [8]) (by decide +kernel) (by simp) (AllReadyIn.cons rfl (fun K hK => ?_) AllReadyIn.nil)
        refine stepIn_append rfl rfl (.tmp 28) (.tmp 30) 62 rfl _ _ rfl rfl _ _ hrun ?_
        refine hK _ _ ?_
        clear hK K
        refine wpAnyIn_take (i := 9) (v := ?_) rfl rfl (by decide +kernel) (by decide +kernel) (by decide +kernel) (fun _ _ _ h => h) ⟨Or.inl ⟨by rfl, ?_⟩, fun _ => rfl⟩ ?_
        rotate_left
        (intro w; go_simp; try with_reducible rfl)
        refine wpAnyIn_ready (rs := [10]) (by decide +kernel) (by simp) (AllReadyIn.cons rfl (fun K hK => ?_) AllReadyIn.nil)
        go_simp
        refine hK _ _ ?_
        clear hK K
        refine wpAnyIn_done (by decide +kernel) ?_ _
        rotate_left
        go_simp
        refine hK _ _ ?_
        clear hK K
        refine wpAnyIn_ready (rs := [5]) (by decide +kernel) (by simp) (AllReadyIn.cons rfl (fun K hK => ?_) AllReadyIn.nil)
        go_simp
        refine hK _ _ ?_
        clear hK K
        refine wpAnyIn_ready (rs := [8]) (by decide +kernel) (by simp) (AllReadyIn.cons rfl (fun K hK => ?_) AllReadyIn.nil)
        refine stepIn_append rfl rfl (.tmp 28) (.tmp 30) 62 rfl _ _ rfl rfl _ _ hrun ?_
        refine hK _ _ ?_
        clear hK K
        refine wpAnyIn_take (i := 9) (v := ?_) rfl rfl (by decide +kernel) (by decide +kernel) (by decide +kernel) (fun _ _ _ h => h) ⟨Or.inl ⟨by rfl, ?_⟩, fun _ => rfl⟩ ?_
        rotate_left
        (intro w; go_simp; try with_reducible rfl)
        refine wpAnyIn_ready (rs := [10]) (by decide +kernel) (by simp) (AllReadyIn.cons rfl (fun K hK => ?_) AllReadyIn.nil)
        go_simp
        refine hK _ _ ?_
        clear hK K
        refine wpAnyIn_done (by decide +kernel) ?_ _
        rotate_left
        go_simp
        refine hK _ _ ?_
        clear hK K
        refine wpAnyIn_ready (rs := [2]) (by decide +kernel) (by simp) (AllReadyIn.cons rfl (fun K hK => ?_) AllReadyIn.nil)
        go_simp
        refine hK _ _ ?_
        clear hK K
        refine wpAnyIn_take (i := 4) (v := ?_) rfl rfl (by decide +kernel) (by decide +kernel) (by decide +kernel) (fun _ _ _ h => h) ⟨Or.inl ⟨by rfl, ?_⟩, fun _ => rfl⟩ ?_
        rotate_left
        (intro w; go_simp; try with_reducible rfl)
        refine wpAnyIn_ready (rs := [5]) (by decide +kernel) (by simp) (AllReadyIn.cons rfl (fun K hK => ?_) AllReadyIn.nil)
        go_simp
        refine hK _ _ ?_
        clear hK K
        refine wpAnyIn_ready (rs := [8]) (by decide +kernel) (by simp) (AllReadyIn.cons rfl (fun K hK => ?_) AllReadyIn.nil)
        refine stepIn_append rfl rfl (.tmp 28) (.tmp 30) 62 rfl _ _ rfl rfl _ _ hrun ?_
        refine hK _ _ ?_
        clear hK K
        refine wpAnyIn_take (i := 9) (v := ?_) rfl rfl (by decide +kernel) (by decide +kernel) (by decide +kernel) (fun _ _ _ h => h) ⟨Or.inl ⟨by rfl, ?_⟩, fun _ => rfl⟩ ?_
        rotate_left
        (intro w; go_simp; try with_reducible rfl)
        refine wpAnyIn_ready (rs := [10]) (by decide +kernel) (by simp) (AllReadyIn.cons rfl (fun K hK => ?_) AllReadyIn.nil)
        go_simp
        refine hK _ _ ?_
        clear hK K
        refine wpAnyIn_done (by decide +kernel) ?_ _
        rotate_left
        go_simp
        refine hK _ _ ?_
        clear hK K
        refine wpAnyIn_take (i := 4) (v := ?_) rfl rfl (by decide +kernel) (by decide +kernel) (by decide +kernel) (fun _ _ _ h => h) ⟨Or.inl ⟨by rfl, ?_⟩, fun _ => rfl⟩ ?_
        rotate_left
        (intro w; go_simp; try with_reducible rfl)
        refine wpAnyIn_ready (rs := [0, 5, 7]) (by decide +kernel) (by simp) (AllReadyIn.cons rfl (fun K hK => ?_) (AllReadyIn.cons rfl (fun K hK => ?_) (AllReadyIn.cons rfl (fun K hK => ?_) AllReadyIn.nil)))
        go_simp
        refine hK _ _ ?_
        clear hK K
        refine wpAnyIn_ready (rs := [5, 7]) (by decide +kernel) (by simp) (AllReadyIn.cons rfl (fun K hK => ?_) (AllReadyIn.cons rfl (fun K hK => ?_) AllReadyIn.nil))
        go_simp
        refine hK _ _ ?_
        clear hK K
        refine wpAnyIn_ready (rs := [7]) (by decide +kernel) (by simp) (AllReadyIn.cons rfl (fun K hK => ?_) AllReadyIn.nil)
        go_simp
        refine hK _ _ ?_
        clear hK K
        refine wpAnyIn_ready (rs := [8]) (by decide +kernel) (by simp) (AllReadyIn.cons rfl (fun K hK => ?_) AllReadyIn.nil)
        refine stepIn_append rfl rfl (.tmp 28) (.tmp 30) 62 rfl _ _ rfl rfl _ _ hrun ?_
        refine hK _ _ ?_
        clear hK K
        refine wpAnyIn_take (i := 9) (v := ?_) rfl rfl (by decide +kernel) (by decide +kernel) (by decide +kernel) (fun _ _ _ h => h) ⟨Or.inl ⟨by rfl, ?_⟩, fun _ => rfl⟩ ?_
        rotate_left
        (intro w; go_simp; try with_reducible rfl)
        refine wpAnyIn_ready (rs := [10]) (by decide +kernel) (by simp) (AllReadyIn.cons rfl (fun K hK => ?_) AllReadyIn.nil)
        go_simp
        refine hK _ _ ?_
        clear hK K
        refine wpAnyIn_done (by decide +kernel) ?_ _
        rotate_left
        go_simp
        refine hK _ _ ?_
        clear hK K
        refine wpAnyIn_ready (rs := [5]) (by decide +kernel) (by simp) (AllReadyIn.cons rfl (fun K hK => ?_) AllReadyIn.nil)
        go_simp
        refine hK _ _ ?_
        clear hK K
        refine wpAnyIn_ready (rs := [8]) (by decide +kernel) (by simp) (AllReadyIn.cons rfl (fun K hK => ?_) AllReadyIn.nil)
        refine stepIn_append rfl rfl (.tmp 28) (.tmp 30) 62 rfl _ _ rfl rfl _ _ hrun ?_
        refine hK _ _ ?_
        clear hK K
        refine wpAnyIn_take (i := 9) (v := ?_) rfl rfl (by decide +kernel) (by decide +kernel) (by decide +kernel) (fun _ _ _ h => h) ⟨Or.inl ⟨by rfl, ?_⟩, fun _ => rfl⟩ ?_
        rotate_left
        (intro w; go_simp; try with_reducible rfl)
        refine wpAnyIn_ready (rs := [10]) (by decide +kernel) (by simp) (AllReadyIn.cons rfl (fun K hK => ?_) AllReadyIn.nil)
        go_simp
        refine hK _ _ ?_
        clear hK K
        refine wpAnyIn_done (by decide +kernel) ?_ _
        rotate_left
        go_simp
        refine hK _ _ ?_
        clear hK K
        refine wpAnyIn_ready (rs := [0, 7]) (by decide +kernel) (by simp) (AllReadyIn.cons rfl (fun K hK => ?_) (AllReadyIn.cons rfl (fun K hK => ?_) AllReadyIn.nil))
        go_simp
        refine hK _ _ ?_
        clear hK K
        refine wpAnyIn_ready (rs := [7]) (by decide +kernel) (by simp) (AllReadyIn.cons rfl (fun K hK => ?_) AllReadyIn.nil)
        go_simp
        refine hK _ _ ?_
        clear hK K
        refine wpAnyIn_ready (rs := [8]) (by decide +kernel) (by simp) (AllReadyIn.cons rfl (fun K hK => ?_) AllReadyIn.nil)
        refine stepIn_append rfl rfl (.tmp 28) (.tmp 30) 62 rfl _ _ rfl rfl _ _ hrun ?_
        refine hK _ _ ?_
        clear hK K
        refine wpAnyIn_take (i := 9) (v := ?_) rfl rfl (by decide +kernel) (by decide +kernel) (by decide +kernel) (fun _ _ _ h => h) ⟨Or.inl ⟨by rfl, ?_⟩, fun _ => rfl⟩ ?_
        rotate_left
        (intro w; go_simp; try with_reducible rfl)
        refine wpAnyIn_ready (rs := [10]) (by decide +kernel) (by simp) (AllReadyIn.cons rfl (fun K hK => ?_) AllReadyIn.nil)
        go_simp
        refine hK _ _ ?_
        clear hK K
        refine wpAnyIn_done (by decide +kernel) ?_ _
        rotate_left
        go_simp
        refine hK _ _ ?_
        clear hK K
        refine wpAnyIn_ready (rs := [0, 8]) (by decide +kernel) (by simp) (AllReadyIn.cons rfl (fun K hK => ?_) (AllReadyIn.cons rfl (fun K hK => ?_) AllReadyIn.nil))
        go_simp
        refine hK _ _ ?_
        clear hK K
        refine wpAnyIn_ready (rs := [8]) (by decide +kernel) (by simp) (AllReadyIn.cons rfl (fun K hK => ?_) AllReadyIn.nil)
        refine stepIn_append rfl rfl (.tmp 28) (.tmp 30) 62 rfl _ _ rfl rfl _ _ hrun ?_
        refine hK _ _ ?_
        clear hK K
        refine wpAnyIn_take (i := 9) (v := ?_) rfl rfl (by decide +kernel) (by decide +kernel) (by decide +kernel) (fun _ _ _ h => h) ⟨Or.inl ⟨by rfl, ?_⟩, fun _ => rfl⟩ ?_
        rotate_left
        (intro w; go_simp; try with_reducible rfl)
        refine wpAnyIn_ready (rs := [10]) (by decide +kernel) (by simp) (AllReadyIn.cons rfl (fun K hK => ?_) AllReadyIn.nil)
        go_simp
        refine hK _ _ ?_
        clear hK K
        refine wpAnyIn_done (by decide +kernel) ?_ _
        rotate_left
        refine stepIn_append rfl rfl (.tmp 28) (.tmp 30) 62 rfl _ _ rfl rfl _ _ hrun ?_
        refine hK _ _ ?_
        clear hK K
        refine wpAnyIn_ready (rs := [0]) (by decide +kernel) (by simp) (AllReadyIn.cons rfl (fun K hK => ?_) AllReadyIn.nil)
        go_simp
        refine hK _ _ ?_
        clear hK K
        refine wpAnyIn_take (i := 9) (v := ?_) rfl rfl (by decide +kernel) (by decide +kernel) (by decide +kernel) (fun _ _ _ h => h) ⟨Or.inl ⟨by rfl, ?_⟩, fun _ => rfl⟩ ?_
        rotate_left
        (intro w; go_simp; try with_reducible rfl)
        refine wpAnyIn_ready (rs := [10]) (by decide +kernel) (by simp) (AllReadyIn.cons rfl (fun K hK => ?_) AllReadyIn.nil)
        go_simp
        refine hK _ _ ?_
        clear hK K
        refine wpAnyIn_done (by decide +kernel) ?_ _
        rotate_left
        go_simp
        refine hK _ _ ?_
        clear hK K
        refine wpAnyIn_ready (rs := [0, 5]) (by decide +kernel) (by simp) (AllReadyIn.cons rfl (fun K hK => ?_) (AllReadyIn.cons rfl (fun K hK => ?_) AllReadyIn.nil))
        go_simp
        refine hK _ _ ?_
        clear hK K
        refine wpAnyIn_ready (rs := [5]) (by decide +kernel) (by simp) (AllReadyIn.cons rfl (fun K hK => ?_) AllReadyIn.nil)
        go_simp
        refine hK _ _ ?_
        clear hK K
        refine wpAnyIn_ready (rs := [8]) (by decide +kernel) (by simp) (AllReadyIn.cons rfl (fun K hK => ?_) AllReadyIn.nil)
        refine stepIn_append rfl rfl (.tmp 28) (.tmp 30) 62 rfl _ _ rfl rfl _ _ hrun ?_
        refine hK _ _ ?_
        clear hK K
        refine wpAnyIn_take (i := 9) (v := ?_) rfl rfl (by decide +kernel) (by decide +kernel) (by decide +kernel) (fun _ _ _ h => h) ⟨Or.inl ⟨by rfl, ?_⟩, fun _ => rfl⟩ ?_
        rotate_left
        (intro w; go_simp; try with_reducible rfl)
        refine wpAnyIn_ready (rs := [10]) (by decide +kernel) (by simp) (AllReadyIn.cons rfl (fun K hK => ?_) AllReadyIn.nil)
        go_simp
        refine hK _ _ ?_
        clear hK K
        refine wpAnyIn_done (by decide +kernel) ?_ _
        rotate_left
        go_simp
        refine hK _ _ ?_
        clear hK K
        refine wpAnyIn_ready (rs := [0, 8]) (by decide +kernel) (by simp) (AllReadyIn.cons rfl (fun K hK => ?_) (AllReadyIn.cons rfl (fun K hK => ?_) AllReadyIn.nil))
        go_simp
        refine hK _ _ ?_
        clear hK K
        refine wpAnyIn_ready (rs := [8]) (by decide +kernel) (by simp) (AllReadyIn.cons rfl (fun K hK => ?_) AllReadyIn.nil)
        refine stepIn_append rfl rfl (.tmp 28) (.tmp 30) 62 rfl _ _ rfl rfl _ _ hrun ?_
        refine hK _ _ ?_
        clear hK K
        refine wpAnyIn_take (i := 9) (v := ?_) rfl rfl (by decide +kernel) (by decide +kernel) (by decide +kernel) (fun _ _ _ h => h) ⟨Or.inl ⟨by rfl, ?_⟩, fun _ => rfl⟩ ?_
        rotate_left
        (intro w; go_simp; try with_reducible rfl)
        refine wpAnyIn_ready (rs := [10]) (by decide +kernel) (by simp) (AllReadyIn.cons rfl (fun K hK => ?_) AllReadyIn.nil)
        go_simp
        refine hK _ _ ?_
        clear hK K
        refine wpAnyIn_done (by decide +kernel) ?_ _
        rotate_left
        refine stepIn_append rfl rfl (.tmp 28) (.tmp 30) 62 rfl _ _ rfl rfl _ _ hrun ?_
        refine hK _ _ ?_
        clear hK K
        refine wpAnyIn_ready (rs := [0]) (by decide +kernel) (by simp) (AllReadyIn.cons rfl (fun K hK => ?_) AllReadyIn.nil)
        go_simp
        refine hK _ _ ?_
        clear hK K
        refine wpAnyIn_take (i := 9) (v := ?_) rfl rfl (by decide +kernel) (by decide +kernel) (by decide +kernel) (fun _ _ _ h => h) ⟨Or.inl ⟨by rfl, ?_⟩, fun _ => rfl⟩ ?_
        rotate_left
        (intro w; go_simp; try with_reducible rfl)
        refine wpAnyIn_ready (rs := [10]) (by decide +kernel) (by simp) (AllReadyIn.cons rfl (fun K hK => ?_) AllReadyIn.nil)
        go_simp
        refine hK _ _ ?_
        clear hK K
        refine wpAnyIn_done (by decide +kernel) ?_ _
        rotate_left
        go_simp
        refine hK _ _ ?_
        clear hK K
        refine wpAnyIn_ready (rs := [0, 2]) (by decide +kernel) (by simp) (AllReadyIn.cons rfl (fun K hK => ?_) (AllReadyIn.cons rfl (fun K hK => ?_) AllReadyIn.nil))
        go_simp
        refine hK _ _ ?_
        clear hK K
        refine wpAnyIn_ready (rs := [2]) (by decide +kernel) (by simp) (AllReadyIn.cons rfl (fun K hK => ?_) AllReadyIn.nil)
        go_simp
        refine hK _ _ ?_
        clear hK K
        refine wpAnyIn_take (i := 4) (v := ?_) rfl rfl (by decide +kernel) (by decide +kernel) (by decide +kernel) (fun _ _ _ h => h) ⟨Or.inl ⟨by rfl, ?_⟩, fun _ => rfl⟩ ?_
        rotate_left
        (intro w; go_simp; try with_reducible rfl)
        refine wpAnyIn_ready (rs := [5]) (by decide +kernel) (by simp) (AllReadyIn.cons rfl (fun K hK => ?_) AllReadyIn.nil)
        go_simp
        refine hK _ _ ?_
        clear hK K
        refine wpAnyIn_ready (rs := [8]) (by decide +kernel) (by simp) (AllReadyIn.cons rfl (fun K hK => ?_) AllReadyIn.nil)
        refine stepIn_append rfl rfl (.tmp 28) (.tmp 30) 62 rfl _ _ rfl rfl _ _ hrun ?_
        refine hK _ _ ?_
        clear hK K
        refine wpAnyIn_take (i := 9) (v := ?_) rfl rfl (by decide +kernel) (by decide +kernel) (by decide +kernel) (fun _ _ _ h => h) ⟨Or.inl ⟨by rfl, ?_⟩, fun _ => rfl⟩ ?_
        rotate_left
        (intro w; go_simp; try with_reducible rfl)
        refine wpAnyIn_ready (rs := [10]) (by decide +kernel) (by simp) (AllReadyIn.cons rfl (fun K hK => ?_) AllReadyIn.nil)
        go_simp
        refine hK _ _ ?_
        clear hK K
        refine wpAnyIn_done (by decide +kernel) ?_ _
        rotate_left
        go_simp
        refine hK _ _ ?_
        clear hK K
        refine wpAnyIn_take (i := 4) (v := ?_) rfl rfl (by decide +kernel) (by decide +kernel) (by decide +kernel) (fun _ _ _ h => h) ⟨Or.inl ⟨by rfl, ?_⟩, fun _ => rfl⟩ ?_
        rotate_left
        (intro w; go_simp; try with_reducible rfl)
        refine wpAnyIn_ready (rs := [0, 5]) (by decide +kernel) (by simp) (AllReadyIn.cons rfl (fun K hK => ?_) (AllReadyIn.cons rfl (fun K hK => ?_) AllReadyIn.nil))
        go_simp
        refine hK _ _ ?_
        clear hK K
        refine wpAnyIn_ready (rs := [5]) (by decide +kernel) (by simp) (AllReadyIn.cons rfl (fun K hK => ?_) AllReadyIn.nil)
        go_simp
        refine hK _ _ ?_
        clear hK K
        refine wpAnyIn_ready (rs := [8]) (by decide +kernel) (by simp) (AllReadyIn.cons rfl (fun K hK => ?_) AllReadyIn.nil)
        refine stepIn_append rfl rfl (.tmp 28) (.tmp 30) 62 rfl _ _ rfl rfl _ _ hrun ?_
        refine hK _ _ ?_
        clear hK K
        refine wpAnyIn_take (i := 9) (v := ?_) rfl rfl (by decide +kernel) (by decide +kernel) (by decide +kernel) (fun _ _ _ h => h) ⟨Or.inl ⟨by rfl, ?_⟩, fun _ => rfl⟩ ?_
        rotate_left
        (intro w; go_simp; try with_reducible rfl)
        refine wpAnyIn_ready (rs := [10]) (by decide +kernel) (by simp) (AllReadyIn.cons rfl (fun K hK => ?_) AllReadyIn.nil)
        go_simp
        refine hK _ _ ?_
        clear hK K
        refine wpAnyIn_done (by decide +kernel) ?_ _
        rotate_left
        go_simp
        refine hK _ _ ?_
        clear hK K
        refine wpAnyIn_ready (rs := [0, 8]) (by decide +kernel) (by simp) (AllReadyIn.cons rfl (fun K hK => ?_) (AllReadyIn.cons rfl (fun K hK => ?_) AllReadyIn.nil))
        go_simp
        refine hK _ _ ?_
        clear hK K
        refine wpAnyIn_ready (rs := [8]) (by decide +kernel) (by simp) (AllReadyIn.cons rfl (fun K hK => ?_) AllReadyIn.nil)
        refine stepIn_append rfl rfl (.tmp 28) (.tmp 30) 62 rfl _ _ rfl rfl _ _ hrun ?_
        refine hK _ _ ?_
        clear hK K
        refine wpAnyIn_take (i := 9) (v := ?_) rfl rfl (by decide +kernel) (by decide +kernel) (by decide +kernel) (fun _ _ _ h => h) ⟨Or.inl ⟨by rfl, ?_⟩, fun _ => rfl⟩ ?_
        rotate_left
        (intro w; go_simp; try with_reducible rfl)
        refine wpAnyIn_ready (rs := [10]) (by decide +kernel) (by simp) (AllReadyIn.cons rfl (fun K hK => ?_) AllReadyIn.nil)
        go_simp
        refine hK _ _ ?_
        clear hK K
        refine wpAnyIn_done (by decide +kernel) ?_ _
        rotate_left
        refine stepIn_append rfl rfl (.tmp 28) (.tmp 30) 62 rfl _ _ rfl rfl _ _ hrun ?_
        refine hK _ _ ?_
        clear hK K
        refine wpAnyIn_ready (rs := [0]) (by decide +kernel) (by simp) (AllReadyIn.cons rfl (fun K hK => ?_) AllReadyIn.nil)
        go_simp
        refine hK _ _ ?_
        clear hK K
        refine wpAnyIn_take (i := 9) (v := ?_) rfl rfl (by decide +kernel) (by decide +kernel) (by decide +kernel) (fun _ _ _ h => h) ⟨Or.inl ⟨by rfl, ?_⟩, fun _ => rfl⟩ ?_
        rotate_left
        (intro w; go_simp; try with_reducible rfl)
        refine wpAnyIn_ready (rs := [10]) (by decide +kernel) (by simp) (AllReadyIn.cons rfl (fun K hK => ?_) AllReadyIn.nil)
        go_simp
        refine hK _ _ ?_
        clear hK K
        refine wpAnyIn_done (by decide +kernel) ?_ _
        rotate_left
        all_goals
          exact HFIN.out
      case done =>
        rintro D ys W hD hys hs hK
        have hMk2 : Marks W (b0 + 1) (D :: Ds) := ⟨List.nodup_cons.2 ⟨fun hD2 => by have := HDs.out D hD2; omega, hs.marks.nodup⟩, fun E hE => by
          rcases List.mem_cons.1 hE with rfl | hE
          · exact ⟨by omega, hK⟩
          · exact hs.marks.at_ E hE⟩
        have hst : BySt w0 w g b0 n (vs ++ [v]) W := by
          obtain ⟨G, sv, h3, h4, h5⟩ := hs.grp
          refine ⟨hs.bel, hs.box, G, sv, h3, ⟨fun k hk => ?_, h5.rd⟩⟩
          rw [h5.is k hk, hys]
          exact wantR_all vs v hk
        have HST := Lib.hid hst
        have HMK2 := Lib.hid hMk2
        clear hst hMk2 hs
        gi_wp2
        have hle : q + 1 ≤ m := by omega
        have hst2 : BySt w0 w g b0 n ((vecs L).take (q + 1)) W := by rw [HTK.out]; exact HST.out
        exact ⟨⟨q + 1, D :: Ds, ⟨by omega, rfl⟩, hle, hst2, HMK2.out⟩, by simp [intOf]; omega⟩
      case stop =>
        rintro D c pre W _ _ h _
        exact h.elim
    · obtain rfl : q = m := by omega
      have eL : decide ((q : Int) < (q : Int)) = false := decide_eq_false (by omega)
      have HS := Lib.hid hs
      have HMk := Lib.hid hMk
      have c0 : W.cell? ⟨b0, 0, none⟩ = some (.slice (some ⟨g, 0, none⟩) n n) := hs.box.cell 0
      clear hs hMk
      gi_wp2
      show LeavesInM Fence.wide 9 Tryz.prog Tryz.f84 _ _ (Ds.map mark) .returning W
      have hpost : Below w.heap.size w W ∧ ∃ base G sv, GrpR W base g n G sv ∧ GathR w0 n (fun k => subL (vecs L) k n) G := by
        obtain ⟨G, sv, h3, h4⟩ := HS.out.grp
        refine ⟨by rw [HG.out]; exact HS.out.bel, b0 + 1, G, sv, h3, ?_⟩
        rwa [List.take_of_length_le (by rw [vecs_len, HM.out]; exact Nat.le_refl _)] at h4
      refine leaves_marks (v := .slice (some ⟨g, 0, none⟩) n n) (base := b0 + 1) (fun W => by rw [results_tmp rfl]; rfl) (fun W2 D hD hk h => ?_) Ds W HMk.out ⟨by rw [HG.out], hpost.1, by rw [HG.out]; exact hpost.2⟩
      obtain ⟨e1, e2, base, G, sv, h3, h4⟩ := h
      exact ⟨e1, e2.trans (belowK_b (w := w) (Nat.le_refl _) W2 D _ _ (by have := HG.out; omega) hk rfl rfl), base, G, sv, h3.putW hk rfl, h4⟩
end Go.Proofs.YthbimjkcpmffcaaGreat
