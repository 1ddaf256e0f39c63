/- Several texts in one. -/
import Derived.Test.YthbimjkcpmffcaaGreatPj
import Derived.Test.YthbimjkcpmffcaaGreatWs
import Derived.Deep.RegionHeld3
import Derived.Deep.RegionWith
import Derived.Deep.RegionLaw
import Derived.Shelf.RegionOpen
/- Package pq: what lists may be. -/
namespace Go.Proofs.YthbimjkcpmffcaaGreat
open Go.RowKit
set_option linter.unusedVariables false
/-- As many in each. -/
def haveL {α : Type} (vs : List (List α)) (n : Int) : Bool := decide (∀ v ∈ vs, (v.length : Int) = n)
theorem haveL_no {α : Type} {vs : List (List α)} {n : Int} {j : Nat} {v : List α} (h : vs[j]? = some v) (hv : (v.length : Int) ≠ n) : haveL vs n = false := decide_eq_false (fun k => hv (k v (List.mem_of_getElem? h)))
set_option maxRecDepth 100000 in
theorem have8_any (A : Option Addr) (c : Nat) (L : List Vc) (m : Nat) (hm : m = L.length) (n : Int) (w : World) (B : Nat) (hx : RdV w B A L) (hl : L.length ≤ 140737488355328) :
    Calls Tryz.prog 41 #[.slice A m c, .int .i64 n] w fun e w' => e = .returned (.bool (haveL (vecs L) n)) ∧ w = w' := by
  subst hm
  have HX := Lib.hid hx
  clear hx
  go_enter Tryz.func41, Tryz.ntmps41
  go_wp2
  go_loop [9] (fun i => ∃ k : Nat, k ≤ L.length ∧ i = .int .i64 k ∧ Hid (∀ j v, j < k → (vecs L)[j]? = some v → (v.length : Int) = n)) (fun i => L.length - (intOf i).toNat)
  case atStart => exact ⟨0, by omega, rfl, (fun j v hj => absurd hj (Nat.not_lt_zero _) : ∀ j v, j < 0 → (vecs L)[j]? = some v → (v.length : Int) = n)⟩
  case round =>
    obtain ⟨k, hk, rfl, HK⟩ := hrel
    by_cases hlt : k < L.length
    · have eL : decide ((k : Int) < (L.length : Int)) = true := decide_eq_true (by omega)
      obtain ⟨b, off, a1, c1, v, rfl, hBk, hck, hrd, hv1⟩ := HX.out.at_ hlt
      clear hrd
      by_cases heq : (v.length : Int) = n
      · have HN : Hid (∀ j v, j < k + 1 → (vecs L)[j]? = some v → (v.length : Int) = n) := Lib.hid (fun j u hj hu => by
          rcases Nat.lt_or_ge j k with h | h
          · exact HK.out j u h hu
          · obtain rfl : j = k := by omega
            rw [vecs_at hv1.out] at hu
            injection hu with hu
            subst hu
            exact heq)
        subst heq
        clear hv1 HK
        go_wp2
        go_round
        case rel => exact ⟨k + 1, by omega, by go_num, HN⟩
        case measure => simp [intOf]; omega
      · have e1 : ((v.length : Int) == n) = false := by rw [beq_eq_false_iff_ne]; exact heq
        have HN := Lib.hid (haveL_no (vecs_at hv1.out) heq)
        clear hv1 HK heq
        go_wp2
        go_ret
        exact ⟨by rw [HN.out]; rfl, rfl⟩
    · obtain rfl : k = L.length := by omega
      have eL : decide ((L.length : Int) < (L.length : Int)) = false := decide_eq_false (by omega)
      have HN : Hid (haveL (vecs L) n = true) := Lib.hid (decide_eq_true (fun v hv => by
        obtain ⟨j, hj⟩ := List.getElem?_of_mem hv
        exact HK.out j v (by have := (List.getElem?_eq_some_iff.1 hj).1; rwa [vecs_len] at this) hj))
      clear HK
      go_wp2
      go_ret
      exact ⟨by rw [HN.out]; rfl, rfl⟩
set_option maxRecDepth 100000 in
theorem haveP_any (A : Option Addr) (c : Nat) (L : List Pc) (m : Nat) (hm : m = L.length) (n : Int) (w : World) (B : Nat) (hx : RdP w B A L) (hl : L.length ≤ 140737488355328) :
    Calls Tryz.prog 39 #[.slice A m c, .int .i64 n] w fun e w' => e = .returned (.bool (haveL (words L) n)) ∧ w = w' := by
  subst hm
  have HX := Lib.hid hx
  clear hx
  go_enter Tryz.func39, Tryz.ntmps39
  go_wp2
  go_loop [9] (fun i => ∃ k : Nat, k ≤ L.length ∧ i = .int .i64 k ∧ Hid (∀ j v, j < k → (words L)[j]? = some v → (v.length : Int) = n)) (fun i => L.length - (intOf i).toNat)
  case atStart => exact ⟨0, by omega, rfl, (fun j v hj => absurd hj (Nat.not_lt_zero _) : ∀ j v, j < 0 → (words L)[j]? = some v → (v.length : Int) = n)⟩
  case round =>
    obtain ⟨k, hk, rfl, HK⟩ := hrel
    by_cases hlt : k < L.length
    · have eL : decide ((k : Int) < (L.length : Int)) = true := decide_eq_true (by omega)
      obtain ⟨b, off, a1, c1, v, rfl, hBk, hck, hrd, hv1⟩ := HX.out.at_ hlt
      clear hrd
      have hvl : Hid ((vecs v).length = v.length) := vecs_len v
      by_cases heq : (v.length : Int) = n
      · have HN : Hid (∀ j v, j < k + 1 → (words L)[j]? = some v → (v.length : Int) = n) := Lib.hid (fun j u hj hu => by
          rcases Nat.lt_or_ge j k with h | h
          · exact HK.out j u h hu
          · obtain rfl : j = k := by omega
            rw [words_at hv1.out] at hu
            injection hu with hu
            subst hu
            rw [hvl.out]; exact heq)
        subst heq
        clear hv1 HK
        go_wp2
        go_round
        case rel => exact ⟨k + 1, by omega, by go_num, HN⟩
        case measure => simp [intOf]; omega
      · have e1 : ((v.length : Int) == n) = false := by rw [beq_eq_false_iff_ne]; exact heq
        have HN := Lib.hid (haveL_no (words_at hv1.out) (by rw [hvl.out]; exact heq))
        clear hv1 HK heq
        go_wp2
        go_ret
        exact ⟨by rw [HN.out]; rfl, rfl⟩
    · obtain rfl : k = L.length := by omega
      have eL : decide ((L.length : Int) < (L.length : Int)) = false := decide_eq_false (by omega)
      have HN : Hid (haveL (words L) n = true) := Lib.hid (decide_eq_true (fun v hv => by
        obtain ⟨j, hj⟩ := List.getElem?_of_mem hv
        exact HK.out j v (by have := (List.getElem?_eq_some_iff.1 hj).1; rwa [words_len] at this) hj))
      clear HK
      go_wp2
      go_ret
      exact ⟨by rw [HN.out]; rfl, rfl⟩
/-- May so many numbers be cut into so many parts? -/
def cutB (d n : Int) : Bool := decide (1 ≤ d ∧ d ≤ 64 ∧ 1 ≤ n ∧ n ≤ d)
theorem cutB_yes {d n : Int} (h : cutB d n = true) : 1 ≤ d ∧ d ≤ 64 ∧ 1 ≤ n ∧ n ≤ d := of_decide_eq_true h
theorem cutB_no {d n : Int} (h : cutB d n = false) : ¬ (1 ≤ d ∧ d ≤ 64 ∧ 1 ≤ n ∧ n ≤ d) := of_decide_eq_false h
theorem canCut_any (d n : Int) (w : World) : Calls Tryz.prog 38 #[.int .i64 d, .int .i64 n] w fun e w' => e = .returned (.bool (cutB d n)) ∧ w = w' := by
  have H : Hid (cutB d n = (decide (1 ≤ d) && (decide (d ≤ 64) && (decide (1 ≤ n) && decide (n ≤ d))))) := Lib.hid (by simp [cutB])
  go_enter Tryz.func38, Tryz.ntmps38
  by_cases h1 : 1 ≤ d
  · have e1 : decide (1 ≤ d) = true := decide_eq_true h1
    by_cases h2 : d ≤ 64
    · have e2 : decide (d ≤ 64) = true := decide_eq_true h2
      by_cases h3 : 1 ≤ n
      · have e3 : decide (1 ≤ n) = true := decide_eq_true h3
        clear h1 h2 h3
        go_wp2
        go_ret
        exact ⟨by rw [H.out, e1, e2, e3]; rfl, rfl⟩
      · have e3 : decide (1 ≤ n) = false := decide_eq_false h3
        clear h1 h2 h3
        go_wp2
        go_ret
        exact ⟨by rw [H.out, e1, e2, e3]; rfl, rfl⟩
    · have e2 : decide (d ≤ 64) = false := decide_eq_false h2
      clear h1 h2
      go_wp2
      go_ret
      exact ⟨by rw [H.out, e1, e2]; rfl, rfl⟩
  · have e1 : decide (1 ≤ d) = false := decide_eq_false h1
    clear h1
    go_wp2
    go_ret
    exact ⟨by rw [H.out, e1]; rfl, rfl⟩
end Go.Proofs.YthbimjkcpmffcaaGreat
/- Package pq: Check. -/
namespace Go.Proofs.YthbimjkcpmffcaaGreat
open Go.RowKit Go.Shelf
set_option linter.unusedVariables false
attribute [local go_sem] Oper.semAt_some
/-- A region whose orders all end alike. -/
theorem wpIn_once {F : Fence} {n : Nat} {P : Program} {c : Code} {Q : Exit → Act → World → Prop} {a : Act} {w : World} (A : Act) (W : World) (h : Code.wpIn F n P c (fun e a' w' => e = .normal ∧ a' = A ∧ w' = W) a w) (hQ : Q .normal A W) : Code.wpIn F n P c Q a w :=
  wpIn_mono h (fun e a' w' ⟨h1, h2, h3⟩ => by subst h1; subst h2; subst h3; exact hQ)
theorem resCellC {P : Program} {fn : Func} {p : Tmp} {ty : TypeId} (h : fn.results = #[.cell p ty]) (tmps : Array Value) (w : World) :
    (results fn tmps).run P w = ((asAddr (tmps.getD p undef)).run P w).andThen fun a w₁ => (loadVar ty a).run P w₁ := by
  simp only [results, h]
  simp [Sem.run_bind, Result.andThen]
theorem two_one (w : World) (x z : Value) (t u : TypeId) : Whole ((w.alloc (.cells #[x] t)).alloc (.cells #[z] u)) w.heap.size t #[x] ∧ Whole ((w.alloc (.cells #[x] t)).alloc (.cells #[z] u)) (w.heap.size + 1) u #[z] ∧ Below w.heap.size w ((w.alloc (.cells #[x] t)).alloc (.cells #[z] u)) ∧ ((w.alloc (.cells #[x] t)).alloc (.cells #[z] u)).heap.size = w.heap.size + 2 := by
  refine ⟨(Whole.new w t _).alloc _, ?_, ((Below.refl _ w).alloc (Nat.le_refl _) _).alloc (by simp) _, by simp⟩
  have := Whole.new (w.alloc (.cells #[x] t)) u #[z]
  rwa [World.size_alloc] at this
theorem two_boxes (w : World) (x y z : Value) (t u : TypeId) : Below w.heap.size w ((w.alloc (.cells #[x, y] t)).alloc (.cells #[z] u)) ∧ Whole ((w.alloc (.cells #[x, y] t)).alloc (.cells #[z] u)) w.heap.size t #[x, y] ∧ Whole ((w.alloc (.cells #[x, y] t)).alloc (.cells #[z] u)) (w.heap.size + 1) u #[z] ∧ ((w.alloc (.cells #[x, y] t)).alloc (.cells #[z] u)).heap.size = w.heap.size + 2 := by
  refine ⟨((Below.refl _ w).alloc (Nat.le_refl _) _).alloc (by simp) _, (Whole.new w t _).alloc _, ?_, by simp⟩
  have := Whole.new (w.alloc (.cells #[x, y] t)) u #[z]
  rwa [World.size_alloc] at this
set_option maxRecDepth 100000 in
set_option maxHeartbeats 1000000 in
theorem check_no1 (P : Int) (A : Option Addr) (c m : Nat) (d : Int) (w : World) (h : cutB d P = false) :
    Calls Tryz.prog 15 #[.agg #[.int .i64 P, .slice A m c], .int .i64 d] w fun e w' => e = .returned (.bool false) ∧ Below w.heap.size w w' := by
  have HC := Lib.hid (canCut_any d P)
  have HB := Lib.hid (two_boxes w (.int .i64 P) (.slice A m c) (.bool false) 24 4).1
  rw [h] at HC
  clear h
  go_enter Tryz.func15, Tryz.ntmps15
  go_wp2_with (go_at_call 38; refine (HC.out _).mono ?_; rintro e w1 ⟨rfl, rfl⟩)
  refine bodyPost_ret (v := .bool false) (by rw [resCellC rfl]; go_simp) rfl ?_
  exact ⟨rfl, HB.out⟩
set_option maxRecDepth 100000 in
set_option maxHeartbeats 1000000 in
theorem check_no2 (P : Int) (A : Option Addr) (c m : Nat) (d : Int) (w : World) (h : cutB d P = true) (hm : ¬ (m : Int) = P) :
    Calls Tryz.prog 15 #[.agg #[.int .i64 P, .slice A m c], .int .i64 d] w fun e w' => e = .returned (.bool false) ∧ Below w.heap.size w w' := by
  have HC := Lib.hid (canCut_any d P)
  have HB := Lib.hid (two_boxes w (.int .i64 P) (.slice A m c) (.bool false) 24 4).1
  rw [h] at HC
  have e1 : ((m : Int) == P) = false := by rw [beq_eq_false_iff_ne]; exact hm
  clear h hm
  go_enter Tryz.func15, Tryz.ntmps15
  go_wp2_with (go_at_call 38; refine (HC.out _).mono ?_; rintro e w1 ⟨rfl, rfl⟩)
  refine bodyPost_ret (v := .bool false) (by rw [resCellC rfl]; go_simp) rfl ?_
  exact ⟨rfl, HB.out⟩
set_option maxRecDepth 100000 in
set_option maxHeartbeats 1000000 in
theorem check_no3 (A : Option Addr) (c m : Nat) (d : Int) (w : World) (h : cutB d m = true) (b off : Nat) (a0 : Option Addr) (k c0 : Nat) (hA : A = some ⟨b, off, none⟩) (hb : b < w.heap.size) (hc : w.cell? ⟨b, off, none⟩ = some (.slice a0 k c0)) (r : Bool)
    (hH : ∀ W, Below w.heap.size w W → Calls Tryz.prog 39 #[.slice A m c, .int .i64 k] W fun e w' => e = .returned (.bool r) ∧ W = w') (hr : ¬ (1 ≤ k ∧ k ≤ 64 ∧ r = true)) :
    Calls Tryz.prog 15 #[.agg #[.int .i64 m, .slice A m c], .int .i64 d] w fun e w' => e = .returned (.bool false) ∧ Below w.heap.size w w' := by
  subst hA
  have HC := Lib.hid (canCut_any d m)
  have HB := Lib.hid (two_boxes w (.int .i64 m) (.slice (some ⟨b, off, none⟩) m c) (.bool false) 24 4).1
  have HH := Lib.hid (hH _ HB.out)
  have ck : ((w.alloc (.cells #[.int .i64 m, .slice (some ⟨b, off, none⟩) m c] 24)).alloc (.cells #[.bool false] 4)).cell? ⟨b, off, none⟩ = some (.slice a0 k c0) := (HB.out.cell (p := ⟨b, off, none⟩) hb).trans hc
  rw [h] at HC
  have m1 := (cutB_yes h).2.2.1
  have z : (0 : Int) < (m : Int) := by omega
  clear h hH hc
  by_cases h1 : 1 ≤ k
  · have e1 : decide ((k : Int) < 1) = false := decide_eq_false (by omega)
    by_cases h2 : k ≤ 64
    · have e2 : decide ((64 : Int) < (k : Int)) = false := decide_eq_false (by omega)
      obtain rfl : r = false := by cases r <;> simp_all
      clear hr
      go_enter Tryz.func15, Tryz.ntmps15
      go_wp2_with (first
        | (go_at_call 38; refine (HC.out _).mono ?_; rintro e w1 ⟨rfl, rfl⟩)
        | (go_at_call 39; refine HH.out.mono ?_; rintro e w1 ⟨rfl, rfl⟩))
      refine bodyPost_ret (v := .bool false) (by rw [resCellC rfl]; go_simp) rfl ?_
      exact ⟨rfl, HB.out⟩
    · have e2 : decide ((64 : Int) < (k : Int)) = true := decide_eq_true (by omega)
      clear hr
      go_enter Tryz.func15, Tryz.ntmps15
      go_wp2_with (first
        | (go_at_call 38; refine (HC.out _).mono ?_; rintro e w1 ⟨rfl, rfl⟩))
      refine bodyPost_ret (v := .bool false) (by rw [resCellC rfl]; go_simp) rfl ?_
      exact ⟨rfl, HB.out⟩
  · have e1 : decide ((k : Int) < 1) = true := decide_eq_true (by omega)
    clear hr
    go_enter Tryz.func15, Tryz.ntmps15
    go_wp2_with (first
      | (go_at_call 38; refine (HC.out _).mono ?_; rintro e w1 ⟨rfl, rfl⟩))
    refine bodyPost_ret (v := .bool false) (by rw [resCellC rfl]; go_simp) rfl ?_
    exact ⟨rfl, HB.out⟩
theorem haveL_yes {α : Type} {vs : List (List α)} {n : Int} (h : haveL vs n = true) : ∀ v ∈ vs, (v.length : Int) = n := of_decide_eq_true h
theorem haveL_not {α : Type} {vs : List (List α)} {n : Int} (h : haveL vs n = false) : ¬ ∀ v ∈ vs, (v.length : Int) = n := of_decide_eq_false h
theorem book_mk {ps : List (List (List Int))} {n d : Nat} (hn : n = ps.length) (hc : (1 : Int) ≤ d ∧ (d : Int) ≤ 64 ∧ (1 : Int) ≤ n ∧ (n : Int) ≤ d) (h1 : 1 ≤ (pAt ps 0).length) (h2 : (pAt ps 0).length ≤ 64) (h3 : haveL ps (pAt ps 0).length = true)
    (h4 : ∀ q, q < n → haveL (pAt ps q) ((beg (q + 1) n d - beg q n d : Nat) : Int) = true) : bookB n ps d = true := by
  subst hn
  refine bookB_mk rfl ⟨by omega, by omega, by omega, by omega, fun p hp => ?_⟩
  have e1 := haveL_yes h3 _ (pAt_mem hp)
  refine ⟨by omega, by omega, by omega, fun w hw => ?_⟩
  have e2 := haveL_yes (h4 p hp) _ (vAt_mem hw)
  omega
theorem book_not {ps : List (List (List Int))} {n d q : Nat} (hn : n = ps.length) (hq : q < n) (h : haveL (pAt ps q) ((beg (q + 1) n d - beg q n d : Nat) : Int) = false) : bookB n ps d = false := by
  subst hn
  refine bookB_no (fun ⟨_, _, k⟩ => haveL_not h (fun v hv => ?_))
  have := k.all hq v hv
  rw [Int.toNat_natCast] at this
  omega
theorem keepsFrom_set {B b : Nat} (W : World) (h : b < B) (v : Value) : KeepsFrom B W (W.setCell ⟨b, 0, none⟩ v) := ⟨by simp, fun k o hk h2 _ => (Below.heap_setCell _ _ _ _ (show k ≠ b by omega)).trans h2⟩
theorem keepsW_set {K : Nat → TypeId → Prop} {W : World} {b : Nat} {v : Value} (h : ∀ k t, K k t → k ≠ b) : Keeps K W (W.setCell ⟨b, 0, none⟩ v) := ⟨by simp, fun k cs t fr hK hk => (Below.heap_setCell _ _ _ _ (h k t hK)).trans hk⟩
theorem whole_putW {W : World} {b D : Nat} {t : TypeId} {cs : Array Value} {o o' : Obj} (h : Whole W b t cs) (ho : W.heap[D]? = some o) (hc : o.isCells = false) : Whole (W.putObj D o') b t cs :=
  (World.putObj_heap_other (fun e => by
    subst e
    rw [show W.heap[b]? = _ from h] at ho
    cases ho
    cases hc)).trans h
theorem whole_keptW {W W' : World} {b B : Nat} {t : TypeId} {cs : Array Value} {row : Option Nat} (h : Whole W b t cs) (hg : W.grownBy W' row) (hr : ∀ r, row = some r → B ≤ r ∧ ∃ o : Obj, W.heap[r]? = some o ∧ o.isCells = false) : Whole W' b t cs :=
  (hg.block b h.lt (fun e => by
    obtain ⟨_, o, ho, hc⟩ := hr b e.symm
    rw [show W.heap[b]? = _ from h] at ho
    cases ho
    cases hc)).trans h
/-- What Check's loop keeps. -/
structure ChSt (g : Nat) (w : World) (V : Value) (n d : Nat) (ps : List (List (List Int))) (pre : List Nat) (W : World) : Prop where
  bel : Below g w W
  box : Whole W g 24 #[.int .i64 n, V]
  res : Whole W (g + 1) 4 #[.bool false]
  ok : Hid (∀ q, q < pre.length → haveL (pAt ps q) ((beg (q + 1) n d - beg q n d : Nat) : Int) = true)
theorem infoS0 : (Tryz.prog.info? 90).map (fun i => (i.zero, i.size, i.bytes)) = some (some (.agg #[]), 0, 0) := by kernel_rfl
set_option maxRecDepth 100000 in
set_option maxHeartbeats 2000000 in
theorem check_yes (A : Option Addr) (c n d : Nat) (L : List Pc) (w : World) (hx : PArg w A L) (hn : n = L.length) (h : cutB d n = true) (h1 : 1 ≤ (pAt (words L) 0).length) (h2 : (pAt (words L) 0).length ≤ 64) (h3 : haveL (words L) (pAt (words L) 0).length = true) :
    CallsIn Fence.wide 9 Tryz.prog 15 #[.agg #[.int .i64 n, .slice A n c], .int .i64 d] w fun e w' => e = .returned (.bool (bookB n (words L) d)) ∧ Below w.heap.size w w' := by
  have f90 : Fence.wide.fn 38 := trivial
  have f91 : Fence.wide.fn 39 := trivial
  have f92 : Fence.wide.fn 40 := trivial
  have f93 : Fence.wide.fn 41 := trivial
  have HC := Lib.hid (canCut_any d n)
  rw [h] at HC
  have HD := Lib.hid (cutB_yes h)
  have HN := Lib.hid hn
  clear h
  have tb := two_boxes w (.int .i64 n) (.slice A n c) (.bool false) 24 4
  have hx1 := hx.below tb.1
  have HX0 := Lib.hid hx
  have HX := Lib.hid hx1
  obtain ⟨b, off, a0, c0, M, rfl, hb, hc0, hv, hM⟩ := hx1.at_ (i := 0) (by have := HD.out.2.2.1; omega)
  have H1 := Lib.hid h1
  have H2 := Lib.hid h2
  have H3 := Lib.hid h3
  rw [pAt0 hM.out] at h1 h2 h3
  rw [Nat.add_zero] at hc0
  clear hx hx1
  have HH0 := haveP_any (some ⟨b, off, none⟩) c L n hn M.length _ _ HX.out.rd (by have := HX.out.sm.len; omega)
  rw [h3] at HH0
  have HH := Lib.hid HH0
  have HT := Lib.hid tb
  have e1 : decide ((M.length : Int) < 1) = false := decide_eq_false (by omega)
  have e2 : decide ((64 : Int) < (M.length : Int)) = false := decide_eq_false (by omega)
  have z : (0 : Int) < (n : Int) := by have := HD.out.2.2.1; omega
  clear HH0 tb hv hn h1 h2 h3
  refine callsIn_of_wp_marks Tryz.func15 rfl trivial ?_ rfl
  simp only [Tryz.ntmps15, List.size_toArray, List.length_cons, List.length_nil, Nat.reduceAdd, Nat.reduceSub, Array.replicate_succ, Array.replicate_zero, List.push_toArray, List.append_toArray, List.nil_append, List.cons_append]
  gi_wp2_with (first
    | (gi_at_call 38; refine (callsIn_wide.2 (HC.out _)).mono ?_; rintro e w1 ⟨rfl, rfl⟩)
    | (gi_at_call 39; refine (callsIn_wide.2 HH.out).mono ?_; rintro e w1 ⟨rfl, rfl⟩))
  obtain ⟨W2, eW⟩ : ∃ W2, (w.alloc (.cells #[.int .i64 n, .slice (some ⟨b, off, none⟩) n c] 24)).alloc (.cells #[.bool false] 4) = W2 := ⟨_, rfl⟩
  rw [eW] at HT HX HH hc0 hb ⊢
  clear eW
  obtain ⟨g, eg⟩ : ∃ g, w.heap.size = g := ⟨_, rfl⟩
  rw [eg] at HT ⊢
  have HG := Lib.hid eg
  clear eg
  have mixed : Tryz.prog.follows .mixedOrders = true := by kernel_rfl
  have k0 : W2.drew.cell? ⟨g, 0, none⟩ = some (.int .i64 n) := HT.out.2.1.cell 0
  obtain ⟨i0, hi, hz0, hz1, hz2⟩ := info_parts infoS0
  obtain ⟨W3, hmk, -, hgr⟩ := run_make_full (P := Tryz.prog) W2.drew 0 91 90 i0 (.agg #[]) 0 Tryz.underlying91 hi hz0 hz1 .i64 .i64 d (by rw [hz2]; omega) (by have := HD.out; unfold maxLen; omega) (Nat.zero_le _)
  clear hi hz0 hz1 hz2 i0
  have b3 : Below W2.heap.size W2 W3 := ⟨hgr.os, hgr.tape, hgr.output, hgr.size, fun k hk => hgr.block k hk (by simp)⟩
  have k3 : W3.cell? ⟨g, 0, none⟩ = some (.int .i64 n) := (HT.out.2.1.below b3 HT.out.2.1.lt).cell 0
  have B3 := Lib.hid b3
  clear b3 hgr
  apply wpIn_once
  case h =>
    first
      | (gi_region_with_o (gi_at_call 40; refine (callsIn_wide.2 (partsS_any _ d d n _)).mono ?_; rintro e w3 ⟨rfl, h3⟩; subst h3))
      | fail
    all_goals exact ⟨rfl, rfl, rfl⟩
  case hQ =>
    gi_wp2
    have hsz := HT.out.2.2.2
    have hB3 := B3.out.size
    obtain ⟨blk, eblk⟩ : ∃ blk, W2.heap.size = blk := ⟨_, rfl⟩
    rw [eblk] at B3 hB3 hsz ⊢
    have tn := two_one W3 (.slice (some ⟨blk, 0, none⟩) d d) (.int .i64 n) 91 3
    obtain ⟨W4, eW4⟩ : ∃ W4, (W3.alloc (.cells #[.slice (some ⟨blk, 0, none⟩) d d] 91)).alloc (.cells #[.int .i64 n] 3) = W4 := ⟨_, rfl⟩
    rw [eW4] at tn ⊢
    clear eW4
    obtain ⟨tn1, tn2, tn3, tn4⟩ := tn
    obtain ⟨s3, es3⟩ : ∃ s3, W3.heap.size = s3 := ⟨_, rfl⟩
    rw [es3] at tn1 tn2 tn3 tn4 hB3 ⊢
    have bel4 : Below blk W2 W4 := B3.out.trans (tn3.mono hB3)
    have st0 : ChSt g w (.slice (some ⟨b, off, none⟩) n c) n d (words L) [] W4 :=
      ⟨(show Below g w W2 from HT.out.1).trans (bel4.mono (by omega)), HT.out.2.1.below bel4 (by omega), HT.out.2.2.1.below bel4 (by omega), fun q hq => absurd hq (Nat.not_lt_zero _)⟩
    have hD := HD.out
    have HG4 := Lib.hid (show g + 2 ≤ W4.heap.size by omega)
    have HNW := Lib.hid (HN.out.trans (words_len L).symm)
    clear hsz hB3
    refine wpIn_rangeFunc_N rfl (by omega : 1 ≤ 9) (gf := 96) (lb := #[.pointer (some ⟨s3 + 1, 0, none⟩), .pointer (some ⟨s3, 0, none⟩)]) rfl trivial (enters_of Tryz.func96 (by kernel_rfl) rfl)
      (partsS_seq n (9 - 1) (s3 + 1) s3 blk d d (by omega) (by omega) (by omega) (Nat.le_refl _) (by omega) W4 tn2 tn1) (fun h k => h.trans k) (fun W l o o' _ ho hc _ => Keeps.put W l o o' ho hc) (Below.refl _ _) (fun _ => rfl)
      (ChSt g w (.slice (some ⟨b, off, none⟩) n c) n d (words L)) (fun c' pre W => c' = .ret ∧ Below g w W ∧ Whole W (g + 1) 4 #[.bool false] ∧ Hid (bookB n (words L) d = false))
      (fun pre W W' row hs hg hr => ⟨hs.bel.grown hg (by have := hs.bel.size; have := HG.out; omega) (fun k e => by have := (hr k e).1; have := HG4.out; omega), whole_keptW hs.box hg hr, whole_keptW hs.res hg hr, hs.ok⟩)
      (fun c' pre W W' row hs hg hr => ⟨hs.1, hs.2.1.grown hg (by have := hs.2.1.size; have := HG.out; omega) (fun k e => by have := (hr k e).1; have := HG4.out; omega), whole_keptW hs.2.2.1 hg hr, hs.2.2.2⟩)
      st0
      (fun x => { tmps := #[.agg #[.int .i64 n, .slice (some ⟨b, off, none⟩) n c], .int .i64 d, .pointer (some ⟨g, 0, none⟩), undef, .pointer (some ⟨g + 1, 0, none⟩), .int .i64 M.length, .int .i64 x, .slice (some ⟨blk, 0, none⟩) (beg (x + 1) n d - beg x n d) (beg (x + 1) n d - beg x n d),
        .int .i64 d, .pointer (some ⟨g, 0, none⟩), .int .i64 n, .bool true, .bool false, .bool false, .pointer (some ⟨g, 1, none⟩), .slice (some ⟨b, off, none⟩) n c, .int .i64 n, .pointer (some ⟨g, 0, none⟩), .int .i64 n, .bool false, .bool false, .pointer (some ⟨g, 1, none⟩),
        .slice (some ⟨b, off, none⟩) n c, .pointer (some ⟨b, off, none⟩), .slice a0 M.length c0, .int .i64 M.length, .int .i64 M.length, .bool false, .bool false, .int .i64 M.length, .bool false, .bool false, .bool false, .pointer (some ⟨g, 1, none⟩), .slice (some ⟨b, off, none⟩) n c, .int .i64 M.length,
        .bool true, .bool false, .bool false, .int .i64 d, .slice (some ⟨blk, 0, none⟩) d d, .pointer (some ⟨g, 0, none⟩), .int .i64 n, .func (.func 96) #[] #[.pointer (some ⟨s3 + 1, 0, none⟩), .pointer (some ⟨s3, 0, none⟩)], .int .i64 x, .slice (some ⟨blk, 0, none⟩) (beg (x + 1) n d - beg x n d) (beg (x + 1) n d - beg x n d),
        undef, undef, undef, undef, undef, undef, undef, undef, undef], defers := [] }) ?assign ?body ?done ?stop
    case assign =>
      intro l x W K hK
      simp only [encS]
      gi_wp2
      exact hK
    case body =>
      rintro l pre x W hs ⟨hxp, hxn⟩
      obtain ⟨b2, off2, a2, c2, M2, hA2, hb2, hc2, hv2, hM2⟩ := (HX0.out.below (show Below w.heap.size w W by rw [HG.out]; exact hs.bel)).at_ (i := x) (by have := HN.out; omega)
      injection hA2 with hA2
      injection hA2 with q1 q2
      subst q1; subst q2
      have HM := Lib.hid (show pAt (words L) x = vecs M2 from words_pAt hM2.out)
      have HH2 := have8_any a2 c2 M2 _ rfl ((beg (x + 1) n d - beg x n d : Nat) : Int) W _ hv2.rd (by have := hv2.len; omega)
      rw [← HM.out] at HH2
      have cb : W.cell? ⟨g, 1, none⟩ = some (.slice (some ⟨b, off, none⟩) n c) := hs.box.cell 1
      have cr : W.cell? ⟨g + 1, 0, none⟩ = some (.bool false) := hs.res.cell 0
      have fr := hs.res.frozen 0
      have HS := Lib.hid hs
      have HP := Lib.hid hxp
      have hxn2 : (x : Int) < (n : Int) := by omega
      clear hv2 hM2 hs hxp
      have HBN := Lib.hid (book_not (ps := words L) (d := d) HNW.out hxn)
      have HKK := Lib.hid (fun q => HS.out.ok.out q)
      obtain ⟨kk, ekk⟩ : ∃ kk, beg (x + 1) n d - beg x n d = kk := ⟨_, rfl⟩
      rw [ekk] at HH2 HBN ⊢
      have HEK := Lib.hid ekk
      clear ekk
      cases hr : haveL (pAt (words L) x) (kk : Int) with
      | true =>
        rw [hr] at HH2
        have HH3 := Lib.hid HH2
        have HR := Lib.hid hr
        clear HH2 hr HBN
        gi_wp2_with (gi_at_call 41; refine (CallsIn.inRound l (callsIn_wide.2 HH3.out)).mono ?_; rintro e w5 ⟨rfl, rfl⟩)
        refine ⟨KeepsFrom.refl _ _, Keeps.refl _ _, HS.out.bel, HS.out.box, HS.out.res, fun q hq => ?_⟩
        rw [List.length_append, List.length_singleton] at hq
        rcases Nat.lt_or_ge q pre.length with h | h
        · exact HKK.out q h
        · obtain rfl : q = x := by have := HP.out; omega
          rw [HEK.out]; exact HR.out
      | false =>
        rw [hr] at HH2
        have HH3 := Lib.hid HH2
        have HR := Lib.hid (HBN.out hr)
        clear HH2 hr HBN
        gi_wp2_with (gi_at_call 41; refine (CallsIn.inRound l (callsIn_wide.2 HH3.out)).mono ?_; rintro e w5 ⟨rfl, rfl⟩)
        refine ⟨keepsFrom_set _ (by have := HG4.out; omega) _, rfl, HS.out.bel.setCell (p := ⟨g + 1, 0, none⟩) (by show g ≤ g + 1; omega) _, HS.out.res.set 0 _, HR⟩
    case done =>
      rintro D ys W hD2 hys hs hK
      have cr : W.cell? ⟨g + 1, 0, none⟩ = some (.bool false) := hs.res.cell 0
      have fr := hs.res.frozen 0
      have HBK := Lib.hid (book_mk HNW.out hD H1.out H2.out H3.out (fun q hq => hs.ok.out q (by rw [hys]; exact hq)))
      have HS := Lib.hid hs
      clear hs
      gi_wp2
      have hK' : (W.setCell ⟨g + 1, 0, none⟩ (.bool true)).heap[D]? = some (.deferred (some [])) := (Below.heap_setCell _ _ _ _ (show D ≠ g + 1 by have := HG4.out; omega)).trans hK
      refine ⟨by simp, .inl ⟨_, _, rfl, run_takeDeferred hK', ?_⟩⟩
      refine ⟨.bool true, ?_, by rw [HBK.out], ?_⟩
      · rw [resCellC rfl]
        have cz : ((W.setCell ⟨g + 1, 0, none⟩ (.bool true)).putObj D (.deferred none)).cell? ⟨g + 1, 0, none⟩ = some (.bool true) := (whole_putW (o' := .deferred none) (HS.out.res.set 0 (.bool true)) hK' rfl).cell 0
        simp [go_sem, cz]
      · have h1 : Below w.heap.size w (W.setCell ⟨g + 1, 0, none⟩ (.bool true)) := by rw [HG.out]; exact HS.out.bel.setCell (p := ⟨g + 1, 0, none⟩) (by show g ≤ g + 1; omega) _
        have := HG4.out
        have := HG.out
        exact h1.trans (belowK_b (w := w) (Nat.le_refl _) _ D _ _ (by omega) hK' rfl rfl)
    case stop =>
      rintro D c' pre W hD _ ⟨rfl, hb1, hb2, hb3⟩ hK
      gi_wp2
      refine ⟨by simp, .inl ⟨_, _, rfl, run_takeDeferred hK, ?_⟩⟩
      refine ⟨.bool false, ?_, by rw [hb3.out], ?_⟩
      · rw [resCellC rfl]
        have cz : (W.putObj D (.deferred none)).cell? ⟨g + 1, 0, none⟩ = some (.bool false) := (whole_putW (o' := .deferred none) hb2 hK rfl).cell 0
        simp [go_sem, cz]
      · rw [← HG.out] at hb1
        have := HG4.out
        have := HG.out
        exact hb1.trans (belowK_b (w := w) (Nat.le_refl _) _ D _ _ (by omega) hK rfl rfl)
/-- Check, of any book and any number of numbers. -/
theorem check_any (P : Int) (A : Option Addr) (c : Nat) (L : List Pc) (d : Int) (w : World) (hx : PArg w A L) :
    Calls Tryz.prog 15 #[.agg #[.int .i64 P, .slice A L.length c], .int .i64 d] w fun e w' => e = .returned (.bool (bookB P (words L) d)) ∧ Below w.heap.size w w' := by
  cases h : cutB d P with
  | false =>
    have e : bookB P (words L) d = false := bookB_no (fun ⟨h1, h2, h3⟩ => cutB_no h (by have h4 := h3.1; have h5 := h3.2.1; have h6 := h3.2.2.1; have h7 := h3.2.2.2.1; omega))
    rw [e]
    exact check_no1 P A c L.length d w h
  | true =>
    by_cases hP : (L.length : Int) = P
    · subst hP
      have hc := cutB_yes h
      obtain ⟨d, rfl⟩ := Int.eq_ofNat_of_zero_le (show 0 ≤ d by omega)
      by_cases hr : 1 ≤ (pAt (words L) 0).length ∧ (pAt (words L) 0).length ≤ 64 ∧ haveL (words L) (pAt (words L) 0).length = true
      · exact callsIn_wide.1 (check_yes A c L.length d L w hx rfl h hr.1 hr.2.1 hr.2.2)
      · obtain ⟨b, off, a0, c0, M, hA, hb, hc0, hv, hM⟩ := hx.at_ (i := 0) (by omega)
        have e : bookB (L.length : Int) (words L) d = false := bookB_no (fun ⟨h1, h2, h3⟩ => hr (by
          have hl : 0 < (words L).length := by rw [words_len]; omega
          have h4 := h3.2.2.2.2 0 hl
          refine ⟨h4.1, h4.2.1, decide_eq_true (fun v hv => ?_)⟩
          obtain ⟨j, hj⟩ := List.getElem?_of_mem hv
          have hjl := (List.getElem?_eq_some_iff.1 hj).1
          have h5 := (h3.2.2.2.2 j hjl).2.2.1
          have h6 : pAt (words L) j = v := by unfold pAt; rw [hj]; rfl
          rw [h6] at h5
          omega))
        rw [e]
        rw [pAt0 hM.out] at hr
        exact check_no3 A c L.length d w h b off a0 M.length c0 hA hb (by rw [Nat.add_zero] at hc0; exact hc0) (haveL (words L) M.length) (fun W hW => haveP_any A c L _ rfl M.length W _ (hx.below hW).rd (by have := hx.sm.len; omega)) hr
    · have e : bookB P (words L) d = false := bookB_no (fun ⟨h1, h2, h3⟩ => hP (by rw [words_len] at h2; exact h2))
      rw [e]
      exact check_no2 P A c L.length d w h hP
end Go.Proofs.YthbimjkcpmffcaaGreat
