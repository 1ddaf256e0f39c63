/- Several texts in one. -/
import Derived.RangeFuncBox
import Derived.RangeFuncNested
import Derived.RangeFuncBound
import Derived.RangeFuncCalls
import Derived.RangeFuncLeaves
import Derived.Shelf.Abstract
import Derived.Shelf.RegionOpen
import Derived.WalkKit
import Derived.OwnWalkIn
import Derived.TacticsInMore
import Derived.LoopNIn
import Derived.LoopIn
import Derived.Maps.AppendAt
import Derived.Test.YtkmngbkghgelfaaGreatProg
import Derived.Test.YtkmngbkghgelfaaGreatBs
/- The walks of layer 3 (vec) on distances: the iterator 'pairs', apart, isDim, Dist, and the document's Far and Dist. -/
namespace Go.Proofs.YtkmngbkghgelfaaGreat
open Go.RowKit Go.Shelf
set_option linter.unusedVariables false
attribute [local go_sem] Oper.semAt_some

/-- How far: the sum of the squares of what is between. -/
def farL (l : List (Int × Int)) : Int := (l.map fun p => (p.1 - p.2) * (p.1 - p.2)).sum
theorem farL_snoc (l : List (Int × Int)) (p : Int × Int) : farL (l ++ [p]) = farL l + (p.1 - p.2) * (p.1 - p.2) := by unfold farL; simp
theorem sq_bd {x : Int} (h1 : -255 ≤ x) (h2 : x ≤ 255) : 0 ≤ x * x ∧ x * x ≤ 65025 := by
  constructor
  · rcases Int.le_total 0 x with h | h
    · exact Int.mul_nonneg h h
    · have := Int.mul_nonneg (show 0 ≤ -x by omega) (show 0 ≤ -x by omega); rwa [Int.neg_mul_neg] at this
  · have h3 : x.natAbs ≤ 255 := by omega
    have h4 : x * x = ((x.natAbs * x.natAbs : Nat) : Int) := by simp
    rw [h4]
    have := Nat.mul_le_mul h3 h3
    omega
theorem farL_bd (l : List (Int × Int)) (h : ∀ p ∈ l, (-128 ≤ p.1 ∧ p.1 ≤ 127) ∧ (-128 ≤ p.2 ∧ p.2 ≤ 127)) : 0 ≤ farL l ∧ farL l ≤ 65025 * l.length := by
  induction l with
  | nil => simp [farL]
  | cons p l ih =>
    have h1 := ih (fun q hq => h q (by simp [hq]))
    have h2 := h p (by simp)
    have h3 := sq_bd (x := p.1 - p.2) (by omega) (by omega)
    have e : farL (p :: l) = (p.1 - p.2) * (p.1 - p.2) + farL l := by unfold farL; simp
    rw [e]
    simp only [List.length_cons]
    omega
/-- A number as an int8 may hold it. -/
def cl (x : Int) : Int := max (-128) (min 127 x)
theorem cl_bd (x : Int) : -128 ≤ cl x ∧ cl x ≤ 127 := by unfold cl; omega
theorem cl_id {x : Int} (h : -128 ≤ x ∧ x ≤ 127) : cl x = x := by unfold cl; omega
def farC (l : List (Int × Int)) : Int := farL (l.map fun p => (cl p.1, cl p.2))
theorem farC_snoc (l : List (Int × Int)) (p : Int × Int) : farC (l ++ [p]) = farC l + (cl p.1 - cl p.2) * (cl p.1 - cl p.2) := by unfold farC; rw [List.map_append]; exact farL_snoc _ _
theorem farC_bd (l : List (Int × Int)) : 0 ≤ farC l ∧ farC l ≤ 65025 * l.length := by
  have := farL_bd (l.map fun p => (cl p.1, cl p.2)) (fun p hp => by
    simp only [List.mem_map] at hp
    obtain ⟨q, _, rfl⟩ := hp
    exact ⟨cl_bd _, cl_bd _⟩)
  simpa [farC] using this
theorem farC_id (l : List (Int × Int)) (h : ∀ p ∈ l, (-128 ≤ p.1 ∧ p.1 ≤ 127) ∧ (-128 ≤ p.2 ∧ p.2 ≤ 127)) : farC l = farL l := by
  have e : (l.map fun p => (cl p.1, cl p.2)) = l := by
    conv => rhs; rw [← List.map_id l]
    apply List.map_congr_left
    intro p hp
    have := h p hp
    rw [cl_id this.1, cl_id this.2]; rfl
  unfold farC; rw [e]
theorem zip_bd {xs ys : List Int} (bx : ∀ x ∈ xs, -128 ≤ x ∧ x ≤ 127) (bY : ∀ x ∈ ys, -128 ≤ x ∧ x ≤ 127) : ∀ p ∈ xs.zip ys, (-128 ≤ p.1 ∧ p.1 ≤ 127) ∧ (-128 ≤ p.2 ∧ p.2 ≤ 127) := fun p hp =>
  ⟨bx _ (List.of_mem_zip (a := p.1) (b := p.2) hp).1, bY _ (List.of_mem_zip (a := p.1) (b := p.2) hp).2⟩
def far (xs ys : List Int) : Int := farL (xs.zip ys)

/-- All cells below block n, but for block s, read as they did. -/
def KpC (s n : Nat) (W W' : World) : Prop := ∀ b o, b < n → b ≠ s → W'.cell? ⟨b, o, none⟩ = W.cell? ⟨b, o, none⟩
theorem KpC.refl (s n : Nat) (W : World) : KpC s n W W := fun _ _ _ _ => rfl
theorem KpC.trans {s n : Nat} {A B C : World} (h : KpC s n A B) (g : KpC s n B C) : KpC s n A C := fun b o h1 h2 => (g b o h1 h2).trans (h b o h1 h2)
theorem KpC.rd {s n : Nat} {W W' : World} (h : KpC s n W W') (hs : s < n) {k : IntKind} {A : Option Addr} {xs : List Int} (hx : Rd k W s A xs) : Rd k W' s A xs := fun hl => by
  obtain ⟨b, off, hA, hB, hc⟩ := hx hl
  exact ⟨b, off, hA, hB, fun i hi => (h b (off + i) (by omega) (by omega)).trans (hc i hi)⟩
theorem zip_take_snoc (xs ys : List Int) (i : Nat) (x y : Int) (hl : ys.length = xs.length) (hi : i < xs.length) (hx : xs[i]?.getD 0 = x) (hy : ys[i]?.getD 0 = y) : (xs.zip ys).take (i + 1) = (xs.zip ys).take i ++ [(x, y)] := by
  rw [List.take_succ_eq_append_getElem (by simp; omega)]
  rw [← hx, ← hy, List.getElem?_eq_getElem hi, List.getElem?_eq_getElem (by omega)]
  simp

set_option maxRecDepth 100000 in
set_option maxHeartbeats 1000000 in
/-- The iterator tells the numbers of two vectors side by side, for every loop body. -/
theorem pairs1_in (F : Fence) (n : Nat) (h6 : F.fn 141) (hro : F.round = none) (hn : 1 ≤ n) (l s m Ba Bb : Nat) (A B : Option Addr) (c d : Nat) (xs ys : List Int) (hl : ys.length = xs.length) (hx47 : xs.length ≤ 140737488355328) (bx : ∀ x ∈ xs, -128 ≤ x ∧ x ≤ 127) (bY : ∀ x ∈ ys, -128 ≤ x ∧ x ≤ 127)
    (J Jx : List (Int × Int) → World → Prop)
    (hY : ∀ pre x W, J pre W → pre.length < xs.length → YieldAt F (n - 1) Tryz.prog l #[.int .i8 (cl x.1), .int .i8 (cl x.2)] W fun e W' =>
      (e = .returned (.bool true) ∧ J (pre ++ [x]) W' ∧ KpC s m W W') ∨ (e = .returned (.bool false) ∧ Jx (pre ++ [x]) W'))
    (W : World) (hsm : s < m) (ha1 : Ba < m) (ha2 : Ba ≠ s) (hb1 : Bb < m) (hb2 : Bb ≠ s) (hBa : W.cell? ⟨Ba, 0, none⟩ = some (.slice A xs.length c)) (hBb : W.cell? ⟨Bb, 0, none⟩ = some (.slice B xs.length d))
    (hx : Rd .i8 W s A xs) (hy : Rd .i8 W s B ys) (h0 : J [] W) :
    CallsIn F n Tryz.prog 141 #[.func (.yield l) #[] #[], .pointer (some ⟨Ba, 0, none⟩), .pointer (some ⟨Bb, 0, none⟩)] W fun e W' => (∃ v, e = .returned v) ∧
      ((∃ zs, zs = xs.zip ys ∧ J zs W') ∨ (∃ pre, pre <+: xs.zip ys ∧ Jx pre W')) := by
  have HL := Lib.hid hl
  have HA := Lib.hid hBa
  have HB := Lib.hid hBb
  have HY := Lib.hid hY
  clear hl hY hBb
  refine callsIn_of_wp Tryz.func141 rfl h6 ?_ hro
  simp only [Tryz.ntmps141, List.size_toArray, List.length_cons, List.length_nil, Nat.reduceAdd, Nat.reduceSub, Array.replicate_succ, Array.replicate_zero, List.push_toArray, List.append_toArray, List.nil_append, List.cons_append]
  gi_wp2
  clear hBa
  gi_loopw [8] (fun p wr => ∃ i : Nat, i ≤ xs.length ∧ p = .int .i64 i ∧ J ((xs.zip ys).take i) wr ∧ KpC s m W wr) (fun p wr => xs.length - (intOf p).toNat)
  case atStart => exact ⟨0, by omega, rfl, by simpa using h0, KpC.refl _ _ _⟩
  case round =>
    obtain ⟨i, hi, rfl, hJ, hK⟩ := hrel
    by_cases hlt : i < xs.length
    · obtain ⟨b, off, x, rfl, hbs, hcx, hvx⟩ := (hK.rd hsm hx).at_ hlt
      obtain ⟨b', off', y, rfl, hbs', hcy, hvy⟩ := (hK.rd hsm hy).at_ (i := i) (by rw [HL.out]; exact hlt)
      have hzl : (xs.zip ys).length = xs.length := by simp [HL.out]
      have hpl : ((xs.zip ys).take i).length < xs.length := by rw [List.length_take]; omega
      obtain ⟨fn, tmps, assign, body, hy', hR⟩ := HY.out ((xs.zip ys).take i) (x, y) wr hJ hpl
      have ex : cl x = x := cl_id (by rw [← hvx.out, List.getElem?_eq_getElem hlt]; exact bx _ (List.getElem_mem _))
      have ey : cl y = y := cl_id (by rw [← hvy.out, List.getElem?_eq_getElem (by rw [HL.out]; exact hlt)]; exact bY _ (List.getElem_mem _))
      simp only [ex, ey] at hy'
      clear ex ey
      have HS := Lib.hid (zip_take_snoc xs ys i x y HL.out hlt hvx.out hvy.out)
      have HZ := Lib.hid hzl
      have cB : wr.cell? ⟨Bb, 0, none⟩ = some (.slice (some ⟨b', off', none⟩) xs.length d) := (hK Bb 0 hb1 hb2).trans HB.out
      clear hzl hvx hvy hpl
      gi_wp2
      refine hR.mono ?_
      rintro e W3 (⟨rfl, hJ3, hk3⟩ | ⟨rfl, hJx3⟩)
      · gi_wp2
        go_roundw
        case rel => exact ⟨i + 1, by omega, by go_num, by rw [HS.out]; exact hJ3, hK.trans hk3⟩
        case measure => simp [intOf]; omega
      · gi_wp2
        refine bodyPost_ret (results_none rfl _ _ _) rfl ?_
        exact ⟨⟨_, rfl⟩, .inr ⟨_, by rw [← HS.out]; exact List.take_prefix _ _, hJx3⟩⟩
    · have hzl : (xs.zip ys).length = xs.length := by simp [HL.out]
      rw [List.take_of_length_le (by omega)] at hJ
      clear hzl
      gi_wp2
      go_end0
      exact ⟨⟨_, rfl⟩, .inl ⟨_, rfl, hJ⟩⟩

theorem pairs_in (F : Fence) (n : Nat) (h5 : F.fn 136) (hro : F.round = none) (v u : Value) (A B : Option Addr) (a b c d : Nat) (w : World) :
    CallsIn F n Tryz.prog 136 #[.slice A a c, .slice B b d] w fun e w' => e = .returned (.func (.func 141) #[] #[.pointer (some ⟨w.heap.size, 0, none⟩), .pointer (some ⟨w.heap.size + 1, 0, none⟩)]) ∧ w' = (w.alloc (.cells #[.slice A a c] 25)).alloc (.cells #[.slice B b d] 25) := by
  refine callsIn_of_wp Tryz.func136 rfl h5 ?_ hro
  simp only [Tryz.ntmps136, List.size_toArray, List.length_cons, List.length_nil, Nat.reduceAdd, Nat.reduceSub, Array.replicate_succ, Array.replicate_zero, List.push_toArray, List.append_toArray, List.nil_append, List.cons_append]
  gi_wp2
  go_ret
  exact ⟨rfl, rfl⟩
theorem pairs_stops (F : Fence) (n : Nat) (h6 : F.fn 141) (hro : F.round = none) (hn : 1 ≤ n) (s m Ba Bb : Nat) (A B : Option Addr) (c d : Nat) (xs ys : List Int) (hl : ys.length = xs.length) (hx47 : xs.length ≤ 140737488355328) (bx : ∀ x ∈ xs, -128 ≤ x ∧ x ≤ 127) (bY : ∀ x ∈ ys, -128 ≤ x ∧ x ≤ 127)
    (w : World) (hm : m = w.heap.size) (hsm : s < m) (ha1 : Ba < m) (ha2 : Ba ≠ s) (hb1 : Bb < m) (hb2 : Bb ≠ s) (hBa : w.cell? ⟨Ba, 0, none⟩ = some (.slice A xs.length c)) (hBb : w.cell? ⟨Bb, 0, none⟩ = some (.slice B xs.length d))
    (hx : Rd .i8 w s A xs) (hy : Rd .i8 w s B ys) :
    SeqStopsK F n Tryz.prog 141 #[.pointer (some ⟨Ba, 0, none⟩), .pointer (some ⟨Bb, 0, none⟩)] (fun x : Int × Int => #[Value.int .i8 (cl x.1), Value.int .i8 (cl x.2)]) (KpC s m) (fun zs => zs = xs.zip ys) (fun pre => pre <+: xs.zip ys) xs.length w := fun l J Jx W hW _ _ hY h0 =>
  pairs1_in F n h6 hro hn l s m Ba Bb A B c d xs ys hl hx47 bx bY J Jx hY W hsm ha1 ha2 hb1 hb2 ((hW.cell (p := ⟨Ba, 0, none⟩) (by show Ba < _; omega)).trans hBa) ((hW.cell (p := ⟨Bb, 0, none⟩) (by show Bb < _; omega)).trans hBb) (hx.below (hW.mono (by omega))) (hy.below (hW.mono (by omega))) h0
theorem Below.kpC {s m : Nat} {W W' : World} (h : Below m W W') : KpC s m W W' := fun b o hb _ => h.cell (p := ⟨b, o, none⟩) hb
theorem kpC_b {s : Nat} {w : World} (W : World) (l : Nat) (o o' : Obj) (hl : w.heap.size ≤ l) (h : W.heap[l]? = some o) (h1 : o.isCells = false) (h2 : o.isWalk = false) : KpC s w.heap.size W (W.putObj l o') :=
  Below.kpC (belowK_b (w := w) (Nat.le_refl _) W l o o' hl h h1 h2)
theorem kpC_set {s m : Nat} (W : World) (v : Value) : KpC s m W (W.setCell ⟨s, 0, none⟩ v) := fun b o _ hne => by
  unfold World.cell?
  rw [heap_setCell_other W ⟨s, 0, none⟩ b v hne]

set_option maxRecDepth 100000 in
set_option maxHeartbeats 2000000 in
theorem apart_in (F : Fence) (n : Nat) (h3 : F.fn 124) (h4 : F.fn 136) (h5 : F.fn 141) (hro : F.round = none) (hn : 3 ≤ n) (A B : Option Addr) (c d : Nat) (xs ys : List Int) (hl : ys.length = xs.length) (hx64 : xs.length ≤ 140737488355328)
    (w : World) (hx : Rd .i8 w w.heap.size A xs) (hy : Rd .i8 w w.heap.size B ys) (bx : ∀ x ∈ xs, -128 ≤ x ∧ x ≤ 127) (bY : ∀ x ∈ ys, -128 ≤ x ∧ x ≤ 127) :
    CallsIn F n Tryz.prog 124 #[.slice A xs.length c, .slice B xs.length d] w fun e W' => e = .returned (.int .i64 (far xs ys)) ∧ Below w.heap.size w W' := by
  have h1 : 1 ≤ n := by omega
  have HL := Lib.hid hl
  clear hl
  refine callsIn_of_wp_marks Tryz.func124 rfl h3 ?_ hro
  simp only [Tryz.ntmps124, List.size_toArray, List.length_cons, List.length_nil, Nat.reduceAdd, Nat.reduceSub, Array.replicate_succ, Array.replicate_zero, List.push_toArray, List.append_toArray, List.nil_append, List.cons_append]
  gi_wp2_with (gi_at_call 136; refine (pairs_in F (n - 1) h4 hro (.int .i64 0) (.int .i64 0) _ _ _ _ _ _ _).mono ?_; rintro e w' ⟨rfl, rfl⟩)
  have bS := ((Boxed.new w 2 (.int .i64 0)).alloc (.cells #[.slice A xs.length c] 25)).alloc (.cells #[.slice B xs.length d] 25)
  have bA := (Boxed.new (w.alloc (.cells #[.int .i64 0] 2)) 25 (.slice A xs.length c)).alloc (.cells #[.slice B xs.length d] 25)
  have bB := Boxed.new ((w.alloc (.cells #[.int .i64 0] 2)).alloc (.cells #[.slice A xs.length c] 25)) 25 (.slice B xs.length d)
  rw [World.size_alloc] at bA
  rw [World.size_alloc, World.size_alloc] at bB
  have hB0 : Below w.heap.size w (((w.alloc (.cells #[.int .i64 0] 2)).alloc (.cells #[.slice A xs.length c] 25)).alloc (.cells #[.slice B xs.length d] 25)) := (((Below.refl _ w).alloc (Nat.le_refl _) _).alloc (by simp) _).alloc (by simp; omega) _
  have hsz : (((w.alloc (.cells #[.int .i64 0] 2)).alloc (.cells #[.slice A xs.length c] 25)).alloc (.cells #[.slice B xs.length d] 25)).heap.size = w.heap.size + 3 := by simp
  generalize ((w.alloc (.cells #[.int .i64 0] 2)).alloc (.cells #[.slice A xs.length c] 25)).alloc (.cells #[.slice B xs.length d] 25) = W0 at bS bA bB hB0 hsz ⊢
  refine wpIn_rangeFunc_ownG hro h1 (gf := 141) (lb := #[.pointer (some ⟨w.heap.size + 1, 0, none⟩), .pointer (some ⟨w.heap.size + 1 + 1, 0, none⟩)]) rfl h5 (enters_of Tryz.func141 (by kernel_rfl) rfl)
    (pairs_stops F (n - 1) h5 hro (by omega) w.heap.size W0.heap.size (w.heap.size + 1) (w.heap.size + 1 + 1) A B c d xs ys HL.out hx64 bx bY W0 rfl (by omega) (by omega) (by omega) (by omega) (by omega) bA.cell bB.cell (hx.below hB0) (hy.below hB0)) KpC.trans kpC_b (Below.refl _ _) (fun _ => rfl)
    (fun pre W => Boxed W w.heap.size 2 (.int .i64 (farC pre)) ∧ Below w.heap.size w W)
    (fun _ _ _ => False)
    (OwnFrom.and (Own.from (boxed_own w.heap.size 2 (fun pre => .int .i64 (farC pre))) _) (ownFrom_below (Nat.le_refl _) (by omega)))
    (fun _ _ _ _ _ hs _ _ => hs)
    ⟨bS, hB0⟩
    (fun x => { tmps := #[.slice A xs.length c, .slice B xs.length d, undef, undef, .int .i64 0, .pointer (some ⟨w.heap.size, 0, none⟩), .int .i8 (cl x.1), .int .i8 (cl x.2), undef, .slice A xs.length c, .slice B xs.length d, .func (.func 141) #[] #[.pointer (some ⟨w.heap.size + 1, 0, none⟩), .pointer (some ⟨w.heap.size + 1 + 1, 0, none⟩)], .int .i8 (cl x.1), .int .i8 (cl x.2), undef, undef, undef, undef, undef, undef, undef, undef, undef, undef, undef], defers := [] }) ?assign ?body ?done ?stop
  case assign =>
    intro l x W K hK
    gi_wp2
    exact hK
  case body =>
    rintro l pre x W ⟨hv, hB⟩ hlt
    have hc := hv.cell
    have hf := hv.frozen
    have h2 := farC_bd pre
    have h3 := cl_bd x.1
    have h4 := cl_bd x.2
    have HS := Lib.hid (farC_snoc pre x)
    generalize cl x.1 = u at h3 HS ⊢
    generalize cl x.2 = v at h4 HS ⊢
    have h5 := sq_bd (x := u - v) (by omega) (by omega)
    generalize farC pre = S at hv hc h2 HS ⊢
    have HM : 65025 * (pre.length : Int) ≤ 9223372036854000000 := by omega
    gi_wp2
    exact ⟨KeepsOthers.from (KeepsOthers.setCell _ _ _) _, kpC_set _ _, by rw [HS.out]; exact hv.set _, hB.setCell (p := ⟨w.heap.size, 0, none⟩) (Nat.le_refl _) _⟩
  case done =>
    rintro D zs W hD rfl ⟨hv, hB⟩ hK
    have hc := hv.cell
    gi_wp2
    refine ⟨by simp, .inl ⟨_, _, rfl, run_takeDeferred hK, ?_⟩⟩
    exact ⟨_, results_tmp rfl _ _ _, by rw [farC_id _ (zip_bd bx bY)]; rfl, hB.trans (belowK_b (w := w) (Nat.le_refl _) W D _ _ (by omega) hK rfl rfl)⟩
  case stop =>
    rintro D c pre W _ _ h _
    exact h.elim

/-- apart is the sum of the squares. -/
theorem apart_any (A B : Option Addr) (c d : Nat) (xs ys : List Int) (hl : ys.length = xs.length) (hx64 : xs.length ≤ 140737488355328)
    (w : World) (hx : Rd .i8 w w.heap.size A xs) (hy : Rd .i8 w w.heap.size B ys) (bx : ∀ x ∈ xs, -128 ≤ x ∧ x ≤ 127) (bY : ∀ x ∈ ys, -128 ≤ x ∧ x ≤ 127) :
    Calls Tryz.prog 124 #[.slice A xs.length c, .slice B xs.length d] w fun e W' => e = .returned (.int .i64 (far xs ys)) ∧ Below w.heap.size w W' :=
  (callsIn_wide (n := 3)).1 (apart_in _ 3 trivial trivial trivial rfl (by omega) A B c d xs ys hl hx64 w hx hy bx bY)
/-- May a vector be of so many numbers? -/
def dimB (n : Int) : Bool := decide (1 ≤ n ∧ n ≤ 64)
theorem isDim_any (n : Int) (w : World) : Calls Tryz.prog 123 #[.int .i64 n] w fun e w' => e = .returned (.bool (dimB n)) ∧ w = w' := by
  by_cases h1 : 1 ≤ n
  · by_cases h2 : n ≤ 64
    · have E := Lib.hid (show dimB n = true from decide_eq_true ⟨h1, h2⟩)
      go_enter Tryz.func123, Tryz.ntmps123
      go_wp2
      go_ret
      exact ⟨retb E.out.symm, rfl⟩
    · have E := Lib.hid (show dimB n = false from decide_eq_false (fun h => h2 h.2))
      go_enter Tryz.func123, Tryz.ntmps123
      go_wp2
      go_ret
      exact ⟨retb E.out.symm, rfl⟩
  · have E := Lib.hid (show dimB n = false from decide_eq_false (fun h => h1 h.1))
    go_enter Tryz.func123, Tryz.ntmps123
    go_wp2
    go_ret
    exact ⟨retb E.out.symm, rfl⟩
theorem dist_no (A B : Option Addr) (c d n m : Nat) (h : n = 0 ∨ 64 < n ∨ m ≠ n) (w : World) :
    Calls Tryz.prog 80 #[.slice A n c, .slice B m d] w fun e w' => e = .returned (.tuple #[.int .i64 0, .int .i64 1]) ∧ w = w' := by
  by_cases hd : dimB n = true
  · have h1 : 1 ≤ (n : Int) ∧ (n : Int) ≤ 64 := by simpa [dimB] using hd
    have hne : m ≠ n := by omega
    have H := Lib.hid (isDim_any n w)
    rw [hd] at H
    have hne' : ((m : Int) != (n : Int)) = true := by simp; omega
    clear h hd
    go_enter Tryz.func80, Tryz.ntmps80
    go_wp2_with fail
    refine H.out.mono ?_
    rintro e w' ⟨rfl, rfl⟩
    go_wp2
    go_ret2
    exact ⟨rfl, rfl⟩
  · have H := Lib.hid (isDim_any n w)
    rw [show dimB n = false by simpa using hd] at H
    clear h hd
    go_enter Tryz.func80, Tryz.ntmps80
    go_wp2_with fail
    refine H.out.mono ?_
    rintro e w' ⟨rfl, rfl⟩
    go_wp2
    go_ret2
    exact ⟨rfl, rfl⟩
/-- Dist of vectors that may be. -/
theorem dist_yes (A B : Option Addr) (c d : Nat) (xs ys : List Int) (h1 : 1 ≤ xs.length) (h2 : xs.length ≤ 64) (hl : ys.length = xs.length) (n : Nat) (hn : n = xs.length)
    (w : World) (hx : Rd .i8 w w.heap.size A xs) (hy : Rd .i8 w w.heap.size B ys) (bx : ∀ x ∈ xs, -128 ≤ x ∧ x ≤ 127) (bY : ∀ x ∈ ys, -128 ≤ x ∧ x ≤ 127) :
    Calls Tryz.prog 80 #[.slice A xs.length c, .slice B n d] w fun e w' => e = .returned (.tuple #[.int .i64 (far xs ys), .int .i64 0]) ∧ Below w.heap.size w w' := by
  subst hn
  have H := Lib.hid (isDim_any xs.length w)
  rw [show dimB xs.length = true from decide_eq_true ⟨by omega, by omega⟩] at H
  have H2 := Lib.hid (apart_any A B c d xs ys hl (by omega) w hx hy bx bY)
  clear hl hx hy bx bY
  go_enter Tryz.func80, Tryz.ntmps80
  go_wp2_with fail
  refine H.out.mono ?_
  rintro e w' ⟨rfl, rfl⟩
  go_wp2_with fail
  refine H2.out.mono ?_
  rintro e w' ⟨rfl, hB⟩
  go_wp2
  go_ret2
  exact ⟨rfl, hB⟩
set_option maxHeartbeats 400000 in
theorem refFar_any (A B : Option Addr) (c d : Nat) (xs ys : List Int) (h2 : xs.length ≤ 64) (hl : ys.length = xs.length)
    (w : World) (D : Nat) (hx : Rd .i8 w D A xs) (hy : Rd .i8 w D B ys) (bx : ∀ x ∈ xs, -128 ≤ x ∧ x ≤ 127) (bY : ∀ x ∈ ys, -128 ≤ x ∧ x ≤ 127) :
    Calls Tryz.prog 86 #[.slice A xs.length c, .slice B xs.length d] w fun e w' => e = .returned (.int .i64 (far xs ys)) ∧ ∃ nq, w' = w.drewN nq := by
  have HL := Lib.hid hl
  clear hl
  have HF := Lib.hid (fun i => farL_bd ((xs.zip ys).take i) (fun p hp => zip_bd bx bY p (List.mem_of_mem_take hp)))
  go_enter Tryz.func86, Tryz.ntmps86
  go_wp2
  go_loopw [5, 6] (fun s i wr => ∃ k nq : Nat, k ≤ xs.length ∧ i = .int .i64 k ∧ s = .int .i64 (farL ((xs.zip ys).take k)) ∧ wr = w.drewN nq) (fun _ i _ => xs.length - (intOf i).toNat)
  case atStart => exact ⟨0, 0, by omega, rfl, by simp [farL], rfl⟩
  case round =>
    obtain ⟨k, nq, hk, rfl, rfl, rfl⟩ := hrel
    by_cases hlt : k < xs.length
    · obtain ⟨b, off, x, rfl, hbs, hcx, hvx⟩ := hx.at_ hlt
      obtain ⟨b', off', y, rfl, hbs', hcy, hvy⟩ := hy.at_ (i := k) (by rw [HL.out]; exact hlt)
      have hbx := bx x (by rw [← hvx.out, List.getElem?_eq_getElem hlt]; exact List.getElem_mem _)
      have hby := bY y (by rw [← hvy.out, List.getElem?_eq_getElem (by rw [HL.out]; exact hlt)]; exact List.getElem_mem _)
      have HS := Lib.hid ((congrArg farL (zip_take_snoc xs ys k x y HL.out hlt hvx.out hvy.out)).trans (farL_snoc _ _))
      have hf := HF.out k
      rw [List.length_take] at hf
      have hf' : 0 ≤ farL ((xs.zip ys).take k) ∧ farL ((xs.zip ys).take k) ≤ 65025 * 64 := by omega
      clear hf hvx hvy bx bY
      generalize farL ((xs.zip ys).take k) = S at hf' HS ⊢
      have h5 := sq_bd (x := x - y) (by omega) (by omega)
      have h1 : (0 : Int) ≤ (k : Int) := by omega
      have h2 : (k : Int) < (xs.length : Int) := by omega
      go_wp2
      go_quiet (fail)
      go_wp2
      go_roundw
      case rel => exact ⟨k + 1, _, by omega, by go_num, by rw [HS.out], rfl⟩
      case measure => simp [intOf]; omega
    · have e : (xs.zip ys).take k = xs.zip ys := List.take_of_length_le (by simp; omega)
      rw [e]
      clear e
      go_wp2
      go_ret
      exact ⟨rfl, _, rfl⟩
end Go.Proofs.YtkmngbkghgelfaaGreat
/- The walks of layer 3 (vec) on means: mayBe, sumAt, quotient, Mean. -/
namespace Go.Proofs.YtkmngbkghgelfaaGreat
open Go.RowKit Go.Shelf
set_option linter.unusedVariables false
/-- A slice that is an element of a slice: where it lies, its room, its numbers. -/
abbrev Vc := Option Addr × Nat × List Int
def vNil : Vc := (none, 0, [])
/-- A slice value at A reads, in w, as the vectors L; where it has one it lies below block B, and so do they. -/
def RdV (w : World) (B : Nat) (A : Option Addr) (L : List Vc) : Prop :=
  0 < L.length → ∃ b off, A = some ⟨b, off, none⟩ ∧ b < B ∧ ∀ i, i < L.length → w.cell? ⟨b, off + i, none⟩ = some (.slice (L[i]?.getD vNil).1 (L[i]?.getD vNil).2.2.length (L[i]?.getD vNil).2.1) ∧ Rd .i8 w B (L[i]?.getD vNil).1 (L[i]?.getD vNil).2.2
theorem RdV.at_ {w : World} {B : Nat} {A : Option Addr} {L : List Vc} (h : RdV w B A L) {i : Nat} (hi : i < L.length) :
    ∃ b off a c v, A = some ⟨b, off, none⟩ ∧ b < B ∧ w.cell? ⟨b, off + i, none⟩ = some (.slice a v.length c) ∧ Rd .i8 w B a v ∧ Hid (L[i]? = some (a, c, v)) := by
  obtain ⟨b, off, hA, hB, hc⟩ := h (by omega)
  refine ⟨b, off, (L[i]?.getD vNil).1, (L[i]?.getD vNil).2.1, (L[i]?.getD vNil).2.2, hA, hB, (hc i hi).1, (hc i hi).2, (by simp [List.getElem?_eq_getElem hi] : L[i]? = some ((L[i]?.getD vNil).1, (L[i]?.getD vNil).2.1, (L[i]?.getD vNil).2.2))⟩
theorem RdV.below {w w' : World} {B : Nat} {A : Option Addr} {L : List Vc} (h : RdV w B A L) (hb : Below B w w') : RdV w' B A L := fun hl => by
  obtain ⟨b, off, hA, hB, hc⟩ := h hl
  exact ⟨b, off, hA, hB, fun i hi => ⟨(hb.cell (p := ⟨b, off + i, none⟩) hB).trans (hc i hi).1, (hc i hi).2.below hb⟩⟩
theorem RdV.more {w : World} {B B' : Nat} {A : Option Addr} {L : List Vc} (h : RdV w B A L) (hB : B ≤ B') : RdV w B' A L := fun hl => by
  obtain ⟨b, off, hA, hb, hc⟩ := h hl
  exact ⟨b, off, hA, by omega, fun i hi => ⟨(hc i hi).1, (hc i hi).2.more hB⟩⟩
/-- The vectors themselves. -/
def vecs (L : List Vc) : List (List Int) := L.map (·.2.2)
theorem vecs_len (L : List Vc) : (vecs L).length = L.length := by simp [vecs]
theorem vecs_at {L : List Vc} {i : Nat} {a : Option Addr} {c : Nat} {v : List Int} (h : L[i]? = some (a, c, v)) : (vecs L)[i]? = some v := by simp [vecs, h]
/-- How many numbers the first vector has. -/
def dimOf (vs : List (List Int)) : Nat := (vs[0]?.getD []).length
/-- May a mean be told of these vectors? -/
def mayB (vs : List (List Int)) : Bool := decide (1 ≤ vs.length ∧ vs.length ≤ 2048 ∧ 1 ≤ dimOf vs ∧ dimOf vs ≤ 64 ∧ ∀ i, i < vs.length → (vs[i]?.getD []).length = dimOf vs)
theorem mayB_no {vs : List (List Int)} (h : ¬ (1 ≤ vs.length ∧ vs.length ≤ 2048 ∧ 1 ≤ dimOf vs ∧ dimOf vs ≤ 64 ∧ ∀ i, i < vs.length → (vs[i]?.getD []).length = dimOf vs)) : mayB vs = false := decide_eq_false h
theorem dim0 {L : List Vc} {a : Option Addr} {c : Nat} {v : List Int} (h : L[0]? = some (a, c, v)) : dimOf (vecs L) = v.length := by
  unfold dimOf; rw [vecs_at h]; rfl
/-- The sum of the vectors' numbers at a place. -/
def sumP (vs : List (List Int)) (p : Nat) : Int := (vs.map fun v => v[p]?.getD 0).sum
theorem sumP_take (vs : List (List Int)) (p k : Nat) (v : List Int) (x : Int) (h : vs[k]? = some v) (hx : v[p]?.getD 0 = x) : sumP (vs.take (k + 1)) p = sumP (vs.take k) p + x := by
  have hk : k < vs.length := (List.getElem?_eq_some_iff.1 h).1
  unfold sumP
  rw [List.take_succ_eq_append_getElem hk, List.map_append, List.sum_append]
  rw [List.getElem?_eq_getElem hk] at h
  simp only [Option.some.injEq] at h
  rw [h]; simp [hx]
/-- All numbers are of an int8. -/
def B8 (vs : List (List Int)) : Prop := ∀ v ∈ vs, ∀ x ∈ v, -128 ≤ x ∧ x ≤ 127
theorem getD_bd {v : List Int} (h : ∀ x ∈ v, -128 ≤ x ∧ x ≤ 127) (p : Nat) : -128 ≤ v[p]?.getD 0 ∧ v[p]?.getD 0 ≤ 127 := by
  rcases Nat.lt_or_ge p v.length with h1 | h1
  · rw [List.getElem?_eq_getElem h1]; exact h _ (List.getElem_mem _)
  · rw [List.getElem?_eq_none h1]; simp
theorem sumP_bd (vs : List (List Int)) (h : B8 vs) (p : Nat) : -128 * (vs.length : Int) ≤ sumP vs p ∧ sumP vs p ≤ 127 * (vs.length : Int) := by
  induction vs with
  | nil => simp [sumP]
  | cons v r ih =>
    have h1 := ih (fun u hu => h u (by simp [hu]))
    have h2 := getD_bd (h v (by simp)) p
    have e : sumP (v :: r) p = v[p]?.getD 0 + sumP r p := by unfold sumP; simp
    rw [e]; simp only [List.length_cons]; omega
theorem b8_take {vs : List (List Int)} (h : B8 vs) (k : Nat) : B8 (vs.take k) := fun v hv => h v (List.mem_of_mem_take hv)
theorem b8_at {vs : List (List Int)} (h : B8 vs) {i : Nat} {v : List Int} (hi : vs[i]? = some v) : ∀ x ∈ v, -128 ≤ x ∧ x ≤ 127 := h v (List.mem_of_getElem? hi)
/-- The whole number nearest to s / c, of two as near the one farther from 0. -/
def quo (s c : Int) : Int := if s < 0 then -((2 * -s + c) / (2 * c)) else (2 * s + c) / (2 * c)
theorem quo_half {s c : Int} (hc : 1 ≤ c) (h : -128 * c ≤ s ∧ s ≤ 127 * c) : -128 ≤ quo s c ∧ quo s c ≤ 127 := by
  unfold quo
  split
  · have h1 : (2 * -s + c) / (2 * c) < 129 := Int.ediv_lt_of_lt_mul (by omega) (by omega)
    have h2 : 0 ≤ (2 * -s + c) / (2 * c) := Int.ediv_nonneg (by omega) (by omega)
    omega
  · have h1 : (2 * s + c) / (2 * c) < 128 := Int.ediv_lt_of_lt_mul (by omega) (by omega)
    have h2 : 0 ≤ (2 * s + c) / (2 * c) := Int.ediv_nonneg (by omega) (by omega)
    omega
/-- The mean of vectors, number by number. -/
def meanL (vs : List (List Int)) : List Int := (List.range (dimOf vs)).map fun p => quo (sumP vs p) vs.length
theorem meanL_len (vs : List (List Int)) : (meanL vs).length = dimOf vs := by simp [meanL]
theorem mayB_yes {vs : List (List Int)} (h : mayB vs = true) : 1 ≤ vs.length ∧ vs.length ≤ 2048 ∧ 1 ≤ dimOf vs ∧ dimOf vs ≤ 64 ∧ ∀ i, i < vs.length → (vs[i]?.getD []).length = dimOf vs := of_decide_eq_true h
/-- The row as it stands when k of its places are told. -/
def rowTo (m : List Int) (k : Nat) : List Int := m.take k ++ List.replicate (m.length - k) 0
theorem rowTo_len (m : List Int) (k : Nat) (h : k ≤ m.length) : (rowTo m k).length = m.length := by simp [rowTo]; omega
theorem rowTo_step (m : List Int) (k : Nat) (v : Int) (h : k < m.length) (hv : m[k]?.getD 0 = v) : ((rowTo m k).map (Value.int .i8)).set k (.int .i8 v) = (rowTo m (k + 1)).map (Value.int .i8) := by
  rw [← List.map_set]
  congr 1
  unfold rowTo
  rw [List.set_append_right (h := by rw [List.length_take]; omega), List.length_take, show k - min k m.length = 0 by omega]
  rw [show m.length - k = (m.length - (k + 1)) + 1 by omega, List.replicate_succ, List.set_cons_zero]
  rw [List.take_succ_eq_append_getElem h, List.append_assoc, List.singleton_append]
  rw [List.getElem?_eq_getElem h] at hv
  simp at hv
  rw [hv]
end Go.Proofs.YtkmngbkghgelfaaGreat
