/- Several texts in one. -/
import Derived.Test.YtkmngbkghgelfaaGreatOw
import Derived.Test.YtkmngbkghgelfaaGreatVu
import Derived.Laws.CopyRow
import Derived.Laws.IdiomCopy
import Derived.WalkSpells
import Derived.Laws.StructEq
import Derived.Deep.QuietTactic
import Derived.BigQuiet
import Derived.Deep.AppendLies
import Derived.Deep.RegionHeld3
/- Rows of hits: how a slice of hits reads, 'copy' at elements of several cells, and the walk of Sort. -/
namespace Go.Proofs.YtkmngbkghgelfaaGreat
open Go.Shelf Go.RowKit Go.Lib
open Go.Sort hiding Below
set_option linter.unusedVariables false
/-- The cells of a row of hits. -/
def flatH (xs : List (Int × Int)) : List Value := xs.flatMap encH
theorem flatH_len (xs : List (Int × Int)) : (flatH xs).length = xs.length * 2 := by
  induction xs with
  | nil => rfl
  | cons x r ih => unfold flatH at *; rw [List.flatMap_cons, List.length_append, ih, encH_len, List.length_cons]; omega
theorem flatH_app (xs ys : List (Int × Int)) : flatH (xs ++ ys) = flatH xs ++ flatH ys := by unfold flatH; rw [List.flatMap_append]
theorem flatH_get (xs : List (Int × Int)) : ∀ t, t < xs.length * 2 → (flatH xs)[t]? = some ((encH (xs[t / 2]?.getD (0, 0)))[t % 2]!) := by
  induction xs with
  | nil => intro t ht; simp at ht
  | cons x r ih =>
    intro t ht
    have e : flatH (x :: r) = Value.int .u64 x.1 :: Value.int .i64 x.2 :: flatH r := rfl
    rw [e]
    rcases t with _ | _ | t
    · rfl
    · rfl
    · rw [List.getElem?_cons_succ, List.getElem?_cons_succ, ih t (by simp at ht; omega)]
      have e1 : (t + 1 + 1) / 2 = t / 2 + 1 := by omega
      have e2 : (t + 1 + 1) % 2 = t % 2 := by omega
      rw [e1, e2, List.getElem?_cons_succ]
theorem flatK_flatH (d : Array (Int × Int)) : flatK encH 2 d = (flatH d.toList).toArray := by
  apply Array.ext
  · rw [size_flatK]; simp [flatH_len]
  · intro t h1 h2
    have h3 : t < d.size * 2 := by rwa [size_flatK] at h1
    have e := get_flatK encH 2 d t h3
    rw [getElem!_pos _ t h1] at e
    rw [e]
    have g := flatH_get d.toList t (by simpa using h3)
    rw [List.getElem?_eq_getElem (by rw [flatH_len]; simpa using h3)] at g
    simp only [Option.some.injEq] at g
    rw [List.getElem_toArray, g]
    have h4 : t / 2 < d.size := by omega
    congr 2
    rw [getElem!_pos d _ h4]
    simp [h4]
/-- A slice value at A reads, in w, as the hits xs; where it has one it lies below block B. -/
def RdH (w : World) (B : Nat) (A : Option Addr) (xs : List (Int × Int)) : Prop :=
  0 < xs.length → ∃ b off, A = some ⟨b, off, none⟩ ∧ b < B ∧ ∀ t, t < xs.length * 2 → w.cell? ⟨b, off + t, none⟩ = (flatH xs)[t]?
theorem RdH.below {w w' : World} {B : Nat} {A : Option Addr} {xs : List (Int × Int)} (h : RdH w B A xs) (hb : Below B w w') : RdH w' B A xs := fun hl => by
  obtain ⟨b, off, hA, hB, hc⟩ := h hl
  exact ⟨b, off, hA, hB, fun i hi => (hb.cell (p := ⟨b, off + i, none⟩) hB).trans (hc i hi)⟩
theorem RdH.more {w : World} {B B' : Nat} {A : Option Addr} {xs : List (Int × Int)} (h : RdH w B A xs) (hB : B ≤ B') : RdH w B' A xs := fun hl => by
  obtain ⟨b, off, hA, hb, hc⟩ := h hl
  exact ⟨b, off, hA, by omega, hc⟩
theorem RdH.at_ {w : World} {B : Nat} {A : Option Addr} {xs : List (Int × Int)} (h : RdH w B A xs) {i : Nat} (hi : i < xs.length) :
    ∃ b off x y, A = some ⟨b, off, none⟩ ∧ b < B ∧ w.cell? ⟨b, off + i * 2, none⟩ = some (.int .u64 x) ∧ w.cell? ⟨b, off + i * 2 + 1, none⟩ = some (.int .i64 y) ∧ Hid (xs[i]? = some (x, y)) := by
  obtain ⟨b, off, hA, hB, hc⟩ := h (by omega)
  refine ⟨b, off, (xs[i]).1, (xs[i]).2, hA, hB, ?_, ?_, (by simp [List.getElem?_eq_getElem hi] : xs[i]? = some (xs[i].1, xs[i].2))⟩
  · rw [hc (i * 2) (by omega), flatH_get xs _ (by omega), show i * 2 / 2 = i by omega, show i * 2 % 2 = 0 by omega, List.getElem?_eq_getElem hi]; rfl
  · rw [Nat.add_assoc, hc (i * 2 + 1) (by omega), flatH_get xs _ (by omega), show (i * 2 + 1) / 2 = i by omega, show (i * 2 + 1) % 2 = 1 by omega, List.getElem?_eq_getElem hi]; rfl
theorem RdH.take {w : World} {B : Nat} {A : Option Addr} {xs : List (Int × Int)} (h : RdH w B A xs) (n : Nat) : RdH w B A (xs.take n) := fun hl => by
  rw [List.length_take] at hl
  obtain ⟨b, off, hA, hb, hc⟩ := h (by omega)
  refine ⟨b, off, hA, hb, fun t ht => ?_⟩
  rw [List.length_take] at ht
  rw [hc t (by omega), flatH_get xs t (by omega), flatH_get _ t (by rw [List.length_take]; exact ht), List.getElem?_take, if_pos (by omega)]
/-- A row of the call's own reads as its hits. -/
theorem rdH_own {w : World} {base g n cap : Nat} {e : TypeId} {xs : List (Int × Int)} (h : w.ownsRow base e 2 (.slice (some ⟨g, 0, none⟩) n cap) n (flatH xs)) : RdH w w.heap.size (some ⟨g, 0, none⟩) xs := fun hl => by
  have hn : xs.length = n := by have := h.1; rw [flatH_len] at this; omega
  refine ⟨g, 0, rfl, (h.lt g rfl).2, fun t ht => ?_⟩
  rw [Nat.zero_add, h.cellAt t (by omega)]
theorem flatH_one (xs : List (Int × Int)) : ∀ v ∈ flatH xs, v.oneCell' = true := fun v hv => by
  unfold flatH at hv
  rw [List.mem_flatMap] at hv
  obtain ⟨x, _, hx⟩ := hv
  exact encH_one x v hx
theorem holdsH {w : World} {g : Nat} {e : TypeId} {xs : List (Int × Int)} (h : Whole w g e (flatH xs).toArray) : HoldsK encH 2 w g 0 xs.toArray := fun j hj => by
  rw [Nat.zero_add]
  refine ⟨?_, h.frozen j⟩
  rw [h.cell j, flatK_flatH]
  rw [flatK_flatH] at hj
  show _ = some (id _)
  rw [getElem!_pos _ j hj, Array.getElem?_eq_getElem hj]
  rfl
/-- Behind a sort the row's block is the sorted row, and nothing else that lay there has turned. -/
theorem swk_whole {w w' : World} {g : Nat} {e : TypeId} {cur : Array Value} {d : Array (Int × Int)} (h : Whole w g e cur) (hs : cur.size = d.size * 2) (S : SWK encH 2 w g 0 d w') :
    Whole w' g e (flatH d.toList).toArray ∧ Below g w w' := by
  obtain ⟨n, os, rfl⟩ := S
  have hg := h.lt
  refine ⟨?_, ⟨rfl, rfl, rfl, ?_, fun k hk => ?_⟩⟩
  · unfold Whole sortWorldK
    rw [heap_grow_old _ _ (by rw [size_putRowK]; exact hg)]
    unfold putRowK putRow mapBlock
    show (w.heap.modify g _)[g]? = _
    rw [Array.getElem?_modify, if_pos rfl, show w.heap[g]? = _ from h]
    simp only [Option.map_some, onCells]
    congr 2
    rw [← flatK_flatH]
    unfold putCells
    apply Array.ext
    · rw [Array.size_mapIdx, size_flatK, hs]
    · intro i h1 h2
      rw [Array.getElem_mapIdx, if_pos (by rw [size_flatK] at *; omega)]
      simp only [Nat.sub_zero, id]
      rw [getElem!_pos _ i h2]
  · unfold sortWorldK; rw [size_grow, size_putRowK]; show w.heap.size ≤ w.heap.size + _; omega
  · unfold sortWorldK
    rw [heap_grow_old _ _ (by rw [size_putRowK]; show k < w.heap.size; omega)]
    unfold putRowK putRow mapBlock
    show (w.heap.modify g _)[k]? = _
    rw [Array.getElem?_modify, if_neg (by omega)]
theorem run_copy_k {P : Program} (w : World) (dT sT ty elem : TypeId) (k g o dLen dCap : Nat) (a : Addr) (sLen sCap : Nat) (cur : Array Value) (t : TypeId) (cs : List Value)
    (hu : P.underlying dT = some (.slice elem)) (hs : (P.info? elem).map (·.size) = some k)
    (hg : w.heap[g]? = some (.cells cur t (0, 0))) (hn : cs.length = Nat.min sLen dLen * k)
    (hsrc : ∀ j v, cs[j]? = some v → w.cell? (a.add j) = some v) (hfit : o + cs.length ≤ cur.size) (h1 : ∀ v ∈ cs, v.oneCell' = true) :
    (Builtin.copy_ #[dT, sT] ty #[.slice (some ⟨g, o, none⟩) dLen dCap, .slice (some a) sLen sCap]).run P w =
      .ok (goInt (Nat.min sLen dLen)) (w.setRow g (cur.toList.take o ++ cs ++ cur.toList.drop (o + cs.length)).toArray) := by
  have hl := run_loadCells_list (P := P) w a cs hsrc
  have hst := run_storeCells_at P g o t cs 0 cur w hg (by simpa using hfit) h1
  cases hq : P.info? elem with
  | none => simp [hq] at hs
  | some i =>
    have hi : i.size = k := by simpa [hq] using hs
    simp [Builtin.copy_, run_underlying hu, Builtin.lenOf, Builtin.firstCells, sizeOf, typeInfo, hq, hi, ← hn, hl, hst]
theorem run_copy_k0 {P : Program} (w : World) (dT sT ty elem : TypeId) (k : Nat) (d a : Option Addr) (dLen dCap sLen sCap : Nat) (hu : P.underlying dT = some (.slice elem)) (hs : (P.info? elem).map (·.size) = some k) (hn : Nat.min sLen dLen = 0) :
    (Builtin.copy_ #[dT, sT] ty #[.slice d dLen dCap, .slice a sLen sCap]).run P w = .ok (goInt 0) w := by
  cases hq : P.info? elem with
  | none => simp [hq] at hs
  | some i =>
    have hl : ∀ (x : Addr), (loadCells x 0).run P w = .ok #[] w := fun x => by simpa using run_loadCells_list (P := P) w x [] (by simp)
    cases d <;> cases a <;> simp [Builtin.copy_, run_underlying hu, Builtin.lenOf, Builtin.firstCells, sizeOf, typeInfo, hq, hn, storeCells, hl]
/-- 'copy' of a whole row into a row of as many elements. -/
theorem wpList_copy_k {P : Program} {w : World} {ops : Array Oper} {rest : List Oper} {o : Oper} {a : Act} {Q : Exit → Act → World → Prop} (hgd : o.guard = none) (d s : Operand) (dT sT : TypeId)
    (ho : o.op = .call { callee := .builtin .copy, args := #[d, s], argTypes := #[dT, sT] }) (elem : TypeId) (hu : P.underlying dT = some (.slice elem)) (k : Nat) (hsz : (P.info? elem).map (·.size) = some k) (hk : 0 < k)
    (sp : Option Addr) (g n dCap sCap : Nat) (hd : a.eval d = .slice (some ⟨g, 0, none⟩) n dCap) (hs : a.eval s = .slice sp n sCap)
    (cur : Array Value) (t : TypeId) (hg : w.heap[g]? = some (.cells cur t (0, 0))) (cs : List Value) (hn : cs.length = n * k) (hcur : cur.size = n * k)
    (hpos : 0 < n → ∃ ad, sp = some ad ∧ ∀ j v, cs[j]? = some v → w.cell? (ad.add j) = some v) (h1 : ∀ v ∈ cs, v.oneCell' = true) (B : Nat) (w0 : World) (hb : Below B w0 w) (hBg : B ≤ g)
    (h : ∀ w', Whole w' g t cs.toArray → Below B w0 w' → wpList P ops Q rest (a.put o.dst (goInt n)) w') :
    wpList P ops Q (o :: rest) a w := by
  rcases Nat.eq_zero_or_pos n with h0 | h0
  · subst h0
    obtain rfl : cs = [] := List.eq_nil_of_length_eq_zero (by omega)
    obtain rfl : cur = #[] := Array.eq_empty_of_size_eq_zero (by omega)
    refine wpList_plain hgd fun K hK => ?_
    have hrun := run_copy_k0 (P := P) w dT sT o.type elem k (some ⟨g, 0, none⟩) sp 0 dCap 0 sCap hu hsz rfl
    unfold Oper.wp
    simp [execOp, ho, resolve, invoke, builtin, hd, hs, hrun, Result.andThen]
    exact hK _ _ (h w hg hb)
  · obtain ⟨ad, rfl, hsrc⟩ := hpos h0
    refine wpList_plain hgd fun K hK => ?_
    have hrun := run_copy_k (P := P) w dT sT o.type elem k g 0 n dCap ad n sCap cur t cs hu hsz hg (by rw [show Nat.min n n = n from Nat.min_self n]; exact hn) hsrc (by omega) h1
    rw [show Nat.min n n = n from Nat.min_self n] at hrun
    unfold Oper.wp
    simp [execOp, ho, resolve, invoke, builtin, hd, hs, hrun, Result.andThen]
    refine hK _ _ (h _ ?_ (below_setRow hb hBg _))
    have := setRow_heap w g cur (cs ++ cur.toList.drop cs.length).toArray t _ hg
    rw [List.drop_of_length_le (by rw [Array.length_toList]; omega), List.append_nil] at this ⊢
    exact this
theorem Tryz.info78h : (Tryz.prog.info? 78).map (fun i => (i.zero, i.size, i.bytes)) = some (some (.agg #[.int .u64 0, .int .i64 0]), 2, 16) := by kernel_rfl
theorem whole_own {w : World} {g base n : Nat} {xs : List (Int × Int)} (h : Whole w g 78 (flatH xs).toArray) (hb : base ≤ g) (hn : n = xs.length) (hm : n ≤ maxLen) : w.ownsRow base 78 2 (.slice (some ⟨g, 0, none⟩) n n) n (flatH xs) := by
  subst hn
  refine ⟨flatH_len xs, .inr ⟨g, xs.length, _, rfl, hb, h, Nat.le_refl _, hm, by simp [flatH_len], ?_⟩⟩
  rw [← flatH_len]; simp
/-- What Sort answers: the hits, the nearest first, in a row of its own. -/
def SortYes (w : World) (n : Nat) (xs : List (Int × Int)) (e : Ending) (w' : World) : Prop :=
  ∃ g, e = .returned (.slice (some ⟨g, 0, none⟩) n n) ∧ Whole w' g 78 (flatH (srtH xs.toArray)).toArray ∧ w.heap.size ≤ g ∧ Below w.heap.size w w'
set_option maxRecDepth 100000 in
set_option maxHeartbeats 1000000 in
theorem sort_any (A : Option Addr) (c : Nat) (xs : List (Int × Int)) (n : Nat) (hn : n = xs.length) (w : World) (hx : RdH w w.heap.size A xs) (hl : xs.length ≤ 8796093022208) :
    Calls Tryz.prog 83 #[.slice A n c] w (SortYes w n xs) := by
  subst hn
  obtain ⟨i0, hi, hz0, hz1, hz2⟩ := info_parts Tryz.info78h
  go_enter Tryz.func83, Tryz.ntmps83
  go_wp2_with (at_make; refine wpList_make_full _ rfl _ _ 30 rfl w.heap.size 78 i0 (.agg #[.int .u64 0, .int .i64 0]) 2 Tryz.underlying30 hi hz0 hz1 _ _ _ _ xs.length rfl rfl rfl rfl ?b2 ?b3 (Nat.le_refl _) ?_)
  case b2 => rw [hz2]; omega
  case b3 => unfold maxLen; omega
  intro w1 hown hgrow
  have hB1 : Below w.heap.size w w1 := (Below.refl _ _).grown hgrow (Nat.le_refl _) (by simp)
  obtain ⟨cur, hcur, hcs⟩ : ∃ cur, w1.heap[w.heap.size]? = some (.cells cur 78 (0, 0)) ∧ cur.size = xs.length * 2 := by
    rcases hown.2 with ⟨h, _⟩ | ⟨g, cap, cur, h, _, hg, _, _, hsz, _⟩
    · cases h
    · simp only [Value.slice.injEq, Option.some.injEq, Addr.mk.injEq] at h
      obtain ⟨⟨rfl, _⟩, _, rfl⟩ := h
      exact ⟨cur, hg, hsz⟩
  have hx1 := hx.below hB1
  have hsrc : 0 < xs.length → ∃ ad, A = some ad ∧ ∀ j v, (flatH xs)[j]? = some v → w1.cell? (ad.add j) = some v := fun h0 => by
    obtain ⟨b, off, hA, hb, hc⟩ := hx1 h0
    refine ⟨⟨b, off, none⟩, hA, fun j v hv => ?_⟩
    have hj : j < xs.length * 2 := by
      rcases Nat.lt_or_ge j (xs.length * 2) with h | h
      · exact h
      · rw [List.getElem?_eq_none (by rw [flatH_len]; exact h)] at hv; cases hv
    have ea : (⟨b, off, none⟩ : Addr).add j = ⟨b, off + j, none⟩ := by unfold Addr.add; split <;> simp_all
    rw [ea, hc j hj]; exact hv
  have HSRC := Lib.hid hsrc
  have HCUR := Lib.hid hcur
  have HCS := Lib.hid hcs
  clear hsrc hcur hcs hown hgrow
  have h35 : (Tryz.prog.info? 78).map (·.size) = some 2 := by rw [hi]; simp [hz1]
  have H35 := Lib.hid h35
  clear h35 hi hz0 hz1 hz2
  go_wp2_with (refine wpList_copy_k (o := ⟨some 9, _, _, _, _, _⟩) rfl (.tmp 7) (.tmp 8) 30 30 rfl 78 Tryz.underlying30 2 H35.out (by omega) A w.heap.size xs.length xs.length c rfl rfl cur 78 HCUR.out (flatH xs) (flatH_len xs) HCS.out HSRC.out (flatH_one xs) w.heap.size w hB1 (Nat.le_refl _) ?_; intro w2 hW2 hB2)
  have HW2 := Lib.hid hW2
  have h2 := sortStable_any w.heap.size 0 xs.length xs.toArray w2 (holdsH hW2) hW2.lt (by simp; omega)
  rw [show xs.toArray.size = xs.length by simp] at h2
  have H2 := Lib.hid h2
  clear h2 hW2 HSRC HCUR HCS H35 hx hx1 hB1
  go_wp2_with fail
  refine H2.out.mono ?_
  rintro e w3 ⟨rfl, hs3⟩
  go_wp2
  go_ret
  have hl3 : (srtH xs.toArray).toArray.size = xs.length := by unfold srtH; simp [List.length_mergeSort]
  have h3 := swk_whole HW2.out (by rw [hl3]; simp [flatH_len]) hs3
  exact ⟨w.heap.size, rfl, h3.1, Nat.le_refl _, hB2.trans h3.2⟩
end Go.Proofs.YtkmngbkghgelfaaGreat
/- The walks of SameHits and count. -/
namespace Go.Proofs.YtkmngbkghgelfaaGreat
open Go.RowKit Go.Shelf
set_option linter.unusedVariables false
theorem eqH (a b c d : Int) (w : World) : Sem.run Tryz.prog (binOp .eql 78 (.agg #[.int .u64 a, .int .i64 b]) (.agg #[.int .u64 c, .int .i64 d])) w = .ok (.bool (a == c && b == d)) w := by
  have u33 := Tryz.underlying76
  have u2 := Tryz.underlying2
  have a33 := Tryz.isAgg76
  have z33 := Tryz.sizeOf76
  have a2 := Tryz.isAgg2
  have z2 := Tryz.sizeOf2
  have hS : Tryz.prog.underlying 78 = some (.struct (Tryz.prog.fieldsOf 78)) := by kernel_rfl
  have hp : Tryz.prog.stoodInHeld 78 = false := by kernel_rfl
  rw [run_eql_struct, show (10000 : Nat) = 9999 + 1 from rfl, run_equalIn_agg w 9999 78 _ _ hS hp]
  simp only [Program.fieldsOf, Tryz.underlying78]
  go_simp
  by_cases h1 : a = c <;> by_cases h2 : b = d <;> simp [h1, h2]
theorem neqH (a b c d : Int) (w : World) : Sem.run Tryz.prog (binOp .neq 78 (.agg #[.int .u64 a, .int .i64 b]) (.agg #[.int .u64 c, .int .i64 d])) w = .ok (.bool (!(a == c && b == d))) w := by
  have u33 := Tryz.underlying76
  have u2 := Tryz.underlying2
  have a33 := Tryz.isAgg76
  have z33 := Tryz.sizeOf76
  have a2 := Tryz.isAgg2
  have z2 := Tryz.sizeOf2
  have hS : Tryz.prog.underlying 78 = some (.struct (Tryz.prog.fieldsOf 78)) := by kernel_rfl
  have hp : Tryz.prog.stoodInHeld 78 = false := by kernel_rfl
  rw [run_neq_struct, show (10000 : Nat) = 9999 + 1 from rfl, run_equalIn_agg w 9999 78 _ _ hS hp]
  simp only [Program.fieldsOf, Tryz.underlying78]
  go_simp
  by_cases h1 : a = c <;> by_cases h2 : b = d <;> simp [h1, h2]
def eqHB (xs ys : List (Int × Int)) : Bool := decide (xs = ys)
theorem take_extH {xs ys : List (Int × Int)} (hl : ys.length = xs.length) (h : ∀ j, j < xs.length → xs[j]? = ys[j]?) : xs = ys := by
  apply List.ext_getElem?
  intro i
  rcases Nat.lt_or_ge i xs.length with h1 | h1
  · exact h i h1
  · rw [List.getElem?_eq_none h1, List.getElem?_eq_none (by omega)]
theorem retb' {a b : Bool} (h : a = b) : Ending.returned (.bool a) = .returned (.bool b) := by rw [h]
theorem drewN_drewNH (w : World) (a b : Nat) : (w.drewN a).drewN b = w.drewN (a + b) := by simp [go_sem]
set_option maxHeartbeats 1000000 in
theorem sameHits_any (A B : Option Addr) (c d : Nat) (xs ys : List (Int × Int)) (w : World) (D : Nat) (hx : RdH w D A xs) (hy : RdH w D B ys) (hxl : xs.length ≤ 140737488355328) (hyl : ys.length ≤ 140737488355328) :
    Calls Tryz.prog 11 #[.slice A xs.length c, .slice B ys.length d] w fun e w' => e = .returned (.bool (eqHB xs ys)) ∧ ∃ nq, w' = w.drewN nq := by
  by_cases hl : ys.length = xs.length
  · have HL := Lib.hid hl
    rw [hl]
    clear hl
    go_enter Tryz.func11, Tryz.ntmps11
    go_wp2
    go_loopw [5] (fun i wr => ∃ k nq : Nat, k ≤ xs.length ∧ i = .int .i64 k ∧ wr = w.drewN nq ∧ Hid (∀ j, j < k → xs[j]? = ys[j]?)) (fun i _ => xs.length - (intOf i).toNat)
    case atStart => exact ⟨0, 0, by omega, rfl, rfl, (fun j hj => absurd hj (Nat.not_lt_zero _) : ∀ j, j < 0 → xs[j]? = ys[j]?)⟩
    case round =>
      obtain ⟨k, nq, hk, rfl, rfl, HK⟩ := hrel
      by_cases hlt : k < xs.length
      · have hlt' : k < ys.length := by have := HL.out; omega
        obtain ⟨b, off, x1, x2, rfl, hbs, hcx, hcx', hvx⟩ := hx.at_ hlt
        obtain ⟨b', off', y1, y2, rfl, hbs', hcy, hcy', hvy⟩ := hy.at_ (i := k) hlt'
        have h1 : (0 : Int) ≤ (k : Int) := by omega
        have h2 : (k : Int) < (xs.length : Int) := by omega
        by_cases he : x1 = y1 ∧ x2 = y2
        · have HN : Hid (∀ j, j < k + 1 → xs[j]? = ys[j]?) := fun j hj => by
            rcases Nat.lt_or_ge j k with h | h
            · exact HK.out j h
            · obtain rfl : j = k := by omega
              rw [hvx.out, hvy.out, he.1, he.2]
          obtain ⟨rfl, rfl⟩ := he
          have e1 : (x1 == x1) = true := by simp
          have e2 : (x2 == x2) = true := by simp
          clear hvx hvy
          go_wp2
          go_quiet (fail)
          go_wp2
          go_roundw
          case rel => exact ⟨k + 1, _, by omega, by go_num, rfl, HN⟩
          case measure => simp [intOf]; omega
        · have E := Lib.hid (show eqHB xs ys = false from decide_eq_false (fun h => he (by have e := hvx.out; rw [h, hvy.out] at e; simpa using e.symm |> fun t => by simpa [eq_comm] using t)))
          have ne : (x1 == y1 && x2 == y2) = false := by
            cases h1 : (x1 == y1) <;> cases h2 : (x2 == y2) <;> simp_all
          have NE := neqH x1 x2 y1 y2
          rw [ne] at NE
          clear hvx hvy he ne
          go_wp2
          go_quiet (fail)
          go_wp2
          go_ret
          exact ⟨retb' E.out.symm, _, drewN_drewNH _ _ _⟩
      · have E := Lib.hid (show eqHB xs ys = true from decide_eq_true (take_extH HL.out (fun j hj => HK.out j (by omega))))
        go_wp2
        go_ret
        exact ⟨retb' E.out.symm, nq, rfl⟩
  · have ne : ((xs.length : Int) != (ys.length : Int)) = true := by simp; omega
    have E := Lib.hid (show eqHB xs ys = false from decide_eq_false (fun h => hl (by rw [h])))
    clear hl
    go_enter Tryz.func11, Tryz.ntmps11
    go_wp2
    go_ret
    exact ⟨retb' E.out.symm, 0, rfl⟩
end Go.Proofs.YtkmngbkghgelfaaGreat
/- The walk of the statement VecOrder. -/
namespace Go.Proofs.YtkmngbkghgelfaaGreat
open Go.RowKit Go.Shelf
set_option linter.unusedVariables false
/-- Hits in order. -/
def srt (xs : List (Int × Int)) : List (Int × Int) := srtH xs.toArray
theorem leH_trans (a b c : Int × Int) (h1 : (!ltH b a) = true) (h2 : (!ltH c b) = true) : (!ltH c a) = true := by
  unfold ltH at *; simp at *; omega
theorem leH_total (a b : Int × Int) : (!ltH b a || !ltH a b) = true := by
  unfold ltH; simp; omega
theorem srt_pw (xs : List (Int × Int)) : List.Pairwise (fun a b => (!ltH b a) = true) (srt xs) := List.pairwise_mergeSort leH_trans leH_total xs
theorem srt_perm (xs : List (Int × Int)) : (srt xs).Perm xs := List.mergeSort_perm xs _
theorem srt_len (xs : List (Int × Int)) : (srt xs).length = xs.length := (srt_perm xs).length_eq
theorem srt_of_perm {xs ys : List (Int × Int)} (h : xs.Perm ys) : srt xs = srt ys :=
  List.Perm.eq_of_pairwise (fun a b _ _ h1 h2 => sepH a b (by simpa using h2) (by simpa using h1)) (srt_pw xs) (srt_pw ys) (((srt_perm xs).trans h).trans (srt_perm ys).symm)
theorem srt_srt (xs : List (Int × Int)) : srt (srt xs) = srt xs := List.mergeSort_of_pairwise (srt_pw xs)
theorem srt_rev (xs : List (Int × Int)) : srt xs.reverse = srt xs := srt_of_perm (List.reverse_perm xs)
theorem srt_count (xs : List (Int × Int)) (x : Int × Int) : (srt xs).count x = xs.count x := (srt_perm xs).count_eq x
theorem srt_step {xs : List (Int × Int)} {i : Nat} {x y : Int × Int} (h1 : (srt xs)[i]? = some x) (h2 : (srt xs)[i + 1]? = some y) : ltH y x = false := by
  have hp := srt_pw xs
  rw [List.pairwise_iff_getElem] at hp
  have k1 := (List.getElem?_eq_some_iff.1 h1)
  have k2 := (List.getElem?_eq_some_iff.1 h2)
  obtain ⟨l1, rfl⟩ := k1
  obtain ⟨l2, rfl⟩ := k2
  have := hp i (i + 1) l1 l2 (by omega)
  simpa using this
theorem rdH_whole {w : World} {g : Nat} {e : TypeId} {xs : List (Int × Int)} (h : Whole w g e (flatH xs).toArray) : RdH w w.heap.size (some ⟨g, 0, none⟩) xs := fun hl => by
  refine ⟨g, 0, rfl, h.lt, fun t ht => ?_⟩
  rw [Nat.zero_add, h.cell t, List.getElem?_toArray]
theorem rev_take {xs : List (Int × Int)} {k : Nat} {x : Int × Int} (h : xs[xs.length - 1 - k]? = some x) (hk : k < xs.length) : xs.reverse.take (k + 1) = xs.reverse.take k ++ [x] := by
  rw [List.take_succ_eq_append_getElem (by simpa using hk)]
  congr 1
  rw [List.getElem_reverse]
  rw [List.getElem?_eq_getElem (by omega)] at h
  simp only [Option.some.injEq] at h
  rw [h]
theorem own_sliceH {w : World} {base n : Nat} {e : TypeId} {v : Value} {ys : List (Int × Int)} (h : w.ownsRow base e 2 v n (flatH ys)) : ∃ A c, v = .slice A n c ∧ n = ys.length ∧ RdH w w.heap.size A ys := by
  have hn : n = ys.length := by have := h.1; rw [flatH_len] at this; omega
  have h' := h
  rcases h.2 with ⟨rfl, h0⟩ | ⟨g, cap, cur, rfl, _⟩
  · exact ⟨none, 0, by rw [h0], hn, fun hp => by omega⟩
  · exact ⟨some ⟨g, 0, none⟩, cap, rfl, hn, rdH_own h'⟩
theorem sortAs (A : Option Addr) (c : Nat) (ys zs : List (Int × Int)) (n : Nat) (hn : n = ys.length) (he : srt ys = zs) (w : World) (hx : RdH w w.heap.size A ys) (hl : ys.length ≤ 8796093022208) :
    Calls Tryz.prog 83 #[.slice A n c] w fun e w' => ∃ g, e = .returned (.slice (some ⟨g, 0, none⟩) n n) ∧ Whole w' g 78 (flatH zs).toArray ∧ Below w.heap.size w w' := by
  refine (sort_any A c ys n hn w hx hl).mono fun e w' h => ?_
  obtain ⟨g, h1, h2, h3, h4⟩ := h
  refine ⟨g, h1, ?_, h4⟩
  rw [← he]; exact h2
theorem sameTrue (A B : Option Addr) (c d : Nat) (zs : List (Int × Int)) (n : Nat) (hn : n = zs.length) (w : World) (D : Nat) (hx : RdH w D A zs) (hy : RdH w D B zs) (hl : zs.length ≤ 140737488355328) :
    Calls Tryz.prog 11 #[.slice A n c, .slice B n d] w fun e w' => e = .returned (.bool true) ∧ ∃ nq, w' = w.drewN nq := by
  subst hn
  have := sameHits_any A B c d zs zs w D hx hy hl hl
  rwa [show eqHB zs zs = true by simp [eqHB]] at this
theorem grow2 (w : World) (o1 o2 : Obj) : ∃ os, (w.alloc o1).alloc o2 = Sort.grow (w.drewN 0) os := ⟨_, by rw [Sort.alloc_eq_grow, Sort.alloc_eq_grow, Sort.grow_grow]; rfl⟩
theorem below_grow (w : World) (n : Nat) (os : Array Obj) : Below w.heap.size w (Sort.grow (w.drewN n) os) :=
  ⟨rfl, rfl, rfl, by rw [Sort.size_grow]; show w.heap.size ≤ w.heap.size + _; omega, fun k hk => by rw [Sort.heap_grow_old _ _ (show k < (w.drewN n).heap.size from hk)]; rfl⟩
theorem takeH {xs : List (Int × Int)} {k : Nat} {x y : Int} (h : xs[k]? = some (x, y)) : flatH (xs.take k) ++ [.int .u64 x, .int .i64 y] = flatH (xs.take (k + 1)) := by
  have hk := (List.getElem?_eq_some_iff.1 h).1
  rw [List.take_succ_eq_append_getElem hk, flatH_app]
  rw [List.getElem?_eq_getElem hk] at h
  simp only [Option.some.injEq] at h
  rw [h]; rfl
end Go.Proofs.YtkmngbkghgelfaaGreat
