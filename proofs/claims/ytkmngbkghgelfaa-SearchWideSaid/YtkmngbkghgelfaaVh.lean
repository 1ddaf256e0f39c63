/- Rows of hits: how a slice of hits reads, 'copy' at elements of several cells, and the walk of Sort. -/
import Derived.Test.YtkmngbkghgelfaaOw
import Derived.Test.YtkmngbkghgelfaaVu
import Derived.Laws.CopyRow
import Derived.Laws.IdiomCopy
import Derived.WalkSpells
namespace Go.Proofs.Ytkmngbkghgelfaa
open Go.Shelf Go.RowKit Go.Lib
open Go.Sort hiding Below
set_option linter.unusedVariables false
/-- The cells of a row of hits. -/
def flatH (xs : List (Int × Int)) : List Value := xs.flatMap encH
theorem flatH_len (xs : List (Int × Int)) : (flatH xs).length = xs.length * 2 := by
  induction xs with
  | nil => rfl
  | cons x r ih => unfold flatH at *; rw [List.flatMap_cons, List.length_append, ih, encH_len, List.length_cons]; omega
theorem flatH_app (xs ys : List (Int × Int)) : flatH (xs ++ ys) = flatH xs ++ flatH ys := by unfold flatH; rw [List.flatMap_append]
theorem flatH_get (xs : List (Int × Int)) : ∀ t, t < xs.length * 2 → (flatH xs)[t]? = some ((encH (xs[t / 2]?.getD (0, 0)))[t % 2]!) := by
  induction xs with
  | nil => intro t ht; simp at ht
  | cons x r ih =>
    intro t ht
    have e : flatH (x :: r) = Value.int .u64 x.1 :: Value.int .i64 x.2 :: flatH r := rfl
    rw [e]
    rcases t with _ | _ | t
    · rfl
    · rfl
    · rw [List.getElem?_cons_succ, List.getElem?_cons_succ, ih t (by simp at ht; omega)]
      have e1 : (t + 1 + 1) / 2 = t / 2 + 1 := by omega
      have e2 : (t + 1 + 1) % 2 = t % 2 := by omega
      rw [e1, e2, List.getElem?_cons_succ]
theorem flatK_flatH (d : Array (Int × Int)) : flatK encH 2 d = (flatH d.toList).toArray := by
  apply Array.ext
  · rw [size_flatK]; simp [flatH_len]
  · intro t h1 h2
    have h3 : t < d.size * 2 := by rwa [size_flatK] at h1
    have e := get_flatK encH 2 d t h3
    rw [getElem!_pos _ t h1] at e
    rw [e]
    have g := flatH_get d.toList t (by simpa using h3)
    rw [List.getElem?_eq_getElem (by rw [flatH_len]; simpa using h3)] at g
    simp only [Option.some.injEq] at g
    rw [List.getElem_toArray, g]
    have h4 : t / 2 < d.size := by omega
    congr 2
    rw [getElem!_pos d _ h4]
    simp [h4]
/-- A slice value at A reads, in w, as the hits xs; where it has one it lies below block B. -/
def RdH (w : World) (B : Nat) (A : Option Addr) (xs : List (Int × Int)) : Prop :=
  0 < xs.length → ∃ b off, A = some ⟨b, off, none⟩ ∧ b < B ∧ ∀ t, t < xs.length * 2 → w.cell? ⟨b, off + t, none⟩ = (flatH xs)[t]?
theorem RdH.below {w w' : World} {B : Nat} {A : Option Addr} {xs : List (Int × Int)} (h : RdH w B A xs) (hb : Below B w w') : RdH w' B A xs := fun hl => by
  obtain ⟨b, off, hA, hB, hc⟩ := h hl
  exact ⟨b, off, hA, hB, fun i hi => (hb.cell (p := ⟨b, off + i, none⟩) hB).trans (hc i hi)⟩
theorem RdH.more {w : World} {B B' : Nat} {A : Option Addr} {xs : List (Int × Int)} (h : RdH w B A xs) (hB : B ≤ B') : RdH w B' A xs := fun hl => by
  obtain ⟨b, off, hA, hb, hc⟩ := h hl
  exact ⟨b, off, hA, by omega, hc⟩
theorem RdH.at_ {w : World} {B : Nat} {A : Option Addr} {xs : List (Int × Int)} (h : RdH w B A xs) {i : Nat} (hi : i < xs.length) :
    ∃ b off x y, A = some ⟨b, off, none⟩ ∧ b < B ∧ w.cell? ⟨b, off + i * 2, none⟩ = some (.int .u64 x) ∧ w.cell? ⟨b, off + i * 2 + 1, none⟩ = some (.int .i64 y) ∧ Hid (xs[i]? = some (x, y)) := by
  obtain ⟨b, off, hA, hB, hc⟩ := h (by omega)
  refine ⟨b, off, (xs[i]).1, (xs[i]).2, hA, hB, ?_, ?_, (by simp [List.getElem?_eq_getElem hi] : xs[i]? = some (xs[i].1, xs[i].2))⟩
  · rw [hc (i * 2) (by omega), flatH_get xs _ (by omega), show i * 2 / 2 = i by omega, show i * 2 % 2 = 0 by omega, List.getElem?_eq_getElem hi]; rfl
  · rw [Nat.add_assoc, hc (i * 2 + 1) (by omega), flatH_get xs _ (by omega), show (i * 2 + 1) / 2 = i by omega, show (i * 2 + 1) % 2 = 1 by omega, List.getElem?_eq_getElem hi]; rfl
theorem RdH.take {w : World} {B : Nat} {A : Option Addr} {xs : List (Int × Int)} (h : RdH w B A xs) (n : Nat) : RdH w B A (xs.take n) := fun hl => by
  rw [List.length_take] at hl
  obtain ⟨b, off, hA, hb, hc⟩ := h (by omega)
  refine ⟨b, off, hA, hb, fun t ht => ?_⟩
  rw [List.length_take] at ht
  rw [hc t (by omega), flatH_get xs t (by omega), flatH_get _ t (by rw [List.length_take]; exact ht), List.getElem?_take, if_pos (by omega)]
/-- A row of the call's own reads as its hits. -/
theorem rdH_own {w : World} {base g n cap : Nat} {e : TypeId} {xs : List (Int × Int)} (h : w.ownsRow base e 2 (.slice (some ⟨g, 0, none⟩) n cap) n (flatH xs)) : RdH w w.heap.size (some ⟨g, 0, none⟩) xs := fun hl => by
  have hn : xs.length = n := by have := h.1; rw [flatH_len] at this; omega
  refine ⟨g, 0, rfl, (h.lt g rfl).2, fun t ht => ?_⟩
  rw [Nat.zero_add, h.cellAt t (by omega)]
theorem flatH_one (xs : List (Int × Int)) : ∀ v ∈ flatH xs, v.oneCell' = true := fun v hv => by
  unfold flatH at hv
  rw [List.mem_flatMap] at hv
  obtain ⟨x, _, hx⟩ := hv
  exact encH_one x v hx
theorem holdsH {w : World} {g : Nat} {e : TypeId} {xs : List (Int × Int)} (h : Whole w g e (flatH xs).toArray) : HoldsK encH 2 w g 0 xs.toArray := fun j hj => by
  rw [Nat.zero_add]
  refine ⟨?_, h.frozen j⟩
  rw [h.cell j, flatK_flatH]
  rw [flatK_flatH] at hj
  show _ = some (id _)
  rw [getElem!_pos _ j hj, Array.getElem?_eq_getElem hj]
  rfl
/-- Behind a sort the row's block is the sorted row, and nothing else that lay there has turned. -/
theorem swk_whole {w w' : World} {g : Nat} {e : TypeId} {cur : Array Value} {d : Array (Int × Int)} (h : Whole w g e cur) (hs : cur.size = d.size * 2) (S : SWK encH 2 w g 0 d w') :
    Whole w' g e (flatH d.toList).toArray ∧ Below g w w' := by
  obtain ⟨n, os, rfl⟩ := S
  have hg := h.lt
  refine ⟨?_, ⟨rfl, rfl, rfl, ?_, fun k hk => ?_⟩⟩
  · unfold Whole sortWorldK
    rw [heap_grow_old _ _ (by rw [size_putRowK]; exact hg)]
    unfold putRowK putRow mapBlock
    show (w.heap.modify g _)[g]? = _
    rw [Array.getElem?_modify, if_pos rfl, show w.heap[g]? = _ from h]
    simp only [Option.map_some, onCells]
    congr 2
    rw [← flatK_flatH]
    unfold putCells
    apply Array.ext
    · rw [Array.size_mapIdx, size_flatK, hs]
    · intro i h1 h2
      rw [Array.getElem_mapIdx, if_pos (by rw [size_flatK] at *; omega)]
      simp only [Nat.sub_zero, id]
      rw [getElem!_pos _ i h2]
  · unfold sortWorldK; rw [size_grow, size_putRowK]; show w.heap.size ≤ w.heap.size + _; omega
  · unfold sortWorldK
    rw [heap_grow_old _ _ (by rw [size_putRowK]; show k < w.heap.size; omega)]
    unfold putRowK putRow mapBlock
    show (w.heap.modify g _)[k]? = _
    rw [Array.getElem?_modify, if_neg (by omega)]
theorem run_copy_k {P : Program} (w : World) (dT sT ty elem : TypeId) (k g o dLen dCap : Nat) (a : Addr) (sLen sCap : Nat) (cur : Array Value) (t : TypeId) (cs : List Value)
    (hu : P.underlying dT = some (.slice elem)) (hs : (P.info? elem).map (·.size) = some k)
    (hg : w.heap[g]? = some (.cells cur t (0, 0))) (hn : cs.length = Nat.min sLen dLen * k)
    (hsrc : ∀ j v, cs[j]? = some v → w.cell? (a.add j) = some v) (hfit : o + cs.length ≤ cur.size) (h1 : ∀ v ∈ cs, v.oneCell' = true) :
    (Builtin.copy_ #[dT, sT] ty #[.slice (some ⟨g, o, none⟩) dLen dCap, .slice (some a) sLen sCap]).run P w =
      .ok (goInt (Nat.min sLen dLen)) (w.setRow g (cur.toList.take o ++ cs ++ cur.toList.drop (o + cs.length)).toArray) := by
  have hl := run_loadCells_list (P := P) w a cs hsrc
  have hst := run_storeCells_at P g o t cs 0 cur w hg (by simpa using hfit) h1
  cases hq : P.info? elem with
  | none => simp [hq] at hs
  | some i =>
    have hi : i.size = k := by simpa [hq] using hs
    simp [Builtin.copy_, run_underlying hu, Builtin.lenOf, Builtin.firstCells, sizeOf, typeInfo, hq, hi, ← hn, hl, hst]
theorem run_copy_k0 {P : Program} (w : World) (dT sT ty elem : TypeId) (k : Nat) (d a : Option Addr) (dLen dCap sLen sCap : Nat) (hu : P.underlying dT = some (.slice elem)) (hs : (P.info? elem).map (·.size) = some k) (hn : Nat.min sLen dLen = 0) :
    (Builtin.copy_ #[dT, sT] ty #[.slice d dLen dCap, .slice a sLen sCap]).run P w = .ok (goInt 0) w := by
  cases hq : P.info? elem with
  | none => simp [hq] at hs
  | some i =>
    have hl : ∀ (x : Addr), (loadCells x 0).run P w = .ok #[] w := fun x => by simpa using run_loadCells_list (P := P) w x [] (by simp)
    cases d <;> cases a <;> simp [Builtin.copy_, run_underlying hu, Builtin.lenOf, Builtin.firstCells, sizeOf, typeInfo, hq, hn, storeCells, hl]
/-- 'copy' of a whole row into a row of as many elements. -/
theorem wpList_copy_k {P : Program} {w : World} {ops : Array Oper} {rest : List Oper} {o : Oper} {a : Act} {Q : Exit → Act → World → Prop} (hgd : o.guard = none) (d s : Operand) (dT sT : TypeId)
    (ho : o.op = .call { callee := .builtin .copy, args := #[d, s], argTypes := #[dT, sT] }) (elem : TypeId) (hu : P.underlying dT = some (.slice elem)) (k : Nat) (hsz : (P.info? elem).map (·.size) = some k) (hk : 0 < k)
    (sp : Option Addr) (g n dCap sCap : Nat) (hd : a.eval d = .slice (some ⟨g, 0, none⟩) n dCap) (hs : a.eval s = .slice sp n sCap)
    (cur : Array Value) (t : TypeId) (hg : w.heap[g]? = some (.cells cur t (0, 0))) (cs : List Value) (hn : cs.length = n * k) (hcur : cur.size = n * k)
    (hpos : 0 < n → ∃ ad, sp = some ad ∧ ∀ j v, cs[j]? = some v → w.cell? (ad.add j) = some v) (h1 : ∀ v ∈ cs, v.oneCell' = true) (B : Nat) (w0 : World) (hb : Below B w0 w) (hBg : B ≤ g)
    (h : ∀ w', Whole w' g t cs.toArray → Below B w0 w' → wpList P ops Q rest (a.put o.dst (goInt n)) w') :
    wpList P ops Q (o :: rest) a w := by
  rcases Nat.eq_zero_or_pos n with h0 | h0
  · subst h0
    obtain rfl : cs = [] := List.eq_nil_of_length_eq_zero (by omega)
    obtain rfl : cur = #[] := Array.eq_empty_of_size_eq_zero (by omega)
    refine wpList_plain hgd fun K hK => ?_
    have hrun := run_copy_k0 (P := P) w dT sT o.type elem k (some ⟨g, 0, none⟩) sp 0 dCap 0 sCap hu hsz rfl
    unfold Oper.wp
    simp [execOp, ho, resolve, invoke, builtin, hd, hs, hrun, Result.andThen]
    exact hK _ _ (h w hg hb)
  · obtain ⟨ad, rfl, hsrc⟩ := hpos h0
    refine wpList_plain hgd fun K hK => ?_
    have hrun := run_copy_k (P := P) w dT sT o.type elem k g 0 n dCap ad n sCap cur t cs hu hsz hg (by rw [show Nat.min n n = n from Nat.min_self n]; exact hn) hsrc (by omega) h1
    rw [show Nat.min n n = n from Nat.min_self n] at hrun
    unfold Oper.wp
    simp [execOp, ho, resolve, invoke, builtin, hd, hs, hrun, Result.andThen]
    refine hK _ _ (h _ ?_ (below_setRow hb hBg _))
    have := setRow_heap w g cur (cs ++ cur.toList.drop cs.length).toArray t _ hg
    rw [List.drop_of_length_le (by rw [Array.length_toList]; omega), List.append_nil] at this ⊢
    exact this
theorem Try.info46h : (Try.prog.info? 46).map (fun i => (i.zero, i.size, i.bytes)) = some (some (.agg #[.int .u64 0, .int .i64 0]), 2, 16) := by kernel_rfl
theorem whole_own {w : World} {g base n : Nat} {xs : List (Int × Int)} (h : Whole w g 46 (flatH xs).toArray) (hb : base ≤ g) (hn : n = xs.length) (hm : n ≤ maxLen) : w.ownsRow base 46 2 (.slice (some ⟨g, 0, none⟩) n n) n (flatH xs) := by
  subst hn
  refine ⟨flatH_len xs, .inr ⟨g, xs.length, _, rfl, hb, h, Nat.le_refl _, hm, by simp [flatH_len], ?_⟩⟩
  rw [← flatH_len]; simp
/-- What Sort answers: the hits, the nearest first, in a row of its own. -/
def SortYes (w : World) (n : Nat) (xs : List (Int × Int)) (e : Ending) (w' : World) : Prop :=
  ∃ g, e = .returned (.slice (some ⟨g, 0, none⟩) n n) ∧ Whole w' g 46 (flatH (srtH xs.toArray)).toArray ∧ w.heap.size ≤ g ∧ Below w.heap.size w w'
set_option maxRecDepth 100000 in
set_option maxHeartbeats 1000000 in
theorem sort_any (A : Option Addr) (c : Nat) (xs : List (Int × Int)) (n : Nat) (hn : n = xs.length) (w : World) (hx : RdH w w.heap.size A xs) (hl : xs.length ≤ 8796093022208) :
    Calls Try.prog 36 #[.slice A n c] w (SortYes w n xs) := by
  subst hn
  obtain ⟨i0, hi, hz0, hz1, hz2⟩ := info_parts Try.info46h
  go_enter Try.func36, Try.ntmps36
  go_wp2_with (at_make; refine wpList_make_full _ rfl _ _ 33 rfl w.heap.size 46 i0 (.agg #[.int .u64 0, .int .i64 0]) 2 Try.underlying33 hi hz0 hz1 _ _ _ _ xs.length rfl rfl rfl rfl ?b2 ?b3 (Nat.le_refl _) ?_)
  case b2 => rw [hz2]; omega
  case b3 => unfold maxLen; omega
  intro w1 hown hgrow
  have hB1 : Below w.heap.size w w1 := (Below.refl _ _).grown hgrow (Nat.le_refl _) (by simp)
  obtain ⟨cur, hcur, hcs⟩ : ∃ cur, w1.heap[w.heap.size]? = some (.cells cur 46 (0, 0)) ∧ cur.size = xs.length * 2 := by
    rcases hown.2 with ⟨h, _⟩ | ⟨g, cap, cur, h, _, hg, _, _, hsz, _⟩
    · cases h
    · simp only [Value.slice.injEq, Option.some.injEq, Addr.mk.injEq] at h
      obtain ⟨⟨rfl, _⟩, _, rfl⟩ := h
      exact ⟨cur, hg, hsz⟩
  have hx1 := hx.below hB1
  have hsrc : 0 < xs.length → ∃ ad, A = some ad ∧ ∀ j v, (flatH xs)[j]? = some v → w1.cell? (ad.add j) = some v := fun h0 => by
    obtain ⟨b, off, hA, hb, hc⟩ := hx1 h0
    refine ⟨⟨b, off, none⟩, hA, fun j v hv => ?_⟩
    have hj : j < xs.length * 2 := by
      rcases Nat.lt_or_ge j (xs.length * 2) with h | h
      · exact h
      · rw [List.getElem?_eq_none (by rw [flatH_len]; exact h)] at hv; cases hv
    have ea : (⟨b, off, none⟩ : Addr).add j = ⟨b, off + j, none⟩ := by unfold Addr.add; split <;> simp_all
    rw [ea, hc j hj]; exact hv
  have HSRC := Lib.hid hsrc
  have HCUR := Lib.hid hcur
  have HCS := Lib.hid hcs
  clear hsrc hcur hcs hown hgrow
  have h35 : (Try.prog.info? 46).map (·.size) = some 2 := by rw [hi]; simp [hz1]
  have H35 := Lib.hid h35
  clear h35 hi hz0 hz1 hz2
  go_wp2_with (refine wpList_copy_k (o := ⟨some 9, _, _, _, _, _⟩) rfl (.tmp 7) (.tmp 8) 33 33 rfl 46 Try.underlying33 2 H35.out (by omega) A w.heap.size xs.length xs.length c rfl rfl cur 46 HCUR.out (flatH xs) (flatH_len xs) HCS.out HSRC.out (flatH_one xs) w.heap.size w hB1 (Nat.le_refl _) ?_; intro w2 hW2 hB2)
  have HW2 := Lib.hid hW2
  have h2 := sortStable_any w.heap.size 0 xs.length xs.toArray w2 (holdsH hW2) hW2.lt (by simp; omega)
  rw [show xs.toArray.size = xs.length by simp] at h2
  have H2 := Lib.hid h2
  clear h2 hW2 HSRC HCUR HCS H35 hx hx1 hB1
  go_wp2_with fail
  refine H2.out.mono ?_
  rintro e w3 ⟨rfl, hs3⟩
  go_wp2
  go_ret
  have hl3 : (srtH xs.toArray).toArray.size = xs.length := by unfold srtH; simp [List.length_mergeSort]
  have h3 := swk_whole HW2.out (by rw [hl3]; simp [flatH_len]) hs3
  exact ⟨w.heap.size, rfl, h3.1, Nat.le_refl _, hB2.trans h3.2⟩
end Go.Proofs.Ytkmngbkghgelfaa
