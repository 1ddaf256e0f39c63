/- How many IDs two lists share: the mathematics, the map's laws, the program's Shared and the document's. -/
import Derived.Test.YtkdepoaajhggiaaHm
import Derived.Deep.Cut
namespace Go.Proofs.Ytkdepoaajhggiaa
open Go.Shelf Go.RowKit Go.Lib
open Go.Sort hiding Below
set_option linter.unusedVariables false
set_option linter.unusedSimpArgs false
def addU (s : List Int) (x : Int) : List Int := if x ∈ s then s else s ++ [x]
def uniqI (l : List Int) : List Int := l.foldl addU []
theorem uniqI_snoc (l : List Int) (x : Int) : uniqI (l ++ [x]) = addU (uniqI l) x := by unfold uniqI; rw [List.foldl_append]; rfl
theorem addU_mem {s : List Int} {x y : Int} : y ∈ addU s x ↔ y ∈ s ∨ y = x := by
  unfold addU
  split
  · rename_i h
    constructor
    · exact .inl
    · rintro (h1 | rfl)
      · exact h1
      · exact h
  · simp
theorem addU_nd {s : List Int} (h : s.Nodup) (x : Int) : (addU s x).Nodup := by
  unfold addU
  split
  · exact h
  · rename_i hc
    rw [List.nodup_append]
    exact ⟨h, by simp, fun a ha b hb => by rw [List.mem_singleton] at hb; subst hb; exact fun e => hc (e ▸ ha)⟩
theorem uniq_mem (y : Int) : ∀ (l s : List Int), y ∈ l.foldl addU s ↔ y ∈ s ∨ y ∈ l
  | [], s => by simp
  | x :: l, s => by
    rw [List.foldl_cons, uniq_mem y l, addU_mem]
    simp only [List.mem_cons, or_assoc]
theorem uniq_nd : ∀ (l s : List Int), s.Nodup → (l.foldl addU s).Nodup
  | [], s, h => h
  | x :: l, s, h => uniq_nd l _ (addU_nd h x)
theorem uniqI_mem {y : Int} {l : List Int} : y ∈ uniqI l ↔ y ∈ l := by unfold uniqI; rw [uniq_mem]; simp
theorem uniqI_nd (l : List Int) : (uniqI l).Nodup := uniq_nd l [] List.nodup_nil
theorem addU_len (s : List Int) (x : Int) : (addU s x).length ≤ s.length + 1 := by unfold addU; split <;> simp
theorem uniq_len : ∀ (l s : List Int), (l.foldl addU s).length ≤ s.length + l.length
  | [], s => by simp
  | x :: l, s => by have := uniq_len l (addU s x); have := addU_len s x; simp at *; omega
theorem uniqI_len (l : List Int) : (uniqI l).length ≤ l.length := by have := uniq_len l []; unfold uniqI; simpa using this
/-- How many numbers stand in both lists. -/
def shN (a b : List Int) : Nat := ((uniqI a).filter (fun x => decide (x ∈ b))).length
theorem shN_comm (a b : List Int) : shN a b = shN b a := by
  unfold shN
  refine (List.Perm.length_eq ((List.perm_ext_iff_of_nodup ((uniqI_nd a).sublist List.filter_sublist) ((uniqI_nd b).sublist List.filter_sublist)).2 fun x => ?_))
  simp only [List.mem_filter, uniqI_mem, decide_eq_true_eq]
  exact And.comm
theorem fl_split {α : Type} (p : α → Bool) : ∀ l : List α, (l.filter p).length + (l.filter (fun x => !p x)).length = l.length
  | [] => rfl
  | x :: l => by
    have := fl_split p l
    cases h : p x <;> simp [h] <;> omega
theorem shN_rest (a b : List Int) : (uniqI a).length - ((uniqI a).filter (fun x => !decide (x ∈ b))).length = shN a b := by
  have := fl_split (fun x => decide (x ∈ b)) (uniqI a)
  unfold shN; omega
theorem shN_snoc (a b : List Int) (x : Int) : shN (a ++ [x]) b = shN a b + if x ∉ a ∧ x ∈ b then 1 else 0 := by
  unfold shN
  rw [uniqI_snoc]
  unfold addU
  by_cases h : x ∈ a
  · rw [if_pos (uniqI_mem.2 h), if_neg (by simp [h])]; rfl
  · rw [if_neg (by rw [uniqI_mem]; exact h), List.filter_append, List.length_append]
    by_cases hb : x ∈ b <;> simp [h, hb]
theorem shN_le (a b : List Int) : shN a b ≤ a.length := Nat.le_trans (List.length_filter_le _ _) (uniqI_len a)
theorem MapIs.add {w : World} {fm : Nat} {l : List Int} (h : MapIs w fm l) {x : Int} (hx : (Lit.int .u64 x).wf = true) (hs : l.length < 1000000) :
    ∃ w', (Instr.mapUpdate 74 (.map (some fm)) (.int .u64 x) (.agg #[])).run Try.prog w = .ok () w' ∧ MapIs w' fm (addU l x) ∧ Turn [fm] w w' := by
  unfold addU
  by_cases hm : x ∈ l
  · rw [if_pos hm]
    obtain ⟨D, h1, h2, h3⟩ := h
    obtain ⟨w', hr, ho, ht⟩ := h1.store kLaw Try.underlying74 (by unfold maxLen; omega) (kOf hx) (unitElem_mk (H := Unit))
    have hsz : Maps.size (D.put (.int .u64 x) (.agg [])) = l.length := by rw [Maps.size_put (h1.tidy kLaw), h2 x, h3]; simp [hm]
    refine ⟨w', hr, ⟨_, by rw [← hsz]; exact own_tight ho, fun y => ?_, hsz⟩, turn_map ht⟩
    by_cases e : y = x
    · subst e
      rw [Maps.has_put_same h1.isMap (kLaw.key (kOf hx))]
      simp [hm]
    · rw [Maps.has_put_other (by simpa using e), h2 y]
  · rw [if_neg hm]; exact h.store hx hm hs
theorem MapIs.del {w : World} {fm : Nat} {l : List Int} (h : MapIs w fm l) {x : Int} (hx : (Lit.int .u64 x).wf = true) (hn : l.Nodup) (ty : TypeId) :
    ∃ w', (Builtin.delete_ #[74, 40] ty #[.map (some fm), .int .u64 x]).run Try.prog w = .ok (.tuple #[]) w' ∧ MapIs w' fm (l.filter (fun y => !decide (y = x))) ∧ Turn [fm] w w' := by
  by_cases hm : x ∈ l
  · refine h.drop hx ?_ hn ty
    have e : l.filter (fun y => !decide (y = x)) = l.erase x := by
      rw [hn.erase_eq_filter]
      congr 1
    rw [e]
    exact (List.perm_cons_erase hm).symm
  · have e : l.filter (fun y => !decide (y = x)) = l := by
      rw [List.filter_eq_self]
      intro y hy
      have : y ≠ x := fun q => hm (q ▸ hy)
      simp [this]
    rw [e]
    obtain ⟨D, h1, h2, h3⟩ := h
    obtain ⟨w', hr, ho, ht⟩ := h1.drop kLaw Try.underlying74 (kOf hx) ty
    have hsz : Maps.size (D.del (.int .u64 x)) = l.length := by
      have := Maps.size_del (h1.tidy kLaw) (k := .int .u64 x)
      rw [h2 x, h3] at this
      simp [hm] at this
      exact this
    refine ⟨w', hr, ⟨_, by rw [← hsz]; exact own_tight ho, fun y => ?_, hsz⟩, turn_map ht⟩
    by_cases e : y = x
    · subst e
      rw [Maps.has_del_same]
      simp [hm]
    · rw [Maps.has_del_other (by simpa using e), h2 y]
theorem MapIs.len {w : World} {fm : Nat} {l : List Int} (h : MapIs w fm l) (ty : TypeId) : (Builtin.len_ #[74] ty #[.map (some fm)]).run Try.prog w = .ok (.int .i64 (l.length : Int)) w := by
  obtain ⟨D, h1, h2, h3⟩ := h
  rw [← h3]
  exact h1.len Try.underlying74 ty
theorem ids_tk {xs : HL} {k : Nat} {x y : Int} (h : xs[k]? = some (x, y)) : ids (xs.take (k + 1)) = ids (xs.take k) ++ [x] := by
  rw [List.take_add_one, h]; simp [ids]
theorem filter_tk (l b : List Int) (x : Int) : (l.filter (fun y => !decide (y ∈ b))).filter (fun y => !decide (y = x)) = l.filter (fun y => !decide (y ∈ b ++ [x])) := by
  rw [List.filter_filter]
  congr 1
  funext y
  by_cases h1 : y = x <;> by_cases h2 : y ∈ b <;> simp [h1, h2]
theorem turn_belowN {A : List Nat} {w0 w w' : World} {B : Nat} (hb : Below B w0 w) (h : Turn A w w') (hA : ∀ a ∈ A, B ≤ a) (hs : B ≤ w.heap.size) : Below B w0 w' := hb.trans (h.below hA hs)
set_option maxRecDepth 100000 in
set_option maxHeartbeats 4000000 in
theorem shared_any (A B : Option Addr) (c d : Nat) (xs ys : HL) (n m : Nat) (hn : n = xs.length) (hm : m = ys.length) (w : World) (hx : RdH w w.heap.size A xs) (hy : RdH w w.heap.size B ys) (ok : ∀ x ∈ xs, HitOk x) (ok2 : ∀ x ∈ ys, HitOk x) (hl : xs.length ≤ 100000) (hl2 : ys.length ≤ 100000) :
    Calls Try.prog 18 #[.slice A n c, .slice B m d] w fun e w' => e = .returned (.int .i64 ((shN (ids xs) (ids ys) : Nat) : Int)) ∧ Below w.heap.size w w' := by
  subst hn hm
  have HX := Lib.hid hx
  have HY := Lib.hid hy
  have HO := Lib.hid ok
  have HO2 := Lib.hid ok2
  have HM := Lib.hid (MapIs.made w)
  have HB0 := Lib.hid (below_one (Below.refl w.heap.size w) (.map #[] 0))
  clear hx hy ok ok2
  have hmk := @run_makeMap Try.prog
  go_enter Try.func18, Try.ntmps18
  go_wp2
  obtain ⟨w1, ew1⟩ : ∃ w1, w.alloc (.map #[] 0) = w1 := ⟨_, rfl⟩
  obtain ⟨fm, efm⟩ : ∃ fm, w.heap.size = fm := ⟨_, rfl⟩
  have HFM := Lib.hid efm
  rw [ew1, efm] at HM
  rw [ew1] at HB0
  rw [ew1, efm]
  clear ew1 efm hmk
  go_loopw [7, 14] (fun _ i wr => ∃ k : Nat, k ≤ xs.length ∧ i = .int .i64 k ∧ Hid (Below w.heap.size w wr) ∧ Hid (MapIs wr fm (uniqI (ids (xs.take k))))) (fun _ i _ => xs.length - (intOf i).toNat)
  case atStart => exact ⟨0, by omega, rfl, HB0, HM⟩
  case round =>
    clear HB0 HM
    obtain ⟨k, hk, rfl, HB, HM⟩ := hrel
    by_cases hlt : k < xs.length
    · have e1 : decide ((k : Int) < (xs.length : Int)) = true := decide_eq_true (by omega)
      obtain ⟨b, off, x, y, rfl, hBb, h1, h2, hv⟩ := HX.out.at_ hlt
      have h1' : wr.cell? ⟨b, off + k * 2, none⟩ = some (.int .u64 x) := (HB.out.cell (p := ⟨b, off + k * 2, none⟩) hBb).trans h1
      have h2' : wr.cell? ⟨b, off + k * 2 + 1, none⟩ = some (.int .i64 y) := (HB.out.cell (p := ⟨b, off + k * 2 + 1, none⟩) hBb).trans h2
      have x1 : (0 : Int) ≤ (k : Int) := by omega
      have x2 : (k : Int) < (xs.length : Int) := by omega
      have HT := Lib.hid (ids_tk hv.out)
      have HBX := Lib.hid (below_one (Below.refl wr.heap.size wr) (.cells #[.int .u64 x, .int .i64 y] 42))
      obtain ⟨w3, hput, hM3, ht3⟩ := (HM.out.turn (Turn.of_below HBX.out) (by simp)).add (HO.out _ (List.mem_of_getElem? hv.out)).1 (by have := uniqI_len (ids (xs.take k)); simp [ids] at this ⊢; omega)
      have HM3 : Hid (MapIs w3 fm (uniqI (ids (xs.take (k + 1))))) := Lib.hid (by rw [HT.out, uniqI_snoc]; exact hM3)
      have HB3 := Lib.hid (turn_belowN (HB.out.trans (HBX.out.mono HB.out.size)) ht3 (by simp [HFM.out]) (Nat.le_trans HB.out.size HBX.out.size))
      clear h1 h2 hv hM3 ht3 HM
      go_wp2
      go_roundw
      case rel => exact ⟨k + 1, by omega, by go_num, HB3, HM3⟩
      case measure => simp [intOf]; omega
    · obtain rfl : k = xs.length := by omega
      have e1 : decide ((xs.length : Int) < (xs.length : Int)) = false := decide_eq_false (by omega)
      rw [List.take_length] at HM
      have hlen := HM.out.len
      have hle : (uniqI (ids xs)).length ≤ 100000 := by have := uniqI_len (ids xs); simp [ids] at this ⊢; omega
      obtain ⟨U, eU⟩ : ∃ U, (uniqI (ids xs)).length = U := ⟨_, rfl⟩
      have HU := Lib.hid eU
      rw [eU] at hlen hle
      clear eU
      have HM2 : Hid (MapIs wr fm ((uniqI (ids xs)).filter (fun y => !decide (y ∈ ids (ys.take 0))))) := Lib.hid (by
        have : (uniqI (ids xs)).filter (fun y => !decide (y ∈ ids (ys.take 0))) = uniqI (ids xs) := by rw [List.filter_eq_self]; simp [ids]
        rw [this]; exact HM.out)
      have HBr := Lib.hid HB.out
      clear HM
      go_wp2
      go_loopw [10, 27] (fun _ i ws => ∃ k : Nat, k ≤ ys.length ∧ i = .int .i64 k ∧ Hid (Below w.heap.size w ws) ∧ Hid (MapIs ws fm ((uniqI (ids xs)).filter (fun y => !decide (y ∈ ids (ys.take k)))))) (fun _ i _ => ys.length - (intOf i).toNat)
      case atStart => exact ⟨0, by omega, rfl, HBr, HM2⟩
      case round =>
        clear HBr HM2 hlen
        obtain ⟨k, hk, rfl, HB, HM⟩ := hrel
        by_cases hlt : k < ys.length
        · have e2 : decide ((k : Int) < (ys.length : Int)) = true := decide_eq_true (by omega)
          obtain ⟨b, off, x, y, rfl, hBb, h1, h2, hv⟩ := HY.out.at_ hlt
          have h1' : wr.cell? ⟨b, off + k * 2, none⟩ = some (.int .u64 x) := (HB.out.cell (p := ⟨b, off + k * 2, none⟩) hBb).trans h1
          have h2' : wr.cell? ⟨b, off + k * 2 + 1, none⟩ = some (.int .i64 y) := (HB.out.cell (p := ⟨b, off + k * 2 + 1, none⟩) hBb).trans h2
          have x1 : (0 : Int) ≤ (k : Int) := by omega
          have x2 : (k : Int) < (ys.length : Int) := by omega
          have HT := Lib.hid (ids_tk hv.out)
          have HBX := Lib.hid (below_one (Below.refl wr.heap.size wr) (.cells #[.int .u64 x, .int .i64 y] 42))
          obtain ⟨w3, hdel, hM3, ht3⟩ := (HM.out.turn (Turn.of_below HBX.out) (by simp)).del (HO2.out _ (List.mem_of_getElem? hv.out)).1 ((uniqI_nd (ids xs)).sublist List.filter_sublist) 0
          have HM3 : Hid (MapIs w3 fm ((uniqI (ids xs)).filter (fun y => !decide (y ∈ ids (ys.take (k + 1)))))) := Lib.hid (by rw [HT.out, ← filter_tk]; exact hM3)
          have HB3 := Lib.hid (turn_belowN (HB.out.trans (HBX.out.mono HB.out.size)) ht3 (by simp [HFM.out]) (Nat.le_trans HB.out.size HBX.out.size))
          clear h1 h2 hv hM3 ht3 HM
          go_wp2_with (at_builtin; refine wpList_delete_run rfl _ _ 74 40 rfl _ _ rfl rfl w3 hdel ?_)
          go_roundw
          case rel => exact ⟨k + 1, by omega, by go_num, HB3, HM3⟩
          case measure => simp [intOf]; omega
        · obtain rfl : k = ys.length := by omega
          have e2 : decide ((ys.length : Int) < (ys.length : Int)) = false := decide_eq_false (by omega)
          rw [List.take_length] at HM
          have hlen2 := HM.out.len
          have HR := Lib.hid (shN_rest (ids xs) (ids ys))
          have hle2 := List.length_filter_le (fun y => !decide (y ∈ ids ys)) (uniqI (ids xs))
          rw [HU.out] at HR hle2
          obtain ⟨V, eV⟩ : ∃ V, ((uniqI (ids xs)).filter (fun y => !decide (y ∈ ids ys))).length = V := ⟨_, rfl⟩
          rw [eV] at hlen2 HR hle2
          clear eV
          go_wp2
          go_ret
          refine ⟨?_, HB.out⟩
          rw [← HR.out]
          go_num
end Go.Proofs.Ytkdepoaajhggiaa
