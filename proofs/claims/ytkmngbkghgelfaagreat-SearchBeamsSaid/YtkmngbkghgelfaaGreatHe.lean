/- The set of the IDs that a heap keeps: a map of the call's own, to nothing; and the walks of has, worst, keep and drop. -/
import Derived.Test.YtkmngbkghgelfaaGreatHd
import Derived.Test.YtkmngbkghgelfaaGreatAh
import Derived.Maps.OwnSet
import Derived.StillTailTactics
namespace Go.Proofs.YtkmngbkghgelfaaGreat
open Go.Shelf Go.RowKit Go.Lib
open Go.Sort hiding Below
open Go.Maps (Keyed Tidy)
set_option linter.unusedVariables false
theorem kLaw : Keyed Tryz.prog 76 := Maps.int_keyed Tryz.underlying76
theorem kOf {x : Int} (hx : (Lit.int .u64 x).wf = true) : keyOf Tryz.prog 76 (.int .u64 x) = some (.int .u64 x) := Maps.keyOf_int_mk Tryz.underlying76 hx
/-- Block fm is a map that has just the keys ids. -/
def MapIs (w : World) (fm : Nat) (ids : List Int) : Prop :=
  ∃ D : DataW Unit, w.ownsMap Tryz.prog 76 unitElem fm ids.length D ∧ (∀ x, Maps.has D (.int .u64 x) = decide (x ∈ ids)) ∧ Maps.size D = ids.length
theorem own_tight {w : World} {fm n : Nat} {D : DataW Unit} (h : w.ownsMap Tryz.prog 76 unitElem fm n D) : w.ownsMap Tryz.prog 76 unitElem fm (Maps.size D) D := by
  obtain ⟨es, clock, hb, F, hs, rfl⟩ := h
  exact ⟨es, clock, hb, F, by simp [Maps.size, length_sorted], rfl⟩
theorem MapIs.made (w : World) : MapIs (w.alloc (.map #[] 0)) w.heap.size [] := ⟨.map [], World.ownsMap_made w _ _ _, fun x => by simp [Maps.has], rfl⟩
theorem MapIs.perm {w : World} {fm : Nat} {ids ids' : List Int} (h : MapIs w fm ids) (hp : ids.Perm ids') : MapIs w fm ids' := by
  obtain ⟨D, h1, h2, h3⟩ := h
  exact ⟨D, by rw [← hp.length_eq]; exact h1, fun x => by rw [h2 x]; simp [hp.mem_iff], by rw [h3, hp.length_eq]⟩
theorem MapIs.lt {w : World} {fm : Nat} {ids : List Int} (h : MapIs w fm ids) : fm < w.heap.size := by
  obtain ⟨D, h1, _⟩ := h; exact h1.lt
theorem MapIs.turn {w w' : World} {A : List Nat} {fm : Nat} {ids : List Int} (h : MapIs w fm ids) (k : Turn A w w') (hn : fm ∉ A) : MapIs w' fm ids := by
  obtain ⟨D, ⟨es, clock, hb, r⟩, h2, h3⟩ := h
  exact ⟨D, ⟨es, clock, (k.block fm (Array.getElem?_eq_some_iff.1 hb).1 hn).trans hb, r⟩, h2, h3⟩
theorem MapIs.apart {w : World} {fm b : Nat} {ids : List Int} {t : TypeId} {cs : Array Value} (h : MapIs w fm ids) (hb : Whole w b t cs) : fm ≠ b := fun e => by
  obtain ⟨D, ⟨es, clock, h1, r⟩, _⟩ := h
  subst e
  rw [show w.heap[fm]? = _ from hb] at h1
  cases h1
theorem MapIs.apart_row {w : World} {fm base n size : Nat} {ids : List Int} {e : TypeId} {v : Value} {xs : List Value} (h : MapIs w fm ids) (ho : w.ownsRow base e size v n xs) : v.ownBlock ≠ some fm := fun hv => by
  obtain ⟨D, ⟨es, clock, h1, r⟩, _⟩ := h
  rcases ho.2 with ⟨rfl, _⟩ | ⟨g', cap, cur, rfl, _, hg, _⟩
  · simp [Value.ownBlock] at hv
  · obtain rfl : g' = fm := by simpa [Value.ownBlock] using hv
    rw [h1] at hg
    cases hg
theorem turn_map {w w' : World} {fm : Nat} (h : w.mapTurned w' fm) : Turn [fm] w w' := Turn.of_grown (r := some fm) h.grown
theorem MapIs.store {w : World} {fm : Nat} {ids : List Int} (h : MapIs w fm ids) {x : Int} (hx : (Lit.int .u64 x).wf = true) (hn : x ∉ ids) (hs : ids.length < 1000000) :
    ∃ w', (Instr.mapUpdate 101 (.map (some fm)) (.int .u64 x) (.agg #[])).run Tryz.prog w = .ok () w' ∧ MapIs w' fm (ids ++ [x]) ∧ Turn [fm] w w' := by
  obtain ⟨D, h1, h2, h3⟩ := h
  obtain ⟨w', hr, ho, ht⟩ := h1.store kLaw Tryz.underlying101 (by unfold maxLen; omega) (kOf hx) (unitElem_mk (H := Unit))
  refine ⟨w', hr, ⟨_, by rw [List.length_append, List.length_singleton]; exact ho, fun y => ?_, ?_⟩, turn_map ht⟩
  · by_cases e : y = x
    · subst e
      rw [Maps.has_put_same h1.isMap (kLaw.key (kOf hx))]
      simp
    · rw [Maps.has_put_other (by simpa using e), h2 y]
      simp [e]
  · rw [Maps.size_put (h1.tidy kLaw), h2 x, h3]
    simp [hn]
theorem MapIs.drop {w : World} {fm : Nat} {ids ids' : List Int} (h : MapIs w fm ids) {x : Int} (hx : (Lit.int .u64 x).wf = true) (hp : (x :: ids').Perm ids) (hn : ids.Nodup) (ty : TypeId) :
    ∃ w', (Builtin.delete_ #[101, 76] ty #[.map (some fm), .int .u64 x]).run Tryz.prog w = .ok (.tuple #[]) w' ∧ MapIs w' fm ids' ∧ Turn [fm] w w' := by
  obtain ⟨D, h1, h2, h3⟩ := h
  obtain ⟨w', hr, ho, ht⟩ := h1.drop kLaw Tryz.underlying101 (kOf hx) ty
  have hm : x ∈ ids := hp.subset (by simp)
  have hn' : (x :: ids').Nodup := hp.nodup_iff.2 hn
  have hsz : Maps.size (D.del (.int .u64 x)) = ids'.length := by
    have := Maps.size_del (h1.tidy kLaw) (k := .int .u64 x)
    rw [h2 x, h3, ← hp.length_eq] at this
    simp [hm] at this
    exact this
  refine ⟨w', hr, ⟨_, by rw [← hsz]; exact own_tight ho, fun y => ?_, hsz⟩, turn_map ht⟩
  by_cases e : y = x
  · subst e
    rw [Maps.has_del_same]
    simp at hn'
    simp [hn'.1]
  · rw [Maps.has_del_other (by simpa using e), h2 y]
    have := hp.mem_iff (a := y)
    simp [e] at this
    simp [this]
theorem resCell {P : Program} {fn : Func} {p : Tmp} {ty : TypeId} (h : fn.results = #[.cell p ty]) (tmps : Array Value) (w : World) :
    (results fn tmps).run P w = ((asAddr (tmps.getD p undef)).run P w).andThen fun a w₁ => (loadVar ty a).run P w₁ := by
  simp only [results, h]
  simp [Sem.run_bind, Result.andThen]
theorem zero61 (w : World) : (zeroValue 191).run Tryz.prog w = .ok (.agg #[]) w := by kernel_rfl
/-- A heap in block b: at most 'most' hits of unlike IDs, the worst first; the IDs in the map fm. -/
structure HeapAt (w : World) (b fm most : Nat) (v : Value) (n : Nat) (L : List (Int × Int)) : Prop where
  at_ : LAt w b (.map (some fm)) most v n L
  map : MapIs w fm (L.map (·.1))
  nd : (L.map (·.1)).Nodup
  wf : ∀ x ∈ L, HitOk x
  le : n ≤ most
  cap : most ≤ 256
set_option maxRecDepth 100000 in
theorem hpHas_any (b fm most : Nat) (v : Value) (n : Nat) (L : List (Int × Int)) (x : Int) (w : World) (h : HeapAt w b fm most v n L) (hx : (Lit.int .u64 x).wf = true) :
    Calls Tryz.prog 125 #[.pointer (some ⟨b, 0, none⟩), .int .u64 x] w fun e w' => e = .returned (.bool (decide (x ∈ L.map (·.1)))) ∧ ∃ q os', w' = grow (w.drewN q) os' := by
  have c1 : w.cell? ⟨b, 1, none⟩ = some (.map (some fm)) := h.at_.blk.cell 1
  obtain ⟨D, h1, h2, h3⟩ := h.map
  have hk := kOf hx
  have E := Lib.hid (h2 x)
  clear h h2
  go_enter Tryz.func125, Tryz.ntmps125
  go_wp2_with (first | (at_lookup; refine wpList_lookup_own_unit _ rfl _ _ 101 rfl 76 191 kLaw Tryz.underlying101 (zero61 _) fm _ D rfl h1 _ _ rfl hk ?_) | go_in)
  go_ret
  exact ⟨by rw [← E.out]; rfl, 0, _, alloc_eq_grow _ _⟩
set_option maxRecDepth 100000 in
theorem worst_any (b most : Nat) (m : Value) (g c q : Nat) (L : List (Int × Int)) (w : World) (h : LAt w b m most (.slice (some ⟨g, 0, none⟩) (q + 1) c) (q + 1) L) :
    Calls Tryz.prog 127 #[.pointer (some ⟨b, 0, none⟩)] w fun e w' => e = .returned (.agg #[.int .u64 (top L).1, .int .i64 (top L).2]) ∧ ∃ q os', w' = grow (w.drewN q) os' := by
  have c0 : w.cell? ⟨b, 0, none⟩ = some (.slice (some ⟨g, 0, none⟩) (q + 1) c) := h.blk.cell 0
  obtain ⟨R, hn, _⟩ := own_rowK h.row
  have k := cellsH R.hH (i := 0) (by simp; omega)
  have k1 : w.cell? ⟨g, 0, none⟩ = some (.int .u64 (top L).1) := k.1
  have k2 : w.cell? ⟨g, 1, none⟩ = some (.int .i64 (top L).2) := k.2
  have hb := h.blk.lt
  have hg : g < w.heap.size := World.block_lt_of_cell? w _ k1
  have z : (0 : Int) < (q : Int) + 1 := by omega
  clear R hn h k
  go_enter Tryz.func127, Tryz.ntmps127
  go_wp2
  (try simp only [Exit.inBlock, Exit.then])
  refine bodyPost_ret (v := .agg #[.int .u64 (top L).1, .int .i64 (top L).2]) (by rw [resCell rfl]; go_simp) rfl ?_
  exact ⟨rfl, 0, _, alloc_eq_grow _ _⟩
theorem turn_grow (w : World) (q : Nat) (os : Array Obj) : Turn [] w (grow (w.drewN q) os) :=
  ⟨rfl, rfl, rfl, by rw [size_grow]; show w.heap.size ≤ w.heap.size + _; omega, fun k hk _ => by rw [heap_grow_old _ _ (show k < (w.drewN q).heap.size from hk)]; rfl⟩
/-- The footprint of a heap. -/
def foot (b fm : Nat) (v : Value) : List Nat := b :: fm :: v.ownBlock.toList
theorem LAt.turn {A : List Nat} {w w' : World} {b : Nat} {m : Value} {most : Int} {v : Value} {n : Nat} {L : List (Int × Int)} (h : LAt w b m most v n L) (k : Turn A w w') (hb : b ∉ A) (hv : ∀ g, v.ownBlock = some g → g ∉ A) : LAt w' b m most v n L :=
  ⟨h.blk.turn k hb, own_turn h.row k hv, h.hp⟩
theorem HeapAt.turn {A : List Nat} {w w' : World} {b fm most : Nat} {v : Value} {n : Nat} {L : List (Int × Int)} (h : HeapAt w b fm most v n L) (k : Turn A w w') (hd : ∀ f ∈ foot b fm v, f ∉ A) : HeapAt w' b fm most v n L :=
  ⟨h.at_.turn k (hd b (by simp [foot])) (fun g hg => hd g (by simp [foot, hg])), h.map.turn k (hd fm (by simp [foot])), h.nd, h.wf, h.le, h.cap⟩
theorem HeapAt.lt {w : World} {b fm most : Nat} {v : Value} {n : Nat} {L : List (Int × Int)} (h : HeapAt w b fm most v n L) : ∀ f ∈ foot b fm v, f < w.heap.size := fun f hf => by
  simp only [foot, List.mem_cons, Option.mem_toList] at hf
  rcases hf with rfl | rfl | hf
  · exact h.at_.blk.lt
  · exact h.map.lt
  · exact (h.at_.row.lt f hf).2
def KeepYes (b fm most : Nat) (v : Value) (n : Nat) (L : List (Int × Int)) (z : Int × Int) (w : World) (e : Ending) (w' : World) : Prop :=
  e = .returned (.tuple #[]) ∧ ∃ g c L', HeapAt w' b fm most (.slice (some ⟨g, 0, none⟩) (n + 1) c) (n + 1) L' ∧ L'.Perm (L ++ [z]) ∧ Turn (foot b fm v) w w' ∧ (v.ownBlock = some g ∨ w.heap.size ≤ g)
theorem ids_perm {L L' : List (Int × Int)} {z : Int × Int} (h : L'.Perm (L ++ [z])) : (L.map (·.1) ++ [z.1]).Perm (L'.map (·.1)) := by
  have := (h.map (·.1)).symm
  simpa using this
set_option maxRecDepth 100000 in
set_option maxHeartbeats 1000000 in
theorem hpKeep_any (b fm most : Nat) (v : Value) (n : Nat) (L : List (Int × Int)) (x y : Int) (w : World) (h : HeapAt w b fm most v n L) (hx : HitOk (x, y)) (hn : x ∉ L.map (·.1)) (hl : n < most) :
    Calls Tryz.prog 129 #[.pointer (some ⟨b, 0, none⟩), .agg #[.int .u64 x, .int .i64 y]] w (KeepYes b fm most v n L (x, y) w) := by
  have hcap := h.cap
  have HLN := Lib.hid h.at_.len
  have HN := Lib.hid hn
  have t0 : Turn [] w (w.alloc (.cells #[.int .u64 x, .int .i64 y] 78)) := (Turn.refl _ _).alloc _
  have W0 := Whole.new w 78 #[.int .u64 x, .int .i64 y]
  have h0 := h.turn t0 (fun f _ => by simp)
  have HH := Lib.hid h
  clear h
  go_enter Tryz.func129, Tryz.ntmps129
  go_wp2
  generalize w.alloc (.cells #[.int .u64 x, .int .i64 y] 78) = w0 at t0 W0 h0 ⊢
  generalize hp : w.heap.size = p at W0 ⊢
  have HP := Lib.hid hp
  clear hp
  refine wp_region_still_tail 6 (by kernel_rfl) (by kernel_rfl) ?_
  simp only [List.take_succ_cons, List.take_zero, List.drop_succ_cons, List.drop_zero]
  have t1 : Turn [] w w0.drew := t0.drew
  have W1 : Whole w0.drew p 78 #[.int .u64 x, .int .i64 y] := W0
  have h1 : HeapAt w0.drew b fm most v n L := h0.turn (A := []) ((Turn.refl _ w0).drew) (fun f _ => by simp)
  change wpStill _ _ w0.drew (fun a' => wpList _ _ _ _ a' w0.drew) _ _
  generalize w0.drew = w1 at t1 W1 h1 ⊢
  have k1 : w1.cell? ⟨p, 0, none⟩ = some (.int .u64 x) := W1.cell 0
  have k2 : w1.cell? ⟨p, 1, none⟩ = some (.int .i64 y) := W1.cell 1
  have H1 := Lib.hid (hPush_any b n _ _ v L x y w1 h1.at_ (by omega))
  have HB := Lib.hid (⟨t1, W1, h1⟩ : _ ∧ _ ∧ _)
  clear t0 W0 h0 t1 W1 h1
  still_step
  still_step
  still_step
  still_step
  still_step
  still_step
  refine wpStill_nil ?_
  go_wp2_with fail
  refine H1.out.mono ?_
  rintro e w2 ⟨rfl, g, c, L', hL', hpm, ht2, hat⟩
  obtain ⟨t1, W1, h1⟩ := HB.out
  have hpn : p ∉ b :: v.ownBlock.toList := fun hm => by
    have := HH.out.lt p (by simp only [foot, List.mem_cons] at hm ⊢; rcases hm with h | h; exact .inl h; exact .inr (.inr h))
    have := HP.out; omega
  have W2 := W1.turn ht2 hpn
  have k3 : w2.cell? ⟨p, 0, none⟩ = some (.int .u64 x) := W2.cell 0
  have k4 : w2.cell? ⟨b, 1, none⟩ = some (.map (some fm)) := hL'.blk.cell 1
  have hfm : fm ∉ b :: v.ownBlock.toList := fun hm => by
    simp only [List.mem_cons, Option.mem_toList] at hm
    rcases hm with h | h
    · exact h1.map.apart h1.at_.blk h
    · exact h1.map.apart_row h1.at_.row h
  have m2 : MapIs w2.drew fm (L.map (·.1)) := (h1.map.turn ht2 hfm).turn (A := []) ((Turn.refl _ w2).drew) (by simp)
  obtain ⟨w3, hr, m3, t3⟩ := m2.store hx.1 hn (by have := HLN.out; simp; omega)
  have HE := Lib.hid (⟨hL', hpm, ht2, hat, m3, t3, h1.map.turn ht2 hfm⟩ : _ ∧ _ ∧ _ ∧ _ ∧ _ ∧ _ ∧ _)
  clear H1 hL' hpm ht2 hat m3 t3 t1 W1 h1 W2 m2 hpn hfm k1 k2 hn
  go_wp2
  refine wp_region_still_tail 7 (by kernel_rfl) (by kernel_rfl) ?_
  simp only [List.take_succ_cons, List.take_zero, List.drop_succ_cons, List.drop_zero]
  have k5 : w2.drew.cell? ⟨p, 0, none⟩ = some (.int .u64 x) := k3
  have k6 : w2.drew.cell? ⟨b, 1, none⟩ = some (.map (some fm)) := k4
  have HT := Lib.hid ((Turn.refl [] w2).drew)
  change wpStill _ _ w2.drew (fun a' => wpList _ _ _ _ a' w2.drew) _ _
  clear k3 k4
  generalize w2.drew = w4 at hr k5 k6 HE HT ⊢
  still_step
  still_step
  still_step
  still_step
  still_step
  still_step
  still_step
  refine wpStill_nil ?_
  go_wp2
  go_end0
  obtain ⟨hL', hpm, ht2, hat, m3, t3, m2⟩ := HE.out
  obtain ⟨t1, W1, h1⟩ := HB.out
  have hbf : fm ≠ b := m2.apart hL'.blk
  have hgf : g ≠ fm := fun e => m2.apart_row hL'.row (by rw [e]; rfl)
  have hh := HH.out
  have t12 : Turn (foot b fm v) w w2 := (t1.more (B := foot b fm v) (fun a ha => by simp at ha)).trans ht2 (fun a ha => .inl (by simp only [foot, List.mem_cons] at ha ⊢; rcases ha with h | h; exact .inl h; exact .inr (.inr h)))
  have t23 := HT.out.more (B := [fm]) (fun a ha => by simp at ha) |>.trans t3 (fun a ha => .inl ha)
  have hL3 := (hL'.turn HT.out (by simp) (fun g' _ => by simp)).turn t3 (by simpa using Ne.symm hbf) (fun g' hg' => by simp [Value.ownBlock] at hg'; subst hg'; simpa using hgf)
  refine ⟨rfl, g, c, L', ⟨hL3, m3.perm (ids_perm hpm), (hpm.map (·.1)).nodup_iff.2 ?_, fun z hz => ?_, by omega, hcap⟩, hpm, t12.trans t23 (fun a ha => .inl (by simp at ha; simp [foot, ha])), hat.imp id (fun h => Nat.le_trans t1.size h)⟩
  · rw [List.map_append, List.nodup_append]
    refine ⟨hh.nd, by simp, fun a ha b hb e => ?_⟩
    simp at hb
    exact HN.out (by rw [← hb, ← e]; exact ha)
  · have := hpm.subset hz
    simp only [List.mem_append, List.mem_singleton] at this
    rcases this with h | h
    · exact hh.wf z h
    · rw [h]; exact hx
theorem wpList_delete_run {P : Program} {w : World} {ops : Array Oper} {rest : List Oper} {o : Oper} {a : Act} {Q : Exit → Act → World → Prop} (hg : o.guard = none) (m x : Operand) (t k : TypeId)
    (hop : o.op = Op.call { callee := Callee.builtin Builtin.delete, args := #[m, x], argTypes := #[t, k] }) (vm vx : Value) (hm : a.eval m = vm) (hx : a.eval x = vx) (w' : World)
    (hrun : (Builtin.delete_ #[t, k] o.type #[vm, vx]).run P w = .ok (.tuple #[]) w') (hK : wpList P ops Q rest (a.put o.dst (.tuple #[])) w') : wpList P ops Q (o :: rest) a w := by
  refine wpList_plain hg fun K' hK' => ?_
  unfold Oper.wp
  simp [execOp, hop, resolve, invoke, builtin, hm, hx, hrun, Result.andThen]
  exact hK' _ _ hK
def DropYes (b fm most g c q : Nat) (L : List (Int × Int)) (w : World) (e : Ending) (w' : World) : Prop :=
  e = .returned (.agg #[.int .u64 (top L).1, .int .i64 (top L).2]) ∧ ∃ L', HeapAt w' b fm most (.slice (some ⟨g, 0, none⟩) q c) q L' ∧ (top L :: L').Perm L ∧ Turn [b, fm, g] w w'
set_option maxRecDepth 100000 in
set_option maxHeartbeats 1000000 in
theorem hpDrop_any (b fm most g c q : Nat) (L : List (Int × Int)) (w : World) (h : HeapAt w b fm most (.slice (some ⟨g, 0, none⟩) (q + 1) c) (q + 1) L) :
    Calls Tryz.prog 128 #[.pointer (some ⟨b, 0, none⟩)] w (DropYes b fm most g c q L w) := by
  have hcap := h.cap
  have hle := h.le
  have t0 : Turn [] w (w.alloc (.cells #[.int .u64 0, .int .i64 0] 78)) := (Turn.refl _ _).alloc _
  have W0 := Whole.new w 78 #[.int .u64 0, .int .i64 0]
  have h0 := h.turn t0 (fun f _ => by simp)
  have HH := Lib.hid h
  have hta := ta28
  clear h
  go_enter Tryz.func128, Tryz.ntmps128
  go_wp2_with fail
  generalize w.alloc (.cells #[.int .u64 0, .int .i64 0] 78) = w0 at t0 W0 h0 ⊢
  generalize hp : w.heap.size = p at W0 ⊢
  have HP := Lib.hid hp
  clear hp
  refine (hPop_any b q g c _ _ L w0 h0.at_ (by omega)).mono ?_
  rintro e w1 ⟨rfl, L', hL', hpm, ht1⟩
  have hpn : p ∉ [b, g] := fun hm => by
    have := HH.out.lt p (by simp [foot, Value.ownBlock]; simp at hm; rcases hm with h | h; exact .inl h; exact .inr (.inr h))
    have := HP.out; omega
  have W1 := W0.turn ht1 hpn
  have hfm : fm ∉ [b, g] := fun hm => by
    simp only [List.mem_cons, List.not_mem_nil, or_false] at hm
    rcases hm with h | h
    · exact h0.map.apart h0.at_.blk h
    · exact h0.map.apart_row h0.at_.row (by rw [h]; rfl)
  have m1 := h0.map.turn ht1 hfm
  have HB := Lib.hid (⟨t0, h0.nd, h0.wf, hL', hpm, ht1, m1⟩ : _ ∧ _ ∧ _ ∧ _ ∧ _ ∧ _ ∧ _)
  have htw : HitOk (top L) := h0.wf _ (top_mem (by have := h0.at_.len; omega))
  have hbs := hL'.blk.lt
  have k1 : w1.cell? ⟨b, 1, none⟩ = some (.map (some fm)) := hL'.blk.cell 1
  have hps : p < w1.heap.size := W1.lt
  have HW1 := Lib.hid W1
  clear h0 t0 W0 hL' hpm ht1 m1 W1 hpn hfm
  go_wp2
  have W2 := Whole.new w1 78 #[.int .u64 (top L).1, .int .i64 (top L).2]
  have t2 : Turn [] w1 (w1.alloc (.cells #[.int .u64 (top L).1, .int .i64 (top L).2] 78)) := (Turn.refl _ _).alloc _
  generalize w1.alloc (.cells #[.int .u64 (top L).1, .int .i64 (top L).2] 78) = w2 at W2 t2 ⊢
  generalize hr : w1.heap.size = r at W2 hbs hps ⊢
  have HR := Lib.hid hr
  clear hr
  refine wp_region_still_tail 6 (by kernel_rfl) (by kernel_rfl) ?_
  simp only [List.take_succ_cons, List.take_zero, List.drop_succ_cons, List.drop_zero]
  have t3 : Turn [] w1 w2.drew := t2.drew
  have W3 : Whole w2.drew r 78 #[.int .u64 (top L).1, .int .i64 (top L).2] := W2
  change wpStill _ _ w2.drew (fun a' => wpList _ _ _ _ a' w2.drew) _ _
  clear t2 W2
  generalize w2.drew = w3 at t3 W3 ⊢
  have W3p : Whole w3 p 78 #[.int .u64 0, .int .i64 0] := HW1.out.turn t3 (by simp)
  have m3 := HB.out.2.2.2.2.2.2.turn t3 (by simp)
  obtain ⟨w4, hrun, m4, t4⟩ := m3.drop htw.1 (by simpa using HB.out.2.2.2.2.1.map (·.1)) HB.out.2.1 0
  have hpf : p ≠ fm := fun e => m3.apart W3p e.symm
  have hrf : r ≠ fm := fun e => m3.apart W3 e.symm
  have W4 := W3.turn t4 (by simpa using hrf)
  have W4p := W3p.turn t4 (by simpa using hpf)
  have c1 : w3.cell? ⟨b, 1, none⟩ = some (.map (some fm)) := (t3.cell (p := ⟨b, 1, none⟩) (by have := HR.out; show b < _; omega) (by simp)).trans k1
  have c2 : w3.cell? ⟨r, 0, none⟩ = some (.int .u64 (top L).1) := W3.cell 0
  have e1 : w4.cell? ⟨r, 0, none⟩ = some (.int .u64 (top L).1) := W4.cell 0
  have e2 : w4.cell? ⟨r, 1, none⟩ = some (.int .i64 (top L).2) := W4.cell 1
  have d1 : w4.cell? ⟨p, 0, none⟩ = some (.int .u64 0) := W4p.cell 0
  have d2 : w4.cell? ⟨p, 1, none⟩ = some (.int .i64 0) := W4p.cell 1
  have f1 := W4p.frozen 0
  have f2 := W4p.frozen 1
  have HE := Lib.hid (⟨t3, m3, m4, t4⟩ : _ ∧ _ ∧ _ ∧ _)
  clear k1 m3 W3p W3 W4 W4p t3 m4 t4 hta htw
  still_step
  still_step
  still_step
  still_step
  still_step
  still_step
  refine wpStill_nil ?_
  go_wp2_with (first | (at_delete; refine wpList_delete_run rfl _ _ 101 76 rfl _ _ rfl rfl w4 hrun ?_) | go_in)
  (try simp only [Exit.inBlock, Exit.then])
  refine bodyPost_ret (v := .agg #[.int .u64 (top L).1, .int .i64 (top L).2]) (by rw [resCell rfl]; go_simp) rfl ?_
  clear hrun c1 c2 e1 e2 d1 d2 f1 f2
  obtain ⟨t0, hnd, hwf, hL', hpm, ht1, m1⟩ := HB.out
  obtain ⟨t3, m3, m4, t4⟩ := HE.out
  have hbf : b ≠ fm := fun e => m1.apart hL'.blk e.symm
  have hgf : g ≠ fm := fun e => m1.apart_row hL'.row (by rw [e]; rfl)
  have hpw : w.heap.size ≤ p := by rw [HP.out]; exact Nat.le_refl _
  have hpb : b ≠ p := by have := HH.out.at_.blk.lt; omega
  have hpg : g ≠ p := by have := HH.out.lt g (by simp [foot, Value.ownBlock]); omega
  have t5 : Turn [p] w4 ((w4.setCell ⟨p, 0, none⟩ (.int .u64 (top L).1)).setCell ⟨p, 1, none⟩ (.int .i64 (top L).2)) := ((Turn.refl _ _).setCell (p := ⟨p, 0, none⟩) (.inl (by simp)) _).setCell (p := ⟨p, 1, none⟩) (.inl (by simp)) _
  have hT : Turn [b, fm, g] w ((w4.setCell ⟨p, 0, none⟩ (.int .u64 (top L).1)).setCell ⟨p, 1, none⟩ (.int .i64 (top L).2)) :=
    (((((t0.more (B := [b, fm, g]) (fun a ha => by simp at ha)).trans ht1 (fun a ha => .inl (by simp at ha ⊢; rcases ha with h | h; exact .inl h; exact .inr (.inr h)))).trans t3 (fun a ha => by simp at ha)).trans t4 (fun a ha => .inl (by simp at ha; simp [ha]))).trans t5 (fun a ha => .inr (by simp at ha; rw [ha]; exact hpw)))
  have hLf := ((hL'.turn t3 (by simp) (fun g' _ => by simp)).turn t4 (by simpa using hbf) (fun g' hg' => by simp [Value.ownBlock] at hg'; subst hg'; simpa using hgf)).turn t5 (by simpa using hpb) (fun g' hg' => by simp [Value.ownBlock] at hg'; subst hg'; simpa using hpg)
  have hnd' : (L'.map (·.1)).Nodup := by
    have := (hpm.map (·.1)).nodup_iff.2 hnd
    simp only [List.map_cons, List.nodup_cons] at this
    exact this.2
  exact ⟨rfl, L', ⟨hLf, m4.turn t5 (by simpa using Ne.symm hpf), hnd', fun z hz => hwf z (hpm.subset (List.mem_cons_of_mem _ hz)), by omega, hcap⟩, hpm, hT⟩
end Go.Proofs.YtkmngbkghgelfaaGreat
