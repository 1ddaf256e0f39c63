/- The walk of GraphMore. -/
import Derived.Test.YtjihnkoimbcfnaaAl
import Derived.BigQuiet
import Derived.IntWalk
import Derived.Test.YtjihnkoimbcfnaaLm
import Derived.Test.YtjihnkoimbcfnaaOw
import Derived.Deep.RegionLaw
import Derived.Deep.AppendLies
import Derived.ArgAppend
namespace Go.Proofs.Ytjihnkoimbcfnaa
open Go.RowKit
set_option linter.unusedVariables false
theorem out_lt9 {G : List Pn} {i : Nat} {t : Int} (ho : t ∈ outAt G i) : i < G.length := by
  rcases Nat.lt_or_ge i G.length with h1 | h1
  · exact h1
  · unfold outAt nAt at ho
    rw [List.getElem?_eq_none h1] at ho
    simp [pNode] at ho
theorem hop_chain9 (G : List Pn) (s : Nat) : ∀ (d : Nat) (i : Nat), hopI G s i = d → i < G.length → ∃ l : List Nat, l.length = d + 1 ∧ (∀ x ∈ l, x < G.length) ∧ (∀ x ∈ l, hopI G s x ≤ d) ∧ l.Nodup := by
  intro d
  induction d with
  | zero => exact fun i h hi => ⟨[i], rfl, fun x hx => by rw [List.mem_singleton] at hx; subst hx; exact hi, fun x hx => by rw [List.mem_singleton] at hx; subst hx; omega, by simp⟩
  | succ d ih =>
    intro i h hi
    obtain ⟨p, hp, ho⟩ := hop_pred (G := G) (s := s) (j := i) (by omega)
    obtain ⟨l, h1, h2, h3, h4⟩ := ih p (by omega) (out_lt9 ho)
    refine ⟨i :: l, by simp [h1], fun x hx => ?_, fun x hx => ?_, List.nodup_cons.2 ⟨fun hm => ?_, h4⟩⟩
    · rcases List.mem_cons.1 hx with rfl | hx
      · exact hi
      · exact h2 x hx
    · rcases List.mem_cons.1 hx with rfl | hx
      · omega
      · have := h3 x hx; omega
    · have := h3 i hm; omega
theorem hop_lt9 {G : List Pn} {s i : Nat} (hi : i < G.length) : hopI G s i < (G.length : Int) := by
  by_cases h : 0 ≤ hopI G s i
  · obtain ⟨l, h1, h2, h3, h4⟩ := hop_chain9 G s (hopI G s i).toNat i (by omega) hi
    have := nodup_lt _ _ h4 h2
    omega
  · omega
theorem more_holds {G : List Pn} {s : Int} {i k : Nat} (hi : i < G.length) (hk : k < G.length) (h : holdsB G s = true) : holdsB (moreG G i k) s = true := by
  obtain ⟨h1, h2, h3, h4⟩ := holdsB_yes h
  refine decide_eq_true ⟨?_, h2, ?_, ?_⟩
  · rw [moreG_len]; exact h1
  · rw [moreG_len]; exact h3
  · rw [moreG_len]
    intro x hx t ht
    unfold moreG at hx
    rcases List.mem_or_eq_of_mem_set hx with hx | rfl
    · exact h4 x hx t ht
    · rcases List.mem_append.1 ht with ht | ht
      · exact h4 _ (nAt_mem hi) t ht
      · rw [List.mem_singleton] at ht; subst ht; omega
/-- 'append' of one number into a block that is known whole, where there is room: as a step of a drawn region. -/
theorem step_append_one {P : Program} {ops : Array Oper} {o : Oper} {a : Act} {w : World} {K : Act → World → Prop} {Q : Exit → Act → World → Prop} {E : Prop} (hgd : o.guard = none) (s x : Operand) (t : TypeId)
    (ho : o.op = .call { callee := .builtin .append, args := #[s, x], argTypes := #[t, t] })
    (e : TypeId) (i : TypeInfo) (ht : P.underlying t = some (.slice e)) (hi : P.info? e = some i) (hsize : i.size = 1)
    (g n cap : Nat) (cs : Array Value) (hW : Whole w g e cs) (hs : a.eval s = .slice (some ⟨g, 0, none⟩) n cap) (hn : n < cs.size) (hcap : n + 1 ≤ cap)
    (ad : Addr) (hx : a.eval x = .slice (some ad) 1 1) (u : Value) (hu : ∀ j v, [u][j]? = some v → w.cell? (ad.add j) = some v) (h1 : u.oneCell' = true)
    (h : K (a.put o.dst (.slice (some ⟨g, 0, none⟩) (n + 1) cap)) (w.setCell ⟨g, n, none⟩ u)) :
    if Region.wanted o (yielded ops a.tmps) = true then Oper.wp P o a w K Q else E := by
  have hw : Region.wanted o (yielded ops a.tmps) = true := by simp [Region.wanted, hgd]
  rw [if_pos hw]
  have hrun := run_append_room_cells (P := P) (w := w) t o.type e i ht hi g 0 n cap ad 1 1 [u] (by simp [hsize]) hu (fun v hv => by rw [List.mem_singleton] at hv; subst hv; exact h1) hcap (fun j hj => by
    obtain rfl : j = 0 := by simpa using hj
    rw [hW.cell, hsize, Nat.zero_add, Nat.add_zero, Nat.mul_one, Array.getElem?_eq_getElem hn]; rfl) (fun j hj => hW.frozen _)
  have e1 : w.setCells g (0 + n * i.size) [u] = w.setCell ⟨g, n, none⟩ u := by rw [hsize, Nat.zero_add, Nat.mul_one]; rfl
  rw [e1] at hrun
  unfold Oper.wp
  simp [execOp, ho, resolve, invoke, builtin, hs, hx, hrun, Result.andThen]
  exact h
/-- The twin with one neighbour more at node i. -/
theorem twin_push {w : World} {base gt i gx : Nat} {T : List Gn} {id : Int} {a1 : Option Addr} {c1 : Nat} {v o : List Int} (h : TwinG w base gt T) (hx : T[i]? = some (id, (a1, c1, v), (some ⟨gx, 0, none⟩, o.length + 1, o))) (k : Int) :
    RdG ((w.setCell ⟨gx, o.length, none⟩ (.int .i64 k)).setCell ⟨gt, i * 3 + 2, none⟩ (.slice (some ⟨gx, 0, none⟩) (o.length + 1) (o.length + 1))) w.heap.size (some ⟨gt, 0, none⟩) (T.set i (id, (a1, c1, v), (some ⟨gx, 0, none⟩, o.length + 1, o ++ [k]))) := by
  have hi : i < T.length := (List.getElem?_eq_some_iff.1 hx).1
  have hm := List.mem_of_getElem? hx
  obtain ⟨gx', hgx', _, hW⟩ := (h.to _ hm).whole
  have e : gx' = gx := by injection hgx' with q; injection q with q _; exact q.symm
  subst e
  have hgl := h.row.lt gt rfl
  have hfx := own_far (base := base) h.own hW (by decide) o.length (.int .i64 k)
  have hne : gt ≠ gx' := fun e => own_apart h.row hW (by decide) (by rw [e]; rfl)
  have r1 := h.rd.below (Below.refl _ _)
  have hrow : ∃ cur, Whole w gt 65 cur ∧ i * 3 + 2 < cur.size := by
    rcases h.row.2 with ⟨h0, _⟩ | ⟨g', cap, cur, e, hb, hh, hc1, hc2, hsz, htk⟩
    · cases h0
    · injection e with e1 e2 e3
      injection e1 with e1
      injection e1 with e1
      subst e1
      exact ⟨cur, hh, by rw [hsz]; omega⟩
  obtain ⟨cur, hcur, hcs⟩ := hrow
  have hcur2 : Whole (w.setCell ⟨gx', o.length, none⟩ (.int .i64 k)) gt 65 cur := hcur.far (a := ⟨gx', o.length, none⟩) hne _
  have hset := hcur2.set (i * 3 + 2) (.slice (some ⟨gx', 0, none⟩) (o.length + 1) (o.length + 1))
  have hWx := (hW.set o.length (.int .i64 k)).far (a := ⟨gt, i * 3 + 2, none⟩) (fun e => hne e.symm) (.slice (some ⟨gx', 0, none⟩) (o.length + 1) (o.length + 1))
  obtain ⟨b0, off, hA, _, hcells⟩ := h.rd (by omega)
  injection hA with hA
  injection hA with q1 q2
  subst q1
  subst q2
  have hci := hcells i hi
  rw [hx] at hci
  obtain ⟨k0, k1, k2, k3, k4⟩ := hci
  rw [Nat.zero_add] at k0 k1 k2
  have hoth : ∀ p, p ≠ i * 3 + 2 → ((w.setCell ⟨gx', o.length, none⟩ (.int .i64 k)).setCell ⟨gt, i * 3 + 2, none⟩ (.slice (some ⟨gx', 0, none⟩) (o.length + 1) (o.length + 1))).cell? ⟨gt, p, none⟩ = w.cell? ⟨gt, p, none⟩ := fun p hp => by
    rw [World.cell?_setCell_other _ _ _ _ (fun e => by injection e with e1 e2; omega), World.cell?_setCell_other _ _ _ _ (fun e => by injection e with e1 e2; exact hne (by omega))]
  have hlist : (o ++ [(77 : Int)]).set o.length k = o ++ [k] := by simp
  rw [cellsI_set, hlist] at hWx
  refine RdG.patch (x' := (id, (a1, c1, v), (some ⟨gx', 0, none⟩, o.length + 1, o ++ [k]))) h.rd hi hgl.2 (fun p p1 p2 p3 => hoth p p3) ((hoth _ (by omega)).trans k0) ((hoth _ (by omega)).trans k1) ?_ (fun j x hj hxj => ?_) ⟨?_, ?_⟩
  · rw [hset.cell]
    rw [Array.getElem?_setIfInBounds_self_of_lt hcs]
    simp
  · have hmj := List.mem_of_getElem? hxj
    have hjl : j < T.length := (List.getElem?_eq_some_iff.1 hxj).1
    have hneo : x.2.2.1 ≠ some ⟨gx', 0, none⟩ := by
      have hp := List.pairwise_iff_getElem.1 h.ao
      have ex : T[j] = x := by rw [List.getElem?_eq_getElem hjl] at hxj; injection hxj
      have ei : T[i] = (id, (a1, c1, v), (some ⟨gx', 0, none⟩, o.length + 1, o)) := by rw [List.getElem?_eq_getElem hi] at hx; injection hx
      rcases Nat.lt_or_ge j i with q | q
      · have := hp j i hjl hi q; rw [ex, ei] at this; exact this
      · have := hp i j hi hjl (by omega); rw [ex, ei] at this; exact fun e => this e.symm
    have t1 := ((h.to x hmj).other hneo o.length (.int .i64 k)).set hcur2 (by decide) (i * 3 + 2) (.slice (some ⟨gx', 0, none⟩) (o.length + 1) (o.length + 1))
    have t2 := ((h.tv x hmj).set hW (by decide) o.length (.int .i64 k)).set hcur2 (by decide) (i * 3 + 2) (.slice (some ⟨gx', 0, none⟩) (o.length + 1) (o.length + 1))
    have z1 := t1.rd0
    have z2 := t2.rd0
    simp only [World.size_setCell] at z1 z2
    exact ⟨z2, z1⟩
  · have t2 := ((h.tv _ hm).set hW (by decide) o.length (.int .i64 k)).set hcur2 (by decide) (i * 3 + 2) (.slice (some ⟨gx', 0, none⟩) (o.length + 1) (o.length + 1))
    have z2 := t2.rd0
    simp only [World.size_setCell] at z2
    exact z2
  · intro _
    refine ⟨gx', 0, rfl, hW.lt, fun j hj => ?_⟩
    rw [Nat.zero_add, hWx.cell, cellsI_at hj]
    unfold hAt
    rw [List.getElem?_eq_getElem hj]
    rfl
theorem twin_block {w : World} {base gt : Nat} {T : List Gn} (h : TwinG w base gt T) (p : Nat) (hp : p < (T.length + 1) * 3) : ∃ cur, Whole w gt 65 cur ∧ p < cur.size := by
  rcases h.row.2 with ⟨h0, _⟩ | ⟨g', cap, cur, e, hb, hh, hc1, hc2, hsz, htk⟩
  · cases h0
  · injection e with e1 e2 e3
    injection e1 with e1
    injection e1 with e1
    subst e1
    exact ⟨cur, hh, by rw [hsz]; omega⟩
theorem pns_push {T L : List Gn} (hv : pns T = pns L) {i : Nat} {id : Int} {a1 : Option Addr} {c1 : Nat} {v o : List Int} {x2 : Option Addr} {c2 c3 : Nat} (hx : T[i]? = some (id, (a1, c1, v), (x2, c2, o))) (k : Nat) : pns (T.set i (id, (a1, c1, v), (x2, c3, o ++ [(k : Int)]))) = moreG (pns L) i k := by
  unfold pns at *
  rw [List.map_set, hv]
  unfold moreG
  have e : nAt (L.map pn) i = (id, v, o) := nAt_get (by rw [← hv]; simp [hx, pn])
  rw [e]
  rfl
theorem row_cell9 {w : World} {base g n c : Nat} {e : TypeId} {xs : List Int} (o : w.ownsRow base e 1 (.slice (some ⟨g, 0, none⟩) n c) n (xs.map (Value.int .i64))) {j : Nat} {x : Int} (hj : j < xs.length) (hx : xs[j]? = some x) : w.cell? ⟨g, j, none⟩ = some (.int .i64 x) := by
  obtain ⟨b, off, hA, _, hc⟩ := own_rdK o (by omega)
  injection hA with hA
  injection hA with q1 q2
  have := hc j hj
  rw [hx] at this
  rw [q1, ← q2, Nat.zero_add] at *
  exact this
theorem rem_int9 (x n : Nat) : Int.tmod (x : Int) (n : Int) = ((x % n : Nat) : Int) := rfl
theorem u16_of_wf9 {n : Int} (h : (Lit.int .u16 n).wf = true) : 0 ≤ n ∧ n ≤ 65535 := by
  have h1 : IntKind.u16.min = 0 := rfl
  have h2 : IntKind.u16.max = 65535 := rfl
  simp only [Lit.wf, Bool.and_eq_true, decide_eq_true_eq] at h
  omega
set_option maxRecDepth 100000 in
set_option maxHeartbeats 8000000 in
theorem graphMore_main (A : Option Addr) (c : Nat) (L : List Gn) (s p q : Int) (w : World) (hx : GGiven w A L) (wp : (Lit.int .u16 p).wf = true) (wq : (Lit.int .u16 q).wf = true) :
    Calls Try.prog 10 #[.agg #[.slice A L.length c, .int .i64 s], .int .u16 p, .int .u16 q] w fun e w' => e = .returned (.bool true) ∧ Below w.heap.size w w' := by
  have HW0 := Lib.hid (Whole.new w 24 #[.slice A L.length c, .int .i64 s])
  have HB0 := Lib.hid (below_one (Below.refl w.heap.size w) (.cells #[.slice A L.length c, .int .i64 s] 24))
  have HX := Lib.hid hx
  have up := u16_of_wf9 wp
  have uq := u16_of_wf9 wq
  obtain ⟨pN, rfl⟩ := Int.eq_ofNat_of_zero_le up.1
  obtain ⟨qN, rfl⟩ := Int.eq_ofNat_of_zero_le uq.1
  have hpN : pN ≤ 65535 := by omega
  have hqN : qN ≤ 65535 := by omega
  clear hx wp wq up uq
  go_enter Try.func10, Try.ntmps10
  go_wp2_with fail
  obtain ⟨w1, ew1⟩ : ∃ w1, w.alloc (.cells #[.slice A L.length c, .int .i64 s] 24) = w1 := ⟨_, rfl⟩
  rw [ew1] at HW0 HB0 ⊢
  obtain ⟨g, eg⟩ : ∃ g, w.heap.size = g := ⟨_, rfl⟩
  rw [eg] at HW0 ⊢
  have HG := Lib.hid eg
  clear ew1 eg
  refine (alive_any w1).mono ?_
  rintro e w2 ⟨rfl, b2⟩
  dsimp only
  have HB2 := Lib.hid (HB0.out.trans (b2.mono HB0.out.size))
  have Z2 := HW0.out.below b2 HW0.out.lt
  have HZ2 := Lib.hid Z2
  have y0 := Z2.cell 0
  have y1 := Z2.cell 1
  clear Z2 b2 HB0 HW0
  go_wp2_with fail
  refine (great9_any A c L s w2 (HX.out.below HB2.out)).mono ?_
  rintro e w3 ⟨⟨gb, rfl, hgb⟩, b3⟩
  dsimp only
  have HB3 := Lib.hid (HB2.out.trans (b3.mono HB2.out.size))
  cases gb with
  | true =>
    clear hgb y0 y1
    go_wp2_with fail
    refine (alive_any w3).mono ?_
    rintro e w4 ⟨rfl, b4⟩
    dsimp only
    go_wp2
    go_ret
    exact ⟨rfl, HB3.out.trans (b4.mono HB3.out.size)⟩
  | false =>
    have HSM := Lib.hid (hgb rfl)
    have Z3 := HZ2.out.below b3 HZ2.out.lt
    have HZ3 := Lib.hid Z3
    clear hgb y0 y1 b3 HZ2 HB2
    have HAR : Hid (GArg w A L) := Lib.hid (HX.out.arg HSM.out)
    have y0 := Z3.cell 0
    have y1 := Z3.cell 1
    clear Z3
    have hL : L.length ≤ 20000 := by have := HSM.out.len; rwa [pns_len] at this
    by_cases hn : 0 < L.length
    case neg =>
      have ez : ((L.length : Int) == 0) = true := beq_iff_eq.2 (by omega)
      go_wp2_with fail
      refine (alive_any w3).mono ?_
      rintro e w4 ⟨rfl, b4⟩
      dsimp only
      go_wp2
      go_ret
      exact ⟨rfl, HB3.out.trans (b4.mono HB3.out.size)⟩
    have ez : ((L.length : Int) == 0) = false := by rw [beq_eq_false_iff_ne]; omega
    cases hh : holdsB (pns L) s with
    | false =>
      have C1 := hops_any A c L s w3 (HAR.out.below HB3.out)
      have E1 : hopsA (pns L) s = [] := by unfold hopsA; rw [hh]; rfl
      rw [E1, hh, show errG false = 1 from rfl] at C1
      clear hh E1
      go_wp2_with fail
      refine C1.mono ?_
      rintro e w4 ⟨V4, m4, rfl, o4, b4⟩
      dsimp only
      clear C1 o4
      go_wp2
      go_ret
      exact ⟨rfl, HB3.out.trans (b4.mono HB3.out.size)⟩
    | true =>
      have C1 := hops_any A c L s w3 (HAR.out.below HB3.out)
      have E1 : hopsA (pns L) s = hopsL (pns L) s := by unfold hopsA; rw [hh]; rfl
      have HHB := Lib.hid hh
      have HLN := Lib.hid (pns_len L)
      have hHl : (hopsL (pns L) s).length = L.length := by rw [hopsL_len, HLN.out]
      rw [E1, hh, show errG true = 0 from rfl] at C1
      obtain ⟨H, eH⟩ : ∃ H, hopsL (pns L) s = H := ⟨_, rfl⟩
      have HHA : Hid (∀ i, i < L.length → H[i]? = some (hopI (pns L) s.toNat i)) := Lib.hid (fun i hi => by rw [← eH]; exact hopsL_at (by rw [HLN.out]; exact hi))
      rw [eH] at C1 hHl
      clear hh E1 eH
      go_wp2_with fail
      refine C1.mono ?_
      rintro e w4 ⟨V4, m4, rfl, o4, b4⟩
      dsimp only
      rw [hHl] at o4
      rw [hHl]
      obtain ⟨g4, rfl, -⟩ := own_some o4 hn
      have HB4 := Lib.hid (HB3.out.trans (b4.mono HB3.out.size))
      have Z4 := HZ3.out.below b4 HZ3.out.lt
      have HZ4 := Lib.hid Z4
      have O4 := Lib.hid o4
      clear y0 y1 C1 o4
      have y0 := Z4.cell 0
      have y1 := Z4.cell 1
      clear Z4 b4 HZ3 HB3
      have e1 : IntKind.i64.wrap (pN : Int) = (pN : Int) := IntWalk.i64_in _ (by omega)
      have e2 : IntKind.i64.wrap (qN : Int) = (qN : Int) := IntWalk.i64_in _ (by omega)
      have e3 := rem_int9 pN L.length
      have e4 := rem_int9 qN L.length
      obtain ⟨i, ei⟩ : ∃ i, pN % L.length = i := ⟨_, rfl⟩
      obtain ⟨k, ek⟩ : ∃ k, qN % L.length = k := ⟨_, rfl⟩
      have hi : i < L.length := by rw [← ei]; exact Nat.mod_lt _ hn
      have hk : k < L.length := by rw [← ek]; exact Nat.mod_lt _ hn
      rw [ei] at e3
      rw [ek] at e4
      have e5 : IntKind.i64.wrap (i : Int) = (i : Int) := IntWalk.i64_in _ (by omega)
      have e6 : IntKind.i64.wrap (k : Int) = (k : Int) := IntWalk.i64_in _ (by omega)
      clear ei ek
      go_upto_region 9 with (go_at_call 12; refine (twinGraph_any A c L s w4 (HX.out.below HB4.out) HSM.out).mono ?_; rintro e w5 ⟨gt, T, rfl, hgt, hT, hTv, hTl, b5⟩)
      obtain ⟨w6, ew6⟩ : ∃ w6, w5.alloc (.cells #[.slice (some ⟨gt, 0, none⟩) L.length (L.length + 1), .int .i64 s] 24) = w6 := ⟨_, rfl⟩
      obtain ⟨tb, etb⟩ : ∃ tb, w5.heap.size = tb := ⟨_, rfl⟩
      have b6 : Below w4.heap.size w4 w6 := by rw [← ew6]; exact below_one b5 _
      have ZT : Whole w6 tb 24 #[.slice (some ⟨gt, 0, none⟩) L.length (L.length + 1), .int .i64 s] := by rw [← ew6, ← etb]; exact Whole.new w5 _ _
      have hT6 : TwinG w6 w4.heap.size gt T := by rw [← ew6]; exact hT.below (below_one (Below.refl _ _) _)
      have hiT : i < T.length := by omega
      obtain ⟨⟨id, ⟨a1, c1, v⟩, ⟨x2, c2, o⟩⟩, hTi⟩ : ∃ x, T[i]? = some x := ⟨_, List.getElem?_eq_getElem hiT⟩
      have hto := hT6.to _ (List.mem_of_getElem? hTi)
      obtain rfl : c2 = o.length + 1 := hto.1
      obtain ⟨gx, hgx, hgb, hgW⟩ := hto.whole
      obtain rfl : x2 = some ⟨gx, 0, none⟩ := hgx
      have hol : o.length ≤ 19999 := by
        have h1 := HSM.out.1
        have h2 := sum_le_of_mem szN (show (id, v, o) ∈ pns L by rw [← hTv]; exact List.mem_map.2 ⟨_, List.mem_of_getElem? hTi, rfl⟩)
        unfold szG at h1
        have h3 := pns_len L
        simp only [szN] at h2
        omega
      have HT6 := Lib.hid hT6
      have HTV := Lib.hid hTv
      have HTL := Lib.hid hTl
      have HTI := Lib.hid hTi
      have HGW := Lib.hid hgW
      have HZT := Lib.hid ZT
      have HB46 := Lib.hid b6
      have B6 : Hid (Below w.heap.size w w6) := Lib.hid (HB4.out.trans (b6.mono HB4.out.size))
      have Z6 := HZ4.out.below b6 HZ4.out.lt
      have HZ6 := Lib.hid Z6
      rw [ew6, etb]
      have t0 := ZT.cell 0
      have t1 := ZT.cell 1
      have kx : w6.cell? ⟨gt, i * 3 + 2, none⟩ = some (.slice (some ⟨gx, 0, none⟩) o.length (o.length + 1)) := by
        obtain ⟨b0, off, hA, _, hcells⟩ := hT6.rd (by omega)
        injection hA with hA
        injection hA with q1 q2
        subst q1
        subst q2
        have := (hcells i hiT).2.2.1
        rw [Nat.zero_add, hTi] at this
        exact this
      have hrow := hT6.row
      have kf : w6.frozen? ⟨gt, i * 3 + 2, none⟩ = false := by
        rcases hrow.2 with ⟨h0, _⟩ | ⟨g', cap, cur, e, hb, hh, _⟩
        · cases h0
        · injection e with e1 e2 e3
          injection e1 with e1
          injection e1 with e1
          subst e1
          exact Whole.frozen hh _
      have hne : gt ≠ gx := fun e => own_apart hrow hgW (by decide) (by rw [e]; rfl)
      have u1 : (0 : Int) ≤ (i : Int) := by omega
      have u2 : (i : Int) < (L.length : Int) := by omega
      obtain ⟨i0, hi0, hz0, hz1, hz2⟩ := info_parts Try.info3
      clear y0 y1 b5 hgt hT hTv hTl b6 ZT hT6 ew6 etb hto hTi hgW Z6 hrow
      have hsx : o.length < (cellsI (o ++ [77])).size := by unfold cellsI; simp
      have hne2 : tb ≠ gx := fun e => by
        subst e
        have h2 := Eq.trans (Eq.symm (show w6.heap[tb]? = _ from HGW.out)) (show w6.heap[tb]? = _ from HZT.out)
        injection h2 with h2
        injection h2 with _ h2
        exact absurd h2 (by decide)
      have HWK : Hid (Whole (w6.alloc (.cells #[.int .i64 (k : Int)] 3)).drew gx 3 (cellsI (o ++ [77]))) := Lib.hid (HGW.out.alloc _)
      have BK : Below w6.heap.size w6 (w6.alloc (.cells #[.int .i64 (k : Int)] 3)) := below_one (Below.refl _ _) _
      have q0 : ((w6.alloc (.cells #[.int .i64 (k : Int)] 3)).setCell ⟨gx, o.length, none⟩ (.int .i64 (k : Int))).cell? ⟨tb, 0, none⟩ = some (.slice (some ⟨gt, 0, none⟩) L.length (L.length + 1)) := by
        rw [World.cell?_setCell_other _ _ _ _ (fun e => by injection e with e1 e2; omega)]
        exact (HZT.out.below BK HZT.out.lt).cell 0
      have qx : ((w6.alloc (.cells #[.int .i64 (k : Int)] 3)).setCell ⟨gx, o.length, none⟩ (.int .i64 (k : Int))).cell? ⟨gt, i * 3 + 2, none⟩ = some (.slice (some ⟨gx, 0, none⟩) o.length (o.length + 1)) := by
        rw [World.cell?_setCell_other _ _ _ _ (fun e => by injection e with e1 e2; omega)]
        exact (BK.cell (World.block_lt_of_cell? w6 _ kx)).trans kx
      have qf : ((w6.alloc (.cells #[.int .i64 (k : Int)] 3)).setCell ⟨gx, o.length, none⟩ (.int .i64 (k : Int))).frozen? ⟨gt, i * 3 + 2, none⟩ = false := by
        obtain ⟨cur, hcur, _⟩ := twin_block HT6.out (i * 3 + 2) (by omega)
        exact ((hcur.below BK hcur.lt).far (a := ⟨gx, o.length, none⟩) hne (.int .i64 (k : Int))).frozen _
      have r0 : (w6.alloc (.cells #[.int .i64 (k : Int)] 3)).cell? ⟨tb, 0, none⟩ = some (.slice (some ⟨gt, 0, none⟩) L.length (L.length + 1)) := (HZT.out.below BK HZT.out.lt).cell 0
      have rx : (w6.alloc (.cells #[.int .i64 (k : Int)] 3)).cell? ⟨gt, i * 3 + 2, none⟩ = some (.slice (some ⟨gx, 0, none⟩) o.length (o.length + 1)) := (BK.cell (World.block_lt_of_cell? w6 _ kx)).trans kx
      obtain ⟨w9, ew9⟩ : ∃ w9, (((w6.alloc (.cells #[.int .i64 (k : Int)] 3)).setCell ⟨gx, o.length, none⟩ (.int .i64 (k : Int))).setCell ⟨gt, i * 3 + 2, none⟩ (.slice (some ⟨gx, 0, none⟩) (o.length + 1) (o.length + 1))).drew = w9 := ⟨_, rfl⟩
      have HW9 := Lib.hid ew9
      go_cut [] from 57 to 70 (fun wx => wx = w9)
      case first =>
        clear HW9
        go_region_law (refine step_append_one (by rfl) (.tmp 65) (.tmp 67) 35 (by rfl) 3 i0 Try.underlying35 hi0 hz1 gx o.length (o.length + 1) _ HWK.out (by rfl) hsx (by omega) ⟨w6.heap.size, 0, none⟩ (by rfl) (.int .i64 (k : Int)) (cell_one_new _ _ _) (by simp [Value.oneCell']) ?_)
        all_goals
          go_wp2_with fail
          go_meet
          first | exact ew9 | rfl
      case rest =>
      subst hcut
      have HP9 : Hid (RdG wc wc.heap.size (some ⟨gt, 0, none⟩) (T.set i (id, (a1, c1, v), (some ⟨gx, 0, none⟩, o.length + 1, o ++ [(k : Int)])))) := Lib.hid (by
        have := twin_push (HT6.out.below BK) HTI.out (k : Int)
        rw [← HW9.out]
        simp only [World.size_drew, World.size_setCell]
        exact this)
      have B9 : Hid (Below w4.heap.size w4 wc) := Lib.hid (by
        rw [← HW9.out]
        have b := HB46.out.trans (BK.mono HB46.out.size)
        exact ((b.setCell (p := ⟨gx, o.length, none⟩) hgb _).setCell (p := ⟨gt, i * 3 + 2, none⟩) (HT6.out.row.lt gt rfl).1 _).drew)
      have HPN : Hid (pns (T.set i (id, (a1, c1, v), (some ⟨gx, 0, none⟩, o.length + 1, o ++ [(k : Int)]))) = moreG (pns L) i k) := Lib.hid (pns_push HTV.out HTI.out k)
      have hne3 : tb ≠ gt := fun e => by
        obtain ⟨cur, hcur, _⟩ := twin_block HT6.out 0 (by omega)
        subst e
        have h2 := Eq.trans (Eq.symm (show w6.heap[tb]? = _ from hcur)) (show w6.heap[tb]? = _ from HZT.out)
        injection h2 with h2
        injection h2 with _ h2
        exact absurd h2 (by decide)
      have HTB : Hid (Whole wc tb 24 #[.slice (some ⟨gt, 0, none⟩) L.length (L.length + 1), .int .i64 s]) := Lib.hid (by
        rw [← HW9.out]
        exact ((HZT.out.below BK HZT.out.lt).far (a := ⟨gx, o.length, none⟩) hne2 _).far (a := ⟨gt, i * 3 + 2, none⟩) hne3 _)
      have HSS : Hid (∀ x ∈ pns (T.set i (id, (a1, c1, v), (some ⟨gx, 0, none⟩, o.length + 1, o ++ [(k : Int)]))), x.2.2.length ≤ 20000) := Lib.hid (fun x hx => by
        obtain ⟨y, hy, rfl⟩ := List.mem_map.1 hx
        rcases List.mem_or_eq_of_mem_set hy with hy | rfl
        · have hm : pn y ∈ pns L := by rw [← HTV.out]; exact List.mem_map.2 ⟨y, hy, rfl⟩
          exact (HSM.out.at_ hm).2
        · show (o ++ [(k : Int)]).length ≤ 20000
          rw [List.length_append, List.length_singleton]; omega)
      have HML : Hid ((T.set i (id, (a1, c1, v), (some ⟨gx, 0, none⟩, o.length + 1, o ++ [(k : Int)]))).length = L.length) := Lib.hid (by rw [List.length_set]; exact HTL.out)
      obtain ⟨T2, eT2⟩ : ∃ T2, T.set i (id, (a1, c1, v), (some ⟨gx, 0, none⟩, o.length + 1, o ++ [(k : Int)])) = T2 := ⟨_, rfl⟩
      rw [eT2] at HP9 HPN HSS HML
      have hHM : holdsB (moreG (pns L) i k) s = true := more_holds (by rw [HLN.out]; exact hi) (by rw [HLN.out]; exact hk) HHB.out
      have hML2 : (hopsL (moreG (pns L) i k) s).length = L.length := by rw [hopsL_len, moreG_len, HLN.out]
      have C10 := hops_any2 (some ⟨gt, 0, none⟩) (L.length + 1) T2 s wc HP9.out HSS.out (by rw [HML.out]; exact hL)
      have EM : hopsA (moreG (pns L) i k) s = hopsL (moreG (pns L) i k) s := by unfold hopsA; rw [hHM]; rfl
      rw [HML.out, HPN.out, EM, hHM, show errG true = 0 from rfl] at C10
      obtain ⟨M, eM⟩ : ∃ M, hopsL (moreG (pns L) i k) s = M := ⟨_, rfl⟩
      have HMA : Hid (∀ j, j < L.length → M[j]? = some (hopI (moreG (pns L) i k) s.toNat j)) := Lib.hid (fun j hj => by rw [← eM]; exact hopsL_at (by rw [moreG_len, HLN.out]; exact hj))
      rw [eM] at C10 hML2
      have Z9 := HZ4.out.below B9.out HZ4.out.lt
      have HZ9 := Lib.hid Z9
      clear t0 t1 q0 qx qf r0 rx kx kf BK HW9 eT2 hHM EM eM hne2 hne3
      have y0 := Z9.cell 0
      have y1 := Z9.cell 1
      have t0 := HTB.out.cell 0
      have t1 := HTB.out.cell 1
      clear Z9
      go_wp2_with fail
      refine C10.mono ?_
      rintro e wD ⟨V5, m5, rfl, o5, bD⟩
      dsimp only
      rw [hML2] at o5
      rw [hML2]
      obtain ⟨g5, rfl, -⟩ := own_some o5 hn
      have HAC : Hid (∀ j, j < L.length → wD.cell? ⟨g4, j, none⟩ = some (.int .i64 (hopI (pns L) s.toNat j))) := Lib.hid (fun j hj => by
        have o := own_below O4.out (B9.out.trans (bD.mono B9.out.size))
        rw [← hHl] at o
        exact row_cell9 o (by omega) (HHA.out j hj))
      have HBC : Hid (∀ j, j < L.length → wD.cell? ⟨g5, j, none⟩ = some (.int .i64 (hopI (moreG (pns L) i k) s.toNat j))) := Lib.hid (fun j hj => by
        have o := o5
        rw [← hML2] at o
        exact row_cell9 o (by omega) (HMA.out j hj))
      have HUP : Hid (Below w.heap.size w wD) := Lib.hid (HB4.out.trans ((B9.out.trans (bD.mono B9.out.size)).mono HB4.out.size))
      have ZD := HZ9.out.below bD HZ9.out.lt
      clear y0 y1 t0 t1 C10 o5
      have y0 := ZD.cell 0
      have y1 := ZD.cell 1
      clear ZD bD
      have HLE : Hid (∀ j, 0 ≤ hopI (pns L) s.toNat j → 0 ≤ hopI (moreG (pns L) i k) s.toNat j ∧ hopI (moreG (pns L) i k) s.toNat j ≤ hopI (pns L) s.toNat j) := Lib.hid (fun j h => more_le (by rw [HLN.out]; exact hi) h)
      have HSAME := Lib.hid (fun (h : ¬ neededG (pns L) s.toNat i k) j => more_same (n := j) (by rw [HLN.out]; exact hi) h)
      have HNEED := Lib.hid (fun (h : neededG (pns L) s.toNat i k) => more_needed (by rw [HLN.out]; exact hi) h)
      have hva := hop_lt9 (G := pns L) (s := s.toNat) (i := i) (by rw [HLN.out]; exact hi)
      have hvk := hop_ge (pns L) s.toNat i
      rw [HLN.out] at hva
      have ci := HAC.out i hi
      have ck := HAC.out k hk
      have cb := HBC.out k hk
      have u3 : (0 : Int) ≤ (k : Int) := by omega
      have u4 : (k : Int) < (L.length : Int) := by omega
      obtain ⟨va, eva⟩ : ∃ v, hopI (pns L) s.toNat i = v := ⟨_, rfl⟩
      obtain ⟨vk, evk⟩ : ∃ v, hopI (pns L) s.toNat k = v := ⟨_, rfl⟩
      have HND : Hid (neededG (pns L) s.toNat i k ↔ 0 ≤ va ∧ (vk < 0 ∨ vk > va + 1)) := Lib.hid (by unfold neededG; rw [eva, evk])
      rw [eva] at ci hva hvk HNEED
      rw [evk] at ck
      have ew : IntKind.i64.wrap (va + 1) = va + 1 := IntWalk.i64_in _ (by omega)
      clear eva evk
      go_upto_region 13 with fail
      by_cases h0 : 0 ≤ va
      · have e7 : decide (0 ≤ va) = true := decide_eq_true h0
        by_cases h1 : vk < 0
        · have e8 : decide (vk < 0) = true := decide_eq_true h1
          have HN := Lib.hid (HND.out.2 ⟨h0, .inl h1⟩)
          go_quiet (fail)
          go_wp2
          go_loopw [15] (fun n wr => ∃ m nq : Nat, m ≤ L.length ∧ n = .int .i64 m ∧ wr = wD.drewN nq) (fun n _ => L.length - (intOf n).toNat)
          case atStart => exact ⟨0, _, by omega, rfl, rfl⟩
          case round =>
            obtain ⟨m, nq, hm, rfl, rfl⟩ := hrel
            by_cases hlm : m < L.length
            · have f1 : decide ((m : Int) < (L.length : Int)) = true := decide_eq_true (by omega)
              have f2 : (0 : Int) ≤ (m : Int) := by omega
              have f3 : (m : Int) < (L.length : Int) := by omega
              have ca := HAC.out m hlm
              have cc := HBC.out m hlm
              have hle := HLE.out m
              obtain ⟨xa, exa⟩ : ∃ v, hopI (pns L) s.toNat m = v := ⟨_, rfl⟩
              obtain ⟨xb, exb⟩ : ∃ v, hopI (moreG (pns L) i k) s.toNat m = v := ⟨_, rfl⟩
              rw [exa] at ca
              rw [exb] at cc
              rw [exa, exb] at hle
              clear exa exb
              go_upto_region 17 with fail
              by_cases hx : 0 ≤ xa
              · have f4 : decide (0 ≤ xa) = true := decide_eq_true hx
                have f5 : decide (xb < 0) = false := decide_eq_false (by have := hle hx; omega)
                have f6 : decide (xa < xb) = false := decide_eq_false (by have := hle hx; omega)
                clear hle
                go_quiet (fail)
                go_wp2
                go_roundw
                case rel => exact ⟨m + 1, _, by omega, by go_num, rfl⟩
                case measure => simp [intOf]; omega
              · have f4 : decide (0 ≤ xa) = false := decide_eq_false hx
                clear hle
                go_quiet (fail)
                go_wp2
                go_roundw
                case rel => exact ⟨m + 1, _, by omega, by go_num, rfl⟩
                case measure => simp [intOf]; omega
            · obtain rfl : m = L.length := by omega
              have f1 : decide ((L.length : Int) < (L.length : Int)) = false := decide_eq_false (by omega)
              go_upto_region 19 with fail
              rw [HNEED.out HN.out] at cb
              go_quiet (fail)
              go_wp2
              go_ret
              exact ⟨rfl, below_drewN (below_drewN HUP.out _) _⟩
        · have e8 : decide (vk < 0) = false := decide_eq_false h1
          by_cases h2 : vk > va + 1
          · have e9 : decide (va + 1 < vk) = true := decide_eq_true h2
            have HN := Lib.hid (HND.out.2 ⟨h0, .inr h2⟩)
            go_quiet (fail)
            go_wp2
            go_loopw [15] (fun n wr => ∃ m nq : Nat, m ≤ L.length ∧ n = .int .i64 m ∧ wr = wD.drewN nq) (fun n _ => L.length - (intOf n).toNat)
            case atStart => exact ⟨0, _, by omega, rfl, rfl⟩
            case round =>
              obtain ⟨m, nq, hm, rfl, rfl⟩ := hrel
              by_cases hlm : m < L.length
              · have f1 : decide ((m : Int) < (L.length : Int)) = true := decide_eq_true (by omega)
                have f2 : (0 : Int) ≤ (m : Int) := by omega
                have f3 : (m : Int) < (L.length : Int) := by omega
                have ca := HAC.out m hlm
                have cc := HBC.out m hlm
                have hle := HLE.out m
                obtain ⟨xa, exa⟩ : ∃ v, hopI (pns L) s.toNat m = v := ⟨_, rfl⟩
                obtain ⟨xb, exb⟩ : ∃ v, hopI (moreG (pns L) i k) s.toNat m = v := ⟨_, rfl⟩
                rw [exa] at ca
                rw [exb] at cc
                rw [exa, exb] at hle
                clear exa exb
                go_upto_region 17 with fail
                by_cases hx : 0 ≤ xa
                · have f4 : decide (0 ≤ xa) = true := decide_eq_true hx
                  have f5 : decide (xb < 0) = false := decide_eq_false (by have := hle hx; omega)
                  have f6 : decide (xa < xb) = false := decide_eq_false (by have := hle hx; omega)
                  clear hle
                  go_quiet (fail)
                  go_wp2
                  go_roundw
                  case rel => exact ⟨m + 1, _, by omega, by go_num, rfl⟩
                  case measure => simp [intOf]; omega
                · have f4 : decide (0 ≤ xa) = false := decide_eq_false hx
                  clear hle
                  go_quiet (fail)
                  go_wp2
                  go_roundw
                  case rel => exact ⟨m + 1, _, by omega, by go_num, rfl⟩
                  case measure => simp [intOf]; omega
              · obtain rfl : m = L.length := by omega
                have f1 : decide ((L.length : Int) < (L.length : Int)) = false := decide_eq_false (by omega)
                go_upto_region 19 with fail
                rw [HNEED.out HN.out] at cb
                go_quiet (fail)
                go_wp2
                go_ret
                exact ⟨rfl, below_drewN (below_drewN HUP.out _) _⟩
          · have e9 : decide (va + 1 < vk) = false := decide_eq_false h2
            have HN : Hid (¬ neededG (pns L) s.toNat i k) := Lib.hid (fun h => by have := HND.out.1 h; omega)
            go_quiet (fail)
            go_wp2
            go_loopw [15] (fun n wr => ∃ m nq : Nat, m ≤ L.length ∧ n = .int .i64 m ∧ wr = wD.drewN nq) (fun n _ => L.length - (intOf n).toNat)
            case atStart => exact ⟨0, _, by omega, rfl, rfl⟩
            case round =>
              obtain ⟨m, nq, hm, rfl, rfl⟩ := hrel
              by_cases hlm : m < L.length
              · have f1 : decide ((m : Int) < (L.length : Int)) = true := decide_eq_true (by omega)
                have f2 : (0 : Int) ≤ (m : Int) := by omega
                have f3 : (m : Int) < (L.length : Int) := by omega
                have ca := HAC.out m hlm
                have cc := HBC.out m hlm
                have hle := HLE.out m
                have hsm := HSAME.out HN.out m
                obtain ⟨xa, exa⟩ : ∃ v, hopI (pns L) s.toNat m = v := ⟨_, rfl⟩
                obtain ⟨xb, exb⟩ : ∃ v, hopI (moreG (pns L) i k) s.toNat m = v := ⟨_, rfl⟩
                rw [exa] at ca
                rw [exb] at cc
                rw [exa, exb] at hle
                rw [exa, exb] at hsm
                have f7 : (xa != xb) = false := by rw [hsm]; simp
                clear exa exb
                go_upto_region 17 with fail
                by_cases hx : 0 ≤ xa
                · have f4 : decide (0 ≤ xa) = true := decide_eq_true hx
                  have f5 : decide (xb < 0) = false := decide_eq_false (by have := hle hx; omega)
                  have f6 : decide (xa < xb) = false := decide_eq_false (by have := hle hx; omega)
                  clear hle
                  go_quiet (fail)
                  go_wp2
                  go_roundw
                  case rel => exact ⟨m + 1, _, by omega, by go_num, rfl⟩
                  case measure => simp [intOf]; omega
                · have f4 : decide (0 ≤ xa) = false := decide_eq_false hx
                  clear hle
                  go_quiet (fail)
                  go_wp2
                  go_roundw
                  case rel => exact ⟨m + 1, _, by omega, by go_num, rfl⟩
                  case measure => simp [intOf]; omega
              · obtain rfl : m = L.length := by omega
                have f1 : decide ((L.length : Int) < (L.length : Int)) = false := decide_eq_false (by omega)
                go_upto_region 19 with fail
                go_quiet (fail)
                go_wp2
                go_ret
                exact ⟨rfl, below_drewN (below_drewN HUP.out _) _⟩
      · have e7 : decide (0 ≤ va) = false := decide_eq_false h0
        have HN : Hid (¬ neededG (pns L) s.toNat i k) := Lib.hid (fun h => by have := HND.out.1 h; omega)
        go_quiet (fail)
        go_wp2
        go_loopw [15] (fun n wr => ∃ m nq : Nat, m ≤ L.length ∧ n = .int .i64 m ∧ wr = wD.drewN nq) (fun n _ => L.length - (intOf n).toNat)
        case atStart => exact ⟨0, _, by omega, rfl, rfl⟩
        case round =>
          obtain ⟨m, nq, hm, rfl, rfl⟩ := hrel
          by_cases hlm : m < L.length
          · have f1 : decide ((m : Int) < (L.length : Int)) = true := decide_eq_true (by omega)
            have f2 : (0 : Int) ≤ (m : Int) := by omega
            have f3 : (m : Int) < (L.length : Int) := by omega
            have ca := HAC.out m hlm
            have cc := HBC.out m hlm
            have hle := HLE.out m
            have hsm := HSAME.out HN.out m
            obtain ⟨xa, exa⟩ : ∃ v, hopI (pns L) s.toNat m = v := ⟨_, rfl⟩
            obtain ⟨xb, exb⟩ : ∃ v, hopI (moreG (pns L) i k) s.toNat m = v := ⟨_, rfl⟩
            rw [exa] at ca
            rw [exb] at cc
            rw [exa, exb] at hle
            rw [exa, exb] at hsm
            have f7 : (xa != xb) = false := by rw [hsm]; simp
            clear exa exb
            go_upto_region 17 with fail
            by_cases hx : 0 ≤ xa
            · have f4 : decide (0 ≤ xa) = true := decide_eq_true hx
              have f5 : decide (xb < 0) = false := decide_eq_false (by have := hle hx; omega)
              have f6 : decide (xa < xb) = false := decide_eq_false (by have := hle hx; omega)
              clear hle
              go_quiet (fail)
              go_wp2
              go_roundw
              case rel => exact ⟨m + 1, _, by omega, by go_num, rfl⟩
              case measure => simp [intOf]; omega
            · have f4 : decide (0 ≤ xa) = false := decide_eq_false hx
              clear hle
              go_quiet (fail)
              go_wp2
              go_roundw
              case rel => exact ⟨m + 1, _, by omega, by go_num, rfl⟩
              case measure => simp [intOf]; omega
          · obtain rfl : m = L.length := by omega
            have f1 : decide ((L.length : Int) < (L.length : Int)) = false := decide_eq_false (by omega)
            go_upto_region 19 with fail
            go_quiet (fail)
            go_wp2
            go_ret
            exact ⟨rfl, below_drewN (below_drewN HUP.out _) _⟩
end Go.Proofs.Ytjihnkoimbcfnaa
