/- The document's search, for all: a node's hit, what may be searched, the exact search. -/
import Derived.Test.YtkmngbkghgelfaaGreatFh
import Derived.Test.YtkmngbkghgelfaaGreatLb
import Derived.Test.YtkmngbkghgelfaaGreatVx
import Derived.Test.YtkmngbkghgelfaaGreatCw
import Derived.Test.YtkmngbkghgelfaaGreatFk
import Derived.Test.YtkmngbkghgelfaaGreatFu
import Derived.Deep.QuietTactic
import Derived.Deep.AppendLies
import Derived.BigQuiet
import Derived.Deep.Cut
namespace Go.Proofs.YtkmngbkghgelfaaGreat
open Go.Shelf Go.RowKit Go.Lib
open Go.Sort hiding Below
set_option linter.unusedVariables false
set_option linter.unusedSimpArgs false
theorem resCellZ {P : Program} {fn : Func} {p : Tmp} {ty : TypeId} (h : fn.results = #[.cell p ty]) (tmps : Array Value) (w : World) :
    (results fn tmps).run P w = ((asAddr (tmps.getD p undef)).run P w).andThen fun a w₁ => (loadVar ty a).run P w₁ := by
  simp only [results, h]
  simp [Sem.run_bind, Result.andThen]
theorem wpQuiet_stepZ {P : Program} {ops : Array Oper} {C : World → Prop} {Q : Act → Prop} {a : Act} {o : Oper} {rest : List Oper}
    (h : ∀ K R : Act → Prop, (∀ a, R a → K a) → R = wpQuiet P ops C Q rest → if Region.wanted o (yielded ops a.tmps) then o.quiet P a C K else K (a.put o.dst undef)) : wpQuiet P ops C Q (o :: rest) a :=
  wpQuiet_step fun K hK => h K _ hK rfl
theorem refFarZ_any (A B : Option Addr) (c d : Nat) (xs ys : List Int) (h2 : xs.length ≤ 64) (hl : ys.length = xs.length) (w : World) (D : Nat) (hx : Rd .i8 w D A xs) (hy : Rd .i8 w D B ys) (bx : ∀ x ∈ xs, -128 ≤ x ∧ x ≤ 127) (bY : ∀ x ∈ ys, -128 ≤ x ∧ x ≤ 127) :
    Calls Tryz.prog 86 #[.slice A xs.length c, .slice B ys.length d] w fun e w' => e = .returned (.int .i64 (far xs ys)) ∧ ∃ nq, w' = w.drewN nq := by
  have := refFar_any A B c d xs ys h2 hl w D hx hy bx bY
  rw [← hl] at this
  rw [← hl]; exact this
set_option maxRecDepth 100000 in
set_option maxHeartbeats 4000000 in
theorem refHit_any (A : Option Addr) (c : Nat) (L : List Gn) (s : Int) (p : Nat) (B : Option Addr) (q : Nat) (v : List Int) (w : World) (hx : RdG w w.heap.size A L) (hp : p < L.length) (hv : Rd .i8 w w.heap.size B v) (bv : ∀ n ∈ v, -128 ≤ n ∧ n ≤ 127) (bL : ∀ x ∈ pns L, PnOk x) (h64 : v.length ≤ 64) (hsame : (nAt (pns L) p).2.1.length = v.length) :
    Calls Tryz.prog 28 #[.agg #[.slice A L.length c, .int .i64 s], .int .i64 (p : Int), .slice B v.length q] w fun e w' => e = .returned (.agg #[.int .u64 (hitP (pns L) v p).1, .int .i64 (hitP (pns L) v p).2]) ∧ Below w.heap.size w w' := by
  have hpg : p < (pns L).length := by rw [pns_len]; exact hp
  obtain ⟨bb, off, id, a1, c1, u, a2, c2, o, rfl, hBg, m1, m2, m3, hr1, hr2, hvv⟩ := hx.at_ hp
  have hna : nAt (pns L) p = (id, u, o) := nAt_get (pns_at hvv.out)
  have hbu := (bL _ (nAt_mem hpg)).2.1
  rw [hna] at hsame hbu
  have hH : hitP (pns L) v p = (id, far u v) := by unfold hitP; rw [hna]
  rw [hH]
  dsimp only at hsame hbu ⊢
  have HF : Hid (∀ W, Below w.heap.size w W → Calls Tryz.prog 86 #[.slice a1 u.length c1, .slice B v.length q] W fun e w' => e = .returned (.int .i64 (far u v)) ∧ ∃ nq, w' = W.drewN nq) := Lib.hid (fun W h => refFarZ_any a1 B c1 q u v (by omega) hsame.symm W w.heap.size (hr1.below h) (hv.below h) hbu bv)
  obtain ⟨F, eF⟩ : ∃ F, far u v = F := ⟨_, rfl⟩
  rw [eF] at HF ⊢
  have Z0 := (Whole.new w 24 #[.slice (some ⟨bb, off, none⟩) L.length c, .int .i64 s]).alloc (.cells #[.int .u64 0, .int .i64 0] 78)
  have Z1 := Whole.new (w.alloc (.cells #[.slice (some ⟨bb, off, none⟩) L.length c, .int .i64 s] 24)) 78 #[.int .u64 0, .int .i64 0]
  have B0 : Below w.heap.size w ((w.alloc (.cells #[.slice (some ⟨bb, off, none⟩) L.length c, .int .i64 s] 24)).alloc (.cells #[.int .u64 0, .int .i64 0] 78)) := below_one (below_one (Below.refl _ _) _) _
  rw [World.size_alloc] at Z1
  obtain ⟨w0, ew0⟩ : ∃ w0, (w.alloc (.cells #[.slice (some ⟨bb, off, none⟩) L.length c, .int .i64 s] 24)).alloc (.cells #[.int .u64 0, .int .i64 0] 78) = w0 := ⟨_, rfl⟩
  obtain ⟨gb, egb⟩ : ∃ gb, w.heap.size = gb := ⟨_, rfl⟩
  obtain ⟨hb, ehb⟩ : ∃ hb, gb + 1 = hb := ⟨_, rfl⟩
  rw [ew0, egb] at Z0
  rw [ew0, egb, ehb] at Z1
  rw [ew0] at B0
  have HGB := Lib.hid egb
  have HHB := Lib.hid ehb
  have HZ0 := Lib.hid Z0
  have HZ1 := Lib.hid Z1
  have HB0 := Lib.hid B0
  have KC : Hid (∀ W, Below w0.heap.size w0 W → W.cell? ⟨gb, 0, none⟩ = some (.slice (some ⟨bb, off, none⟩) L.length c) ∧ W.cell? ⟨bb, off + p * 3, none⟩ = some (.int .u64 id) ∧ W.cell? ⟨bb, off + p * 3 + 1, none⟩ = some (.slice a1 u.length c1)) := Lib.hid (fun W h => by
    have hW := HB0.out.trans (h.mono HB0.out.size)
    exact ⟨(HZ0.out.below h HZ0.out.lt).cell 0, (hW.cell (p := ⟨bb, off + p * 3, none⟩) hBg).trans m1, (hW.cell (p := ⟨bb, off + p * 3 + 1, none⟩) hBg).trans m2⟩)
  have x1 : (0 : Int) ≤ (p : Int) := by omega
  have x2 : (p : Int) < (L.length : Int) := by omega
  clear hx hv bv bL hsame hbu hH hna hvv hr1 hr2 m1 m2 m3 hBg eF Z0 Z1 B0 hpg
  go_enter Tryz.func28, Tryz.ntmps28
  go_upto_region 1 with fail
  try rw [ew0]
  try rw [egb]
  try rw [ehb]
  have hdr : Below w0.heap.size w0 w0.drew := (Below.refl _ _).drew
  obtain ⟨q0, q1, q2⟩ := KC.out _ hdr
  clear ew0 egb ehb
  refine region_last3 (S := fun w' => w'.cell? ⟨gb, 0, none⟩ = some (.slice (some ⟨bb, off, none⟩) L.length c) ∧ w'.cell? ⟨bb, off + p * 3, none⟩ = some (.int .u64 id) ∧ w'.cell? ⟨bb, off + p * 3 + 1, none⟩ = some (.slice a1 u.length c1)) 15 ⟨none, .store 78 (.tmp 6) (.tmp 21), _, _, _, _⟩ (by kernel_rfl) rfl rfl (by kernel_rfl) (by kernel_rfl) ⟨q0, q1, q2⟩ (fun hHeld => ?_)
  simp only [List.setIfInBounds_toArray, List.set_cons_zero, List.set_cons_succ]
  refine wpAnyH_take (i := 0) (v := .pointer (some ⟨gb, 0, none⟩)) rfl (by kernel_rfl) (by kernel_rfl) (by kernel_rfl) (fun _ _ _ h => h) (Or.inl ⟨by rfl, ?_⟩) (by assumption) ?_
  · intro w' hSw
    obtain ⟨t0, t1, t2⟩ := hSw
    go_simp
  try simp only [Act.put, List.setIfInBounds_toArray, List.set_cons_zero, List.set_cons_succ]
  refine wpAnyH_take (i := 1) (v := .slice (some ⟨bb, off, none⟩) L.length c) rfl (by kernel_rfl) (by kernel_rfl) (by kernel_rfl) (fun _ _ _ h => h) (Or.inl ⟨by rfl, ?_⟩) (by assumption) ?_
  · intro w' hSw
    obtain ⟨t0, t1, t2⟩ := hSw
    go_simp
  try simp only [Act.put, List.setIfInBounds_toArray, List.set_cons_zero, List.set_cons_succ]
  refine wpAnyH_take (i := 2) (v := .int .i64 (p : Int)) rfl (by kernel_rfl) (by kernel_rfl) (by kernel_rfl) (fun _ _ _ h => h) (Or.inl ⟨by rfl, ?_⟩) (by assumption) ?_
  · intro w' hSw
    obtain ⟨t0, t1, t2⟩ := hSw
    go_simp
  try simp only [Act.put, List.setIfInBounds_toArray, List.set_cons_zero, List.set_cons_succ]
  refine wpAnyH_take (i := 3) (v := .pointer (some ⟨bb, off + p * 3, none⟩)) rfl (by kernel_rfl) (by kernel_rfl) (by kernel_rfl) (fun _ _ _ h => h) (Or.inl ⟨by rfl, ?_⟩) (by assumption) ?_
  · intro w' hSw
    obtain ⟨t0, t1, t2⟩ := hSw
    go_simp
  try simp only [Act.put, List.setIfInBounds_toArray, List.set_cons_zero, List.set_cons_succ]
  refine wpAnyH_take (i := 4) (v := .pointer (some ⟨bb, off + p * 3, none⟩)) rfl (by kernel_rfl) (by kernel_rfl) (by kernel_rfl) (fun _ _ _ h => h) (Or.inl ⟨by rfl, ?_⟩) (by assumption) ?_
  · intro w' hSw
    obtain ⟨t0, t1, t2⟩ := hSw
    go_simp
  try simp only [Act.put, List.setIfInBounds_toArray, List.set_cons_zero, List.set_cons_succ]
  refine wpAnyH_take (i := 5) (v := .int .u64 id) rfl (by kernel_rfl) (by kernel_rfl) (by kernel_rfl) (fun _ _ _ h => h) (Or.inl ⟨by rfl, ?_⟩) (by assumption) ?_
  · intro w' hSw
    obtain ⟨t0, t1, t2⟩ := hSw
    go_simp
  try simp only [Act.put, List.setIfInBounds_toArray, List.set_cons_zero, List.set_cons_succ]
  refine wpAnyH_take (i := 6) (v := .pointer (some ⟨gb, 0, none⟩)) rfl (by kernel_rfl) (by kernel_rfl) (by kernel_rfl) (fun _ _ _ h => h) (Or.inl ⟨by rfl, ?_⟩) (by assumption) ?_
  · intro w' hSw
    obtain ⟨t0, t1, t2⟩ := hSw
    go_simp
  try simp only [Act.put, List.setIfInBounds_toArray, List.set_cons_zero, List.set_cons_succ]
  refine wpAnyH_take (i := 7) (v := .slice (some ⟨bb, off, none⟩) L.length c) rfl (by kernel_rfl) (by kernel_rfl) (by kernel_rfl) (fun _ _ _ h => h) (Or.inl ⟨by rfl, ?_⟩) (by assumption) ?_
  · intro w' hSw
    obtain ⟨t0, t1, t2⟩ := hSw
    go_simp
  try simp only [Act.put, List.setIfInBounds_toArray, List.set_cons_zero, List.set_cons_succ]
  refine wpAnyH_take (i := 8) (v := .int .i64 (p : Int)) rfl (by kernel_rfl) (by kernel_rfl) (by kernel_rfl) (fun _ _ _ h => h) (Or.inl ⟨by rfl, ?_⟩) (by assumption) ?_
  · intro w' hSw
    obtain ⟨t0, t1, t2⟩ := hSw
    go_simp
  try simp only [Act.put, List.setIfInBounds_toArray, List.set_cons_zero, List.set_cons_succ]
  refine wpAnyH_take (i := 9) (v := .pointer (some ⟨bb, off + p * 3, none⟩)) rfl (by kernel_rfl) (by kernel_rfl) (by kernel_rfl) (fun _ _ _ h => h) (Or.inl ⟨by rfl, ?_⟩) (by assumption) ?_
  · intro w' hSw
    obtain ⟨t0, t1, t2⟩ := hSw
    go_simp
  try simp only [Act.put, List.setIfInBounds_toArray, List.set_cons_zero, List.set_cons_succ]
  refine wpAnyH_take (i := 10) (v := .pointer (some ⟨bb, off + p * 3 + 1, none⟩)) rfl (by kernel_rfl) (by kernel_rfl) (by kernel_rfl) (fun _ _ _ h => h) (Or.inl ⟨by rfl, ?_⟩) (by assumption) ?_
  · intro w' hSw
    obtain ⟨t0, t1, t2⟩ := hSw
    go_simp
  try simp only [Act.put, List.setIfInBounds_toArray, List.set_cons_zero, List.set_cons_succ]
  refine wpAnyH_take (i := 11) (v := .slice a1 u.length c1) rfl (by kernel_rfl) (by kernel_rfl) (by kernel_rfl) (fun _ _ _ h => h) (Or.inl ⟨by rfl, ?_⟩) (by assumption) ?_
  · intro w' hSw
    obtain ⟨t0, t1, t2⟩ := hSw
    go_simp
  try simp only [Act.put, List.setIfInBounds_toArray, List.set_cons_zero, List.set_cons_succ]
  refine wpAnyH_take (i := 12) (v := .slice B v.length q) rfl (by kernel_rfl) (by kernel_rfl) (by kernel_rfl) (fun _ _ _ h => h) (Or.inl ⟨by rfl, ?_⟩) (by assumption) ?_
  · intro w' hSw
    obtain ⟨t0, t1, t2⟩ := hSw
    go_simp
  try simp only [Act.put, List.setIfInBounds_toArray, List.set_cons_zero, List.set_cons_succ]
  refine wpAnyH_ready (rs := [13]) (by kernel_rfl) (by simp) ?_
  refine AllReadyH.cons rfl (fun K hK => ?_) AllReadyH.nil
  go_simp
  go_at_call 86
  refine (HF.out _ (HB0.out.trans (hdr.mono HB0.out.size))).mono ?_
  rintro e w6 ⟨rfl, nq, hw6⟩
  have b6 : Below w0.heap.size w0 w6 := (by rw [hw6]; exact below_drewN hdr nq)
  clear hw6
  obtain ⟨m0, m1, m2⟩ := KC.out _ b6
  refine hK.out _ _ ?_ (fun hHeld => ?_)
  · exact ⟨m0, m1, m2⟩
  clear hK K
  try simp only [Act.put, List.setIfInBounds_toArray, List.set_cons_zero, List.set_cons_succ]
  refine wpAnyH_take (i := 14) (v := .agg #[.int .u64 id, .int .i64 F]) rfl (by kernel_rfl) (by kernel_rfl) (by kernel_rfl) (fun _ _ _ h => h) (Or.inl ⟨by rfl, ?_⟩) (by assumption) ?_
  · intro w' hSw
    obtain ⟨t0, t1, t2⟩ := hSw
    go_simp
  try simp only [Act.put, List.setIfInBounds_toArray, List.set_cons_zero, List.set_cons_succ]
  have Z6 := HZ1.out.below b6 HZ1.out.lt
  have g8 := Z6.cell 0
  have g9 := Z6.cell 1
  have f8 := Z6.frozen 0
  have f9 := Z6.frozen 1
  have g10 : (w6.setCell ⟨hb, 0, none⟩ (.int .u64 id)).cell? ⟨hb, 1, none⟩ = some (.int .i64 0) := (Z6.set 0 (.int .u64 id)).cell 1
  have f10 : (w6.setCell ⟨hb, 0, none⟩ (.int .u64 id)).frozen? ⟨hb, 1, none⟩ = false := (Z6.set 0 (.int .u64 id)).frozen 1
  have g11 : ((w6.setCell ⟨hb, 0, none⟩ (.int .u64 id)).setCell ⟨hb, 1, none⟩ (.int .i64 F)).cell? ⟨hb, 0, none⟩ = some (.int .u64 id) := ((Z6.set 0 (.int .u64 id)).set 1 (.int .i64 F)).cell 0
  have g12 : ((w6.setCell ⟨hb, 0, none⟩ (.int .u64 id)).setCell ⟨hb, 1, none⟩ (.int .i64 F)).cell? ⟨hb, 1, none⟩ = some (.int .i64 F) := ((Z6.set 0 (.int .u64 id)).set 1 (.int .i64 F)).cell 1
  have hbw : w.heap.size ≤ hb := by have := HGB.out; have := HHB.out; omega
  have HB9 := Lib.hid (((HB0.out.trans (b6.mono HB0.out.size)).setCell (p := ⟨hb, 0, none⟩) hbw (.int .u64 id)).setCell (p := ⟨hb, 1, none⟩) hbw (.int .i64 F))
  refine wpAnyH_take (i := 15) (v := undef) rfl (by kernel_rfl) (by kernel_rfl) (by kernel_rfl) (fun _ _ _ h => h) (Or.inr ⟨by rfl, rfl⟩) (by assumption) ?_
  try simp only [Act.put]
  refine wpAnyH_done (by kernel_rfl) ?_ _
  simp only [Exit.then]
  refine wpOp_step (o := ⟨none, .store 78 (.tmp 6) (.tmp 21), _, _, _, _⟩) rfl (fun K hK => ?_)
  go_simp
  refine hK _ _ ?_
  clear hK K
  try simp only [Act.put, List.setIfInBounds_toArray, List.set_cons_zero, List.set_cons_succ]
  go_wp2
  refine bodyPost_ret (v := .agg #[.int .u64 id, .int .i64 F]) (by rw [resCellZ rfl]; go_simp) rfl ?_
  exact ⟨rfl, HB9.out⟩
/-- What may be searched, as the document asks it. -/
theorem mayS_doc {G : List Pn} {s : Int} {v : List Int} (hh : holdsB G s = true) (hd : 1 ≤ v.length ∧ v.length ≤ 64) : mayS G s v = decide (∀ i, i < G.length → (nAt G i).2.1.length = v.length ∧ findI G (nAt G i).1 = (i : Int)) := by
  unfold mayS
  rw [hh, decide_eq_true hd, Bool.true_and, Bool.true_and, Bool.eq_iff_iff, Bool.and_eq_true, decide_eq_true_eq, decide_eq_true_eq, decide_eq_true_eq]
  constructor
  · rintro ⟨h1, h2⟩ i hi
    exact ⟨h1 _ (nAt_mem hi), findI_at hi rfl (fun j hj e => by have := ids_inj h2 (by omega) hi e; omega)⟩
  · intro h
    refine ⟨fun x hx => ?_, ?_⟩
    · obtain ⟨i, hi⟩ := List.getElem?_of_mem hx
      have hil := (List.getElem?_eq_some_iff.1 hi).1
      have := (h i hil).1
      rwa [nAt_get hi] at this
    · rw [List.nodup_iff_pairwise_ne, List.pairwise_iff_getElem]
      intro i j hi hj hij e
      rw [List.length_map] at hi hj
      have h1 := (h i hi).2
      have h2 := (h j hj).2
      have e1 : (nAt G i).1 = (nAt G j).1 := by
        simpa [nAt, List.getElem?_eq_getElem hi, List.getElem?_eq_getElem hj] using e
      rw [e1, h2] at h1
      omega
end Go.Proofs.YtkmngbkghgelfaaGreat
