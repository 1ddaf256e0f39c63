/- Several texts in one. -/
import Derived.Test.YthbimjkcpmffcaaGreatWh
import Derived.Test.YthbimjkcpmffcaaGreatMe
import Derived.Test.YthbimjkcpmffcaaGreatWr
/- Package pq: how far a vector's part is from each of its words. -/
namespace Go.Proofs.YthbimjkcpmffcaaGreat
open Go.RowKit Go.Shelf
set_option linter.unusedVariables false
attribute [local go_sem] Oper.semAt_some
def farsK (ms : List (List Int)) (u : List Int) (k : Nat) : List Int := (ms.take k).map fun x => far x u
theorem farsK_len {ms : List (List Int)} {u : List Int} {k : Nat} (h : k ≤ ms.length) : (farsK ms u k).length = k := by unfold farsK; rw [List.length_map, List.length_take]; omega
theorem farsK_succ {ms : List (List Int)} {u x : List Int} {k : Nat} (h : ms[k]? = some x) : farsK ms u (k + 1) = farsK ms u k ++ [far x u] := by
  unfold farsK
  rw [List.take_add_one, h, List.map_append]
  rfl
set_option maxRecDepth 100000 in
set_option maxHeartbeats 1000000 in
theorem apartP_any (A : Option Addr) (c : Nat) (M : List Vc) (B : Option Addr) (d n : Nat) (u : List Int) (w : World) (hx : VArg w A M) (hy : NArg w B u) (hn : n = u.length) (hu : 1 ≤ u.length ∧ u.length ≤ 64) (hl : M.length ≤ 64) (ha : ∀ x ∈ vecs M, x.length = u.length) :
    Calls Tryz.prog 33 #[.slice A M.length c, .slice B n d] w fun e w' => e = .returned (.slice (some ⟨w.heap.size, 0, none⟩) M.length M.length) ∧
      w'.ownsRow w.heap.size 2 1 (.slice (some ⟨w.heap.size, 0, none⟩) M.length M.length) M.length (((vecs M).map fun x => far x u).map (Value.int .i64)) ∧ Below w.heap.size w w' := by
  have HX := Lib.hid hx
  have HY := Lib.hid hy
  have HL := Lib.hid (vecs_len M)
  have HU := Lib.hid hu
  have HA := Lib.hid ha
  have HN := Lib.hid hn
  clear hx hy hu ha hn
  obtain ⟨i0, hi, hz0, hz1, hz2⟩ := info_parts info64q
  go_enter Tryz.func33, Tryz.ntmps33
  go_wp2_with (at_make; refine wpList_make_full _ rfl _ _ 80 rfl w.heap.size 2 i0 (.int .i64 0) 1 Tryz.underlying80 hi hz0 hz1 _ _ _ _ M.length rfl rfl rfl rfl (by rw [hz2]; omega) (by unfold maxLen; omega) (Nat.le_refl _) ?_; intro w2 hown hgrow)
  have HF := Lib.hid (FilZ.made hown)
  have HB2 := Lib.hid (below_of_grown0 hgrow)
  clear hown hgrow hi hz0 hz1 hz2
  obtain ⟨g, eg⟩ : ∃ g, w.heap.size = g := ⟨_, rfl⟩
  rw [eg] at HF HB2 ⊢
  have HG := Lib.hid eg
  clear eg
  go_loopw [13] (fun i wr => ∃ k : Nat, k ≤ M.length ∧ i = .int .i64 k ∧ Hid (FilZ wr g g M.length 2 (.int .i64 0) ((farsK (vecs M) u k).map (Value.int .i64))) ∧ Hid (Below g w wr)) (fun i _ => M.length - (intOf i).toNat)
  case atStart => exact ⟨0, by omega, rfl, by simpa [farsK] using HF, HB2⟩
  case round =>
    clear HF HB2
    obtain ⟨k, hk, rfl, HF, HB⟩ := hrel
    have bw : Below w.heap.size w wr := by rw [HG.out]; exact HB.out
    by_cases hlt : k < M.length
    · have eL : decide ((k : Int) < (M.length : Int)) = true := decide_eq_true (by omega)
      obtain ⟨b, off, a1, c1, v, rfl, hBk, hck, hrd, hv1⟩ := (HX.out.below bw).rd.at_ hlt
      have hvm : v ∈ vecs M := List.mem_of_getElem? (vecs_at hv1.out)
      have hvl := HA.out v hvm
      have g1 : (0 : Int) ≤ (k : Int) := by omega
      have g2 : (k : Int) < (M.length : Int) := by omega
      have DI := Lib.hid (dist_yes a1 B c1 d v u (by have := HU.out; omega) (by have := HU.out; omega) hvl.symm n (by rw [HN.out]; exact hvl.symm) wr hrd (HY.out.below bw).rd (HX.out.b8 v hvm) HY.out.b8)
      have ES := Lib.hid (farsK_succ (u := u) (vecs_at hv1.out))
      obtain ⟨T, eT⟩ : ∃ T, (farsK (vecs M) u k).map (Value.int .i64) = T := ⟨_, rfl⟩
      have HTL := Lib.hid (show T.length = k by rw [← eT, List.length_map, farsK_len (by rw [HL.out]; exact hk)])
      rw [eT] at HF
      have HTE := Lib.hid (show (farsK (vecs M) u (k + 1)).map (Value.int .i64) = T ++ [.int .i64 (far v u)] by rw [ES.out, List.map_append, eT]; rfl)
      clear eT ES hv1 hvm hvl hrd bw
      go_wp2_with (go_at_call 93; refine DI.out.mono ?_; rintro e w5 ⟨rfl, hb5⟩
                   have HT5 := Lib.hid (HF.out.below hb5)
                   have cr5 : w5.cell? ⟨g, k, none⟩ = some (.int .i64 0) := by
                     have := HT5.out.cell (by rw [HTL.out]; exact hlt)
                     rwa [HTL.out] at this
                   have fr5 : w5.frozen? ⟨g, k, none⟩ = false := HT5.out.frozen k
                   have HB5 := Lib.hid hb5
                   clear hb5)
      have hp5 := HT5.out.put (by rw [HTL.out]; exact hlt) (.int .i64 (far v u))
      rw [HTL.out, ← HTE.out] at hp5
      have hbl : Below g w (w5.setCell ⟨g, k, none⟩ (.int .i64 (far v u))) := (HB.out.trans (HB5.out.mono (by have := HB.out.size; have := HG.out; omega))).setCell (p := ⟨g, k, none⟩) (Nat.le_refl _) _
      have HP := Lib.hid hp5
      have HBL := Lib.hid hbl
      clear hp5 hbl
      go_roundw
      case rel => exact ⟨k + 1, by omega, by go_num, HP, HBL⟩
      case measure => simp [intOf]; omega
    · obtain rfl : k = M.length := by omega
      have eL : decide ((M.length : Int) < (M.length : Int)) = false := decide_eq_false (by omega)
      have HD := Lib.hid (HF.out.done (by rw [List.length_map, farsK_len (by rw [HL.out]; omega)]))
      have HBE := Lib.hid bw
      have HE := Lib.hid (show farsK (vecs M) u M.length = (vecs M).map fun x => far x u by unfold farsK; rw [← HL.out, List.take_length])
      clear bw HF
      go_wp2
      go_ret
      rw [HG.out]
      refine ⟨rfl, ?_, by rw [← HG.out]; exact HBE.out⟩
      rw [← HE.out]
      exact HD.out
end Go.Proofs.YthbimjkcpmffcaaGreat
/- Package pq: Table. -/
namespace Go.Proofs.YthbimjkcpmffcaaGreat
open Go.RowKit Go.Shelf
set_option linter.unusedVariables false
attribute [local go_sem] Oper.semAt_some
theorem apartT_snoc {w w' : World} {base : Nat} {L : List Vc} {x : Vc} (h : ApartL L) (hy : ∀ y ∈ L, TOwn w base y) (hx : TOwn w' w.heap.size x) : ApartL (L ++ [x]) := by
  unfold ApartL
  rw [List.pairwise_append]
  refine ⟨h, List.pairwise_singleton _ _, fun y hy1 z hz => ?_⟩
  rw [List.mem_singleton] at hz
  subst hz
  cases hb : (Value.slice y.1 y.2.2.length y.2.1).ownBlock with
  | none => exact .inl rfl
  | some g =>
    refine .inr (fun e => ?_)
    have h1 := ((hy y hy1).lt g hb).2
    have h2 := (hx.lt g e.symm).1
    omega
theorem FilZ.putG {w : World} {base g n : Nat} {e : TypeId} {z : Value} {T : List Value} (h : FilZ w base g n e z T) (v : Value) : w.grownBy (w.setCell ⟨g, T.length, none⟩ v) (some g) := (h.row.stored T.length v).2
theorem TOwn.putObj {w : World} {base D : Nat} {x : Vc} {o o' : Obj} (h : TOwn w base x) (ho : w.heap[D]? = some o) (hc : o.isCells = false) : TOwn (w.putObj D o') base x := by
  obtain ⟨h1, h2⟩ := h
  refine ⟨h1, ?_⟩
  rcases h2 with h2 | ⟨g', cap, cur, hv, hb, hw, h4⟩
  · exact .inl h2
  · exact .inr ⟨g', cap, cur, hv, hb, whole_putW (show Whole w g' _ cur from hw) ho hc, h4⟩
theorem TOwn.keptW {w w' : World} {base B : Nat} {x : Vc} {row : Option Nat} (h : TOwn w base x) (hg : w.grownBy w' row) (hr : ∀ r, row = some r → B ≤ r ∧ ∃ o : Obj, w.heap[r]? = some o ∧ o.isCells = false) : TOwn w' base x := by
  obtain ⟨h1, h2⟩ := h
  refine ⟨h1, ?_⟩
  rcases h2 with h2 | ⟨g', cap, cur, hv, hb, hw, h4⟩
  · exact .inl h2
  · exact .inr ⟨g', cap, cur, hv, hb, whole_keptW (show Whole w g' _ cur from hw) hg hr, h4⟩
def tabK (ps : List (List (List Int))) (v : List Int) (k : Nat) : List (List Int) := (List.range k).map fun p => (pAt ps p).map fun w => far w (partAt v p ps.length)
theorem tabK_succ (ps : List (List (List Int))) (v : List Int) (k : Nat) : tabK ps v (k + 1) = tabK ps v k ++ [(pAt ps k).map fun w => far w (partAt v k ps.length)] := by simp [tabK, List.range_succ]
theorem tabK_len (ps : List (List (List Int))) (v : List Int) (k : Nat) : (tabK ps v k).length = k := by simp [tabK]
/-- A table of the call's own, of n places, of which the first ones are filled. -/
structure FilT (base : Nat) (w : World) (g n : Nat) (T : List Vc) : Prop where
  row : FilZ w base g n 80 (.slice none 0 0) (cellsV T)
  own : ∀ x ∈ T, TOwn w base x
  apart : ApartL T
theorem FilT.below {base : Nat} {w w' : World} {g n : Nat} {T : List Vc} (h : FilT base w g n T) (hb : Below w.heap.size w w') : FilT base w' g n T := ⟨h.row.below hb, fun x hx => own_below (h.own x hx) hb, h.apart⟩
theorem FilT.put {base : Nat} {w w' : World} {g n : Nat} {T : List Vc} (h : FilT base w g n T) (hk : T.length < n) (hb : Below w.heap.size w w') (hbase : base ≤ w.heap.size) {x : Vc} (hx : TOwn w' w.heap.size x) : FilT base (w'.setCell ⟨g, T.length, none⟩ (.slice x.1 x.2.2.length x.2.1)) g n (T ++ [x]) := by
  have hl : (cellsV T).length = T.length := by simp [cellsV]
  have hr := h.row.below hb
  have h1 := hr.put (by rw [hl]; exact hk) (.slice x.1 x.2.2.length x.2.1)
  have h2 := hr.putG (.slice x.1 x.2.2.length x.2.1)
  rw [hl] at h1 h2
  refine ⟨by rw [show cellsV (T ++ [x]) = cellsV T ++ [.slice x.1 x.2.2.length x.2.1] by simp [cellsV]]; exact h1, fun y hy => ?_, apartT_snoc h.apart h.own hx⟩
  rcases List.mem_append.1 hy with h3 | h3
  · exact TOwn.grown (x := y) (own_below (h.own y h3) hb) hr.row h2
  · rw [List.mem_singleton] at h3
    subst h3
    exact TOwn.grown (x := y) (own_base hx hbase) hr.row h2
/-- What Table's loop keeps. -/
structure TbSt (g r s : Nat) (w : World) (V : Value) (n : Nat) (v : List Int) (ps : List (List (List Int))) (pre : List Nat) (W : World) : Prop where
  bel : Below g w W
  box : Whole W g 24 #[.int .i64 n, V]
  sl : Whole W s 34 #[.slice (some ⟨r, 0, none⟩) n n]
  row : ∃ T, FilT g W r n T ∧ vecs T = tabK ps v pre.length
set_option maxRecDepth 100000 in
set_option maxHeartbeats 1000000 in
theorem table_no (P : Int) (A : Option Addr) (c : Nat) (L : List Pc) (B : Option Addr) (d : Nat) (v : List Int) (w : World) (hx : PArg w A L) (hb : bookB P (words L) v.length = false) :
    Calls Tryz.prog 10 #[.agg #[.int .i64 P, .slice A L.length c], .slice B v.length d] w fun e w' => e = .returned (.tuple #[.slice none 0 0, .int .i64 1]) ∧ Below w.heap.size w w' := by
  obtain ⟨W0, B0, S0⟩ := box1 w (.int .i64 P) (.slice A L.length c) 24
  have CK := check_any P A c L v.length _ (hx.below B0)
  rw [hb] at CK
  have HC := Lib.hid CK
  have HB0 := Lib.hid B0
  have c0 := W0.cell 0
  have c1 := W0.cell 1
  clear CK B0 S0 W0 hb hx
  go_enter Tryz.func10, Tryz.ntmps10
  go_wp2_with (go_at_call 15; refine HC.out.mono ?_; rintro e w1 ⟨rfl, hb1⟩)
  go_ret2
  exact ⟨rfl, HB0.out.trans (hb1.mono HB0.out.size)⟩
set_option maxRecDepth 100000 in
set_option maxHeartbeats 2000000 in
theorem table_yes (A : Option Addr) (c n : Nat) (L : List Pc) (b off d : Nat) (v : List Int) (w : World) (hx : PArg w A L) (hy : NArg w (some ⟨b, off, none⟩) v) (hd : v.length ≤ d) (hn : n = L.length) (hok : BookOk (words L) v.length) :
    CallsIn Fence.wide 9 Tryz.prog 10 #[.agg #[.int .i64 n, .slice A n c], .slice (some ⟨b, off, none⟩) v.length d] w fun e w' => TAns w (tabL (words L) v) 0 e w' := by
  have f30 : Fence.wide.fn 15 := trivial
  have f88 : Fence.wide.fn 31 := trivial
  have f89 : Fence.wide.fn 33 := trivial
  obtain ⟨W0, B0, S0⟩ := box1 w (.int .i64 n) (.slice A n c) 24
  have CK := check_any n A c L v.length _ (hx.below B0)
  have hbk : bookB n (words L) v.length = true := bookB_mk (by rw [words_len, hn]) hok
  rw [hbk, ← hn] at CK
  have HC := Lib.hid CK
  have HB0 := Lib.hid B0
  have HX := Lib.hid hx
  have HY := Lib.hid hy
  have HN := Lib.hid hn
  have HOK := Lib.hid hok
  have HW0 := Lib.hid W0
  have HS0 := Lib.hid S0
  have c0 := W0.cell 0
  have c1 := W0.cell 1
  have hn64 : n ≤ 64 := by have h1 := hok.2.1; have h2 := hok.2.2.2.1; rw [words_len] at h2; omega
  clear CK B0 S0 W0 hbk hx hy hn hok
  refine callsIn_of_wp_marks Tryz.func10 rfl trivial ?_ rfl
  simp only [Tryz.ntmps10, List.size_toArray, List.length_cons, List.length_nil, Nat.reduceAdd, Nat.reduceSub, Array.replicate_succ, Array.replicate_zero, List.push_toArray, List.append_toArray, List.nil_append, List.cons_append]
  gi_wp2_with (first
    | (gi_at_call 15; refine (callsIn_wide.2 HC.out).mono ?_; rintro e w1 ⟨rfl, hb1⟩
       have k0 : w1.cell? ⟨w.heap.size, 0, none⟩ = some (.int .i64 n) := (HW0.out.below hb1 (by have := HS0.out; omega)).cell 0
       obtain ⟨i0, hi, hz0, hz1, hz2⟩ := info_parts Tryz.info80v
       obtain ⟨w2, hmk, ho2, hg2⟩ := run_make_full (P := Tryz.prog) w1 w1.heap.size 34 80 i0 (.slice none 0 0) 1 Tryz.underlying34 hi hz0 hz1 .i64 .i64 n (by rw [hz2]; omega) (by unfold maxLen; omega) (Nat.le_refl _)
       have HF2 := Lib.hid (FilZ.made (show w2.ownsRow w1.heap.size 80 1 (.slice (some ⟨w1.heap.size, 0, none⟩) n n) n (madeCells #[Value.slice none 0 0] (n * 1)).toList from ho2))
       have HB2 := Lib.hid (below_of_grown0 hg2)
       have HB1 := Lib.hid hb1
       have k1 : (w2.alloc (.cells #[.slice (some ⟨w1.heap.size, 0, none⟩) n n] 34)).cell? ⟨w.heap.size, 0, none⟩ = some (.int .i64 n) :=
         cell_lit (((HW0.out.below hb1 (by have := HS0.out; omega)).below HB2.out (by have := HS0.out; have := hb1.size; omega)).cell 0)
       clear hb1 hi hz0 hz1 hz2 i0 ho2 hg2)
    | (gi_at_call 31; refine (callsIn_wide.2 (partsOf_any _ v.length d n _)).mono ?_; rintro e w3 ⟨rfl, h3⟩; subst h3))
  have hs0 := HS0.out
  have hb1 := HB1.out
  have hs1 := hb1.size
  have hs2 := HB2.out.size
  obtain ⟨W3, eW3⟩ : ∃ W3, w2.alloc (.cells #[.slice (some ⟨w1.heap.size, 0, none⟩) n n] 34) = W3 := ⟨_, rfl⟩
  have hW3 : W3.heap.size = w2.heap.size + 1 := by rw [← eW3]; simp
  have hl3 : Whole W3 w2.heap.size 34 #[.slice (some ⟨w1.heap.size, 0, none⟩) n n] := by rw [← eW3]; exact Whole.new w2 34 _
  have hb3 : Below w2.heap.size w2 W3 := by rw [← eW3]; exact below_one (Below.refl _ _) _
  rw [eW3, ← hW3]
  clear eW3 k1 hmk k0 c0 c1
  have tn := two_one W3 (.slice (some ⟨b, off, none⟩) v.length d) (.int .i64 n) 25 3
  obtain ⟨W4, eW4⟩ : ∃ W4, (W3.alloc (.cells #[.slice (some ⟨b, off, none⟩) v.length d] 25)).alloc (.cells #[.int .i64 n] 3) = W4 := ⟨_, rfl⟩
  rw [eW4] at tn ⊢
  clear eW4
  obtain ⟨tn1, tn2, tn3, tn4⟩ := tn
  obtain ⟨s3, es3⟩ : ∃ s3, W3.heap.size = s3 := ⟨_, rfl⟩
  have b14 : Below w1.heap.size w1 W4 := (HB2.out.trans (hb3.mono hs2)).trans (tn3.mono (by omega))
  have b04 : Below w.heap.size w W4 := (HB0.out.trans (hb1.mono (by omega))).trans (b14.mono (by omega))
  have hf4 : FilZ W4 w.heap.size w1.heap.size n 80 (.slice none 0 0) [] := ⟨own_base ((HF2.out.below hb3).below tn3).row (by omega), by simp⟩
  have hx4 : Whole W4 w.heap.size 24 #[.int .i64 n, .slice A n c] := (HW0.out.below hb1 (by omega)).below b14 (by omega)
  have hl4 : Whole W4 w2.heap.size 34 #[.slice (some ⟨w1.heap.size, 0, none⟩) n n] := hl3.below tn3 (by omega)
  rw [es3] at tn1 tn2 tn4 hW3 ⊢
  obtain ⟨g, eg⟩ : ∃ g, w.heap.size = g := ⟨_, rfl⟩
  obtain ⟨r, er⟩ : ∃ r, w1.heap.size = r := ⟨_, rfl⟩
  obtain ⟨s, es⟩ : ∃ s, w2.heap.size = s := ⟨_, rfl⟩
  rw [eg] at b04 hf4 hx4 hs0
  rw [er] at hf4 hl4 hs2
  rw [es] at hl4 hW3 hs2
  rw [eg, er, es]
  have hgr : g + 1 ≤ r := by rw [← er]; omega
  have st0 : TbSt g r s w (.slice A n c) n v (words L) [] W4 := ⟨b04, hx4, hl4, [], ⟨by simpa [cellsV] using hf4, fun x hx => by simp at hx, ApartL.nil⟩, rfl⟩
  have HG := Lib.hid eg
  have HR4 := Lib.hid (show g < r ∧ r < s ∧ s < s3 ∧ s3 + 2 = W4.heap.size by
    have := hf4.ge.2
    have := (FilZ.ge HF2.out).2
    rw [er, es] at this
    omega)
  clear hf4 hx4 hl4 hl3 b14 b04 tn3 hb3 hb1 hs1 hs2 hs0 hW3 es3 HB0 HB1 HB2 HF2 HW0 HS0 eg er es HC
  obtain ⟨hgr, hrs, hs3, hs4⟩ := HR4.out
  have hNL : 1 ≤ n ∧ n ≤ v.length ∧ v.length ≤ 64 := by
    have h1 := HOK.out.2.1; have h2 := HOK.out.2.2.1; have h3 := HOK.out.2.2.2.1; rw [words_len, ← HN.out] at h2 h3; omega
  have mixed : Tryz.prog.follows .mixedOrders = true := by kernel_rfl
  refine wpIn_rangeFunc_N rfl (by omega : 1 ≤ 9) (gf := 90) (lb := #[.pointer (some ⟨s3 + 1, 0, none⟩), .pointer (some ⟨s3, 0, none⟩)]) rfl trivial (enters_of Tryz.func90 (by kernel_rfl) rfl)
    (partsI_seq n (9 - 1) (s3 + 1) s3 b off v.length d (by omega) (by omega) (by omega) (by omega) (by omega) W4 tn2 tn1) (fun h k => h.trans k) (fun W l o o' _ ho hc _ => Keeps.put W l o o' ho hc) (Below.refl _ _) (fun _ => rfl)
    (TbSt g r s w (.slice A n c) n v (words L)) (fun c' pre W => False)
    (fun pre W W' row hs hg hr => ⟨hs.bel.grown hg (by have := hs.bel.size; have := HG.out; omega) (fun k e => by have := (hr k e).1; have := HR4.out; omega), whole_keptW hs.box hg hr, whole_keptW hs.sl hg hr, by obtain ⟨T, h1, h2⟩ := hs.row; exact ⟨T, ⟨h1.row.kept hg hr, fun x hx => (h1.own x hx).keptW hg hr, h1.apart⟩, h2⟩⟩)
    (fun c' pre W W' row hs hg hr => hs)
    st0
    (fun x => { tmps := #[.agg #[.int .i64 n, .slice A n c], .slice (some ⟨b, off, none⟩) v.length d, .pointer (some ⟨g, 0, none⟩), undef, .slice none 0 0, .int .i64 0, .pointer (some ⟨s, 0, none⟩), .int .i64 x, .slice (some ⟨b, off + beg x n v.length, none⟩) (beg (x + 1) n v.length - beg x n v.length) (beg (x + 1) n v.length - beg x n v.length),
      .agg #[.int .i64 n, .slice A n c], .slice (some ⟨b, off, none⟩) v.length d, .int .i64 v.length, .bool true, .bool false, .pointer (some ⟨g, 0, none⟩), .int .i64 n, .slice (some ⟨r, 0, none⟩) n n, .slice (some ⟨b, off, none⟩) v.length d, .pointer (some ⟨g, 0, none⟩), .int .i64 n,
      .func (.func 90) #[] #[.pointer (some ⟨s3 + 1, 0, none⟩), .pointer (some ⟨s3, 0, none⟩)], .int .i64 x, .slice (some ⟨b, off + beg x n v.length, none⟩) (beg (x + 1) n v.length - beg x n v.length) (beg (x + 1) n v.length - beg x n v.length),
      undef, undef, undef, undef, undef, undef, undef, undef, undef, undef, undef], defers := [] }) ?assign ?body ?done ?stop
  case assign =>
    intro l x W K hK
    simp only [encI]
    gi_wp2
    exact hK
  case body =>
    rintro l pre x W hs ⟨hxp, hxn⟩
    have hbW : Below w.heap.size w W := by rw [HG.out]; exact hs.bel
    obtain ⟨b2, off2, a2, c2, M2, rfl, hb2, hc2, hv2, hM2⟩ := (HX.out.below hbW).at_ (i := x) (by have := HN.out; omega)
    have HM := Lib.hid (show pAt (words L) x = vecs M2 from words_pAt hM2.out)
    have hxL : x < (words L).length := by rw [words_len, ← HN.out]; exact hxn
    have hlW : (words L).length = n := by rw [words_len, ← HN.out]
    have hpa : NArg W (some ⟨b, off + beg x n v.length, none⟩) (partAt v x n) := by
      have h1 : beg (x + 1) n v.length ≤ v.length := beg_le (by omega) (by omega)
      refine ⟨rd_seg (HY.out.below hbW).rd h1, ?_, part_b8 HY.out.b8⟩
      rw [part_len (by omega) hxn]; omega
    have hpl : (partAt v x n).length = beg (x + 1) n v.length - beg x n v.length := part_len (by omega) hxn
    have hwl := HOK.out.all hxL
    rw [hlW, HM.out] at hwl
    have hbk := HOK.out.2.2.2.2 x hxL
    rw [HM.out, vecs_len] at hbk
    have hp1 := HOK.out.part hxL
    rw [hlW] at hp1
    have NE := apartP_any a2 c2 M2 (some ⟨b, off + beg x n v.length, none⟩) (beg (x + 1) n v.length - beg x n v.length) (beg (x + 1) n v.length - beg x n v.length) (partAt v x n) W.drew (hv2.below (Below.refl _ _).drew) (hpa.below (Below.refl _ _).drew) hpl.symm (by rw [hpl]; exact hp1) hbk.2.1 (fun u hu => by rw [hpl]; exact hwl u hu)
    have HNE := Lib.hid NE
    obtain ⟨T, hT, hTv⟩ := hs.row
    have HTL := Lib.hid (show T.length = x by have := congrArg List.length hTv; rw [vecs_len, tabK_len, ← hxp] at this; exact this)
    have HTV := Lib.hid (show vecs T ++ [(vecs M2).map fun u => far u (partAt v x n)] = tabK (words L) v (x + 1) by rw [hTv, tabK_succ, HM.out, hlW, hxp])
    have HT := Lib.hid hT
    have cb : W.drew.cell? ⟨g, 1, none⟩ = some (.slice (some ⟨b2, off2, none⟩) n c) := (hs.box.below (Below.refl _ _).drew hs.box.lt).cell 1
    have cs : W.drew.cell? ⟨s, 0, none⟩ = some (.slice (some ⟨r, 0, none⟩) n n) := (hs.sl.below (Below.refl _ _).drew hs.sl.lt).cell 0
    have c2d : W.drew.cell? ⟨b2, off2 + x, none⟩ = some (.slice a2 M2.length c2) := hc2
    have HS := Lib.hid hs
    have HP := Lib.hid hxp
    have x0 : (0 : Int) ≤ (x : Int) := by omega
    have hxn2 : (x : Int) < (n : Int) := by omega
    obtain ⟨V, eV⟩ : ∃ V, (vecs M2).map (fun u => far u (partAt v x n)) = V := ⟨_, rfl⟩
    rw [eV] at HNE HTV
    have HVL := Lib.hid (show V.length = M2.length by rw [← eV, List.length_map, vecs_len])
    clear NE hv2 hpa hM2 hs hxp hbW eV hT hTv hwl hbk hp1 hpl hc2
    gi_wp2
    refine region_unround mixed rfl (by simp) ?_
    repeat' (first
      | refine wpAnyIn_done (by decide +kernel) ?_ _
      | (refine wpAnyIn_take (i := 1) (v := ?_) rfl rfl (by decide +kernel) (by decide +kernel) (by decide +kernel) (fun _ _ _ h => h) ⟨Or.inl ⟨by rfl, ?_⟩, fun _ => rfl⟩ ?_; rotate_left; (intro w; go_simp; try with_reducible rfl); rotate_left)
      | (refine wpAnyIn_take (i := 2) (v := ?_) rfl rfl (by decide +kernel) (by decide +kernel) (by decide +kernel) (fun _ _ _ h => h) ⟨Or.inl ⟨by rfl, ?_⟩, fun _ => rfl⟩ ?_; rotate_left; (intro w; go_simp; try with_reducible rfl); rotate_left)
      | (refine wpAnyIn_take (i := 4) (v := ?_) rfl rfl (by decide +kernel) (by decide +kernel) (by decide +kernel) (fun _ _ _ h => h) ⟨Or.inl ⟨by rfl, ?_⟩, fun _ => rfl⟩ ?_; rotate_left; (intro w; go_simp; try with_reducible rfl); rotate_left)
      | (refine wpAnyIn_take (i := 5) (v := ?_) rfl rfl (by decide +kernel) (by decide +kernel) (by decide +kernel) (fun _ _ _ h => h) ⟨Or.inl ⟨by rfl, ?_⟩, fun _ => rfl⟩ ?_; rotate_left; (intro w; go_simp; try with_reducible rfl); rotate_left)
      | (refine wpAnyIn_take (i := 7) (v := ?_) rfl rfl (by decide +kernel) (by decide +kernel) (by decide +kernel) (fun _ _ _ h => h) ⟨Or.inl ⟨by rfl, ?_⟩, fun _ => rfl⟩ ?_; rotate_left; (intro w; go_simp; try with_reducible rfl); rotate_left)
      | (refine wpAnyIn_take (i := 9) (v := ?_) rfl rfl (by decide +kernel) (by decide +kernel) (by decide +kernel) (fun _ _ _ h => h) ⟨Or.inl ⟨by rfl, ?_⟩, fun _ => rfl⟩ ?_; rotate_left; (intro w; go_simp; try with_reducible rfl); rotate_left)
      | refine wpAnyIn_ready (rs := [0, 3]) (by decide +kernel) (by simp) (AllReadyIn.cons rfl (fun K hK => ?_) (AllReadyIn.cons rfl (fun K hK => ?_) AllReadyIn.nil))
      | refine wpAnyIn_ready (rs := [0, 6]) (by decide +kernel) (by simp) (AllReadyIn.cons rfl (fun K hK => ?_) (AllReadyIn.cons rfl (fun K hK => ?_) AllReadyIn.nil))
      | refine wpAnyIn_ready (rs := [0, 8]) (by decide +kernel) (by simp) (AllReadyIn.cons rfl (fun K hK => ?_) (AllReadyIn.cons rfl (fun K hK => ?_) AllReadyIn.nil))
      | refine wpAnyIn_ready (rs := [0]) (by decide +kernel) (by simp) (AllReadyIn.cons rfl (fun K hK => ?_) AllReadyIn.nil)
      | refine wpAnyIn_ready (rs := [3]) (by decide +kernel) (by simp) (AllReadyIn.cons rfl (fun K hK => ?_) AllReadyIn.nil)
      | refine wpAnyIn_ready (rs := [6]) (by decide +kernel) (by simp) (AllReadyIn.cons rfl (fun K hK => ?_) AllReadyIn.nil)
      | refine wpAnyIn_ready (rs := [8]) (by decide +kernel) (by simp) (AllReadyIn.cons rfl (fun K hK => ?_) AllReadyIn.nil)
      | refine wpAnyIn_ready (rs := [10]) (by decide +kernel) (by simp) (AllReadyIn.cons rfl (fun K hK => ?_) AllReadyIn.nil)
      | (with_reducible change (if _ then _ else _); go_simp; refine hK _ _ ?_; clear hK K)
      | (with_reducible change (if _ then _ else _); go_simp
         refine (callsIn_wide.2 HNE.out).mono ?_
         rintro e w5 ⟨rfl, ho5, hb5⟩
         have cs5 : w5.cell? ⟨s, 0, none⟩ = some (.slice (some ⟨r, 0, none⟩) n n) := ((HS.out.sl.below (Below.refl _ _).drew HS.out.sl.lt).below hb5 HS.out.sl.lt).cell 0
         have cr5 : w5.cell? ⟨r, x, none⟩ = some (.slice none 0 0) := by
           have := (((HT.out.row.below (Below.refl _ _).drew)).below hb5).cell (by rw [show (cellsV T).length = T.length by simp [cellsV], HTL.out]; exact hxn)
           rwa [show (cellsV T).length = T.length by simp [cellsV], HTL.out] at this
         have fr5 : w5.frozen? ⟨r, x, none⟩ = false := (((HT.out.row.below (Below.refl _ _).drew)).below hb5).frozen x
         have HB5 := Lib.hid hb5
         have HO5 := Lib.hid ho5
         clear hb5 ho5
         refine hK _ _ ?_
         clear hK K))
    all_goals
      have hp := FilT.put (x := (some ⟨W.heap.size, 0, none⟩, M2.length, V)) (HT.out.below (Below.refl _ _).drew) (by rw [HTL.out]; exact hxn) HB5.out (by have := HS.out.bel.size; have := HG.out; show g ≤ W.heap.size; omega)
        (show w5.ownsRow W.drew.heap.size 2 1 (.slice (some ⟨W.heap.size, 0, none⟩) V.length M2.length) V.length (V.map (Value.int .i64)) by rw [HVL.out]; exact HO5.out)
      dsimp only at hp
      rw [HTL.out, HVL.out] at hp
      refine ⟨((keepsF_of_below (Below.refl _ _).drew).trans (keepsF_of_below HB5.out)).trans (keepsF_set _ (by omega) _), ((keepsK_of_below (Below.refl _ _).drew).trans (keepsK_of_below HB5.out)).trans (keepsK_set (fun k t hk => by rcases hk with hk | hk <;> omega)), ?_⟩
      refine ⟨((HS.out.bel.drew).trans (HB5.out.mono (by have := HS.out.box.lt; show g ≤ W.heap.size; omega))).setCell (p := ⟨r, x, none⟩) (by show g ≤ r; omega) _, whole_other ((HS.out.box.below (Below.refl _ _).drew HS.out.box.lt).below HB5.out HS.out.box.lt) (by omega), whole_other ((HS.out.sl.below (Below.refl _ _).drew HS.out.sl.lt).below HB5.out HS.out.sl.lt) (by omega), _, hp, ?_⟩
      rw [List.length_append, List.length_singleton, ← HP.out, ← HTV.out]
      simp [vecs]
  case done =>
    rintro D ys W hD hys hs hK
    have cs : W.cell? ⟨s, 0, none⟩ = some (.slice (some ⟨r, 0, none⟩) n n) := hs.sl.cell 0
    have HS := Lib.hid hs
    clear hs
    gi_wp2
    refine ⟨by simp, .inl ⟨_, _, rfl, run_takeDeferred hK, ?_⟩⟩
    obtain ⟨T, hT, hTv⟩ := HS.out.row
    have hTl : T.length = n := by have := congrArg List.length hTv; rw [vecs_len, tabK_len, hys] at this; exact this
    have hro := (hT.row.putObj (o' := .deferred none) hK rfl).done (by simp [cellsV, hTl])
    refine ⟨_, results_tmp2 rfl _ _ _, some ⟨r, 0, none⟩, n, T, by rw [hTl]; rfl, ⟨?_, fun x hx => ?_⟩, hT.apart, ?_, ?_⟩
    · rw [HG.out, hTl]; exact hro
    · rw [HG.out]; exact (hT.own x hx).putObj hK rfl
    · rw [hTv, hys]; unfold tabK tabL; rw [words_len, ← HN.out]
    · have hb := HS.out.bel
      rw [← HG.out] at hb
      exact hb.trans (belowK_b (w := w) (Nat.le_refl _) W D _ _ (by have := HG.out; omega) hK rfl rfl)
  case stop =>
    rintro D c pre W _ _ h _
    exact h.elim
theorem TAns.nil (w : World) (E : Int) {w' : World} (h : Below w.heap.size w w') : TAns w [] E (.returned (.tuple #[.slice none 0 0, .int .i64 E])) w' := ⟨none, 0, [], rfl, OwnT.nil _ _, ApartL.nil, rfl, h⟩
theorem table_spec : PqTableSpec := by
  intro P A c L B d v w hx hy hd
  cases h : bookB P (words L) v.length with
  | false =>
    refine (table_no P A c L B d v w hx h).mono ?_
    rintro e w' ⟨rfl, hb⟩
    have e1 : tabA P (words L) v = [] := by unfold tabA; rw [h]; rfl
    rw [e1]
    exact TAns.nil w 1 hb
  | true =>
    obtain ⟨h1, h2⟩ := bookB_yes h
    obtain ⟨b, off, rfl⟩ := rd_some hy.rd h2.1
    rw [words_len] at h1
    subst h1
    have e1 : tabA (L.length : Int) (words L) v = tabL (words L) v := by unfold tabA; rw [h]; rfl
    rw [e1]
    exact callsIn_wide.1 (table_yes A c L.length L b off d v w hx hy hd rfl h2)
end Go.Proofs.YthbimjkcpmffcaaGreat
