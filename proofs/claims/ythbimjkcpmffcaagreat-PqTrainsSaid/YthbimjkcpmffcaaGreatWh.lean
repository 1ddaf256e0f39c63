/- Package pq: Encode. -/
import Derived.Test.YthbimjkcpmffcaaGreatWd
import Derived.Test.YthbimjkcpmffcaaGreatWe
import Derived.Test.YthbimjkcpmffcaaGreatMn
namespace Go.Proofs.YthbimjkcpmffcaaGreat
open Go.RowKit Go.Shelf
set_option linter.unusedVariables false
attribute [local go_sem] Oper.semAt_some
theorem keepsF_of_below {B : Nat} {W W' : World} (h : Below W.heap.size W W') : KeepsFrom B W W' := ⟨h.size, fun k o _ h2 _ => (h.block k (Array.getElem?_eq_some_iff.1 h2).1).trans h2⟩
theorem keepsK_of_below {K : Nat → TypeId → Prop} {W W' : World} (h : Below W.heap.size W W') : Keeps K W W' := ⟨h.size, fun k cs t fr _ h2 => (h.block k (Array.getElem?_eq_some_iff.1 h2).1).trans h2⟩
theorem keepsF_set {B b i : Nat} (W : World) (h : b < B) (v : Value) : KeepsFrom B W (W.setCell ⟨b, i, none⟩ v) := ⟨by simp, fun k o hk h2 _ => (Below.heap_setCell _ _ _ _ (show k ≠ b by omega)).trans h2⟩
theorem keepsK_set {K : Nat → TypeId → Prop} {W : World} {b i : Nat} {v : Value} (h : ∀ k t, K k t → k ≠ b) : Keeps K W (W.setCell ⟨b, i, none⟩ v) := ⟨by simp, fun k cs t fr hK hk => (Below.heap_setCell _ _ _ _ (h k t hK)).trans hk⟩
theorem seg_at {v : List Int} {f t i : Nat} (hi : i < (seg v f t).length) : (seg v f t)[i]?.getD 0 = v[f + i]?.getD 0 := by
  have h : i < t - f := by unfold seg at hi; rw [List.length_take] at hi; omega
  unfold seg
  rw [List.getElem?_take, if_pos h, List.getElem?_drop]
theorem rd_seg {k : IntKind} {w : World} {B b off : Nat} {v : List Int} {f t : Nat} (h : Rd k w B (some ⟨b, off, none⟩) v) (ht : t ≤ v.length) : Rd k w B (some ⟨b, off + f, none⟩) (seg v f t) := by
  intro hl
  have hl2 : (seg v f t).length = t - f := seg_len ht
  obtain ⟨b', o', hA, hB, hc⟩ := h (by omega)
  injection hA with hA
  injection hA with q1 q2
  subst q1; subst q2
  refine ⟨b, off + f, rfl, hB, fun i hi => ?_⟩
  have := hc (f + i) (by omega)
  rw [← Nat.add_assoc] at this
  rw [this, seg_at hi]
def encK (ps : List (List (List Int))) (v : List Int) (k : Nat) : List Int := (List.range k).map fun p => ((nearestI (pAt ps p) (partAt v p ps.length) : Nat) : Int)
theorem encK_len (ps : List (List (List Int))) (v : List Int) (k : Nat) : (encK ps v k).length = k := by simp [encK]
theorem encK_succ (ps : List (List (List Int))) (v : List Int) (k : Nat) : encK ps v (k + 1) = encK ps v k ++ [((nearestI (pAt ps k) (partAt v k ps.length) : Nat) : Int)] := by simp [encK, List.range_succ]
theorem info8u : (Tryz.prog.info? 5).map (fun i => (i.zero, i.size, i.bytes)) = some (some (.int .u8 0), 1, 1) := by kernel_rfl
theorem box1 (w : World) (x y : Value) (t : TypeId) : Whole (w.alloc (.cells #[x, y] t)) w.heap.size t #[x, y] ∧ Below w.heap.size w (w.alloc (.cells #[x, y] t)) ∧ (w.alloc (.cells #[x, y] t)).heap.size = w.heap.size + 1 := ⟨Whole.new w t _, below_one (Below.refl _ _) _, by simp⟩
theorem FilZ.kept {w w' : World} {base g n B : Nat} {e : TypeId} {z : Value} {T : List Value} {row : Option Nat} (h : FilZ w base g n e z T) (hg : w.grownBy w' row) (hr : ∀ r, row = some r → B ≤ r ∧ ∃ o : Obj, w.heap[r]? = some o ∧ o.isCells = false) : FilZ w' base g n e z T := by
  obtain ⟨⟨h1, h2⟩, h3⟩ := h
  refine ⟨⟨h1, ?_⟩, h3⟩
  rcases h2 with h2 | ⟨g', cap, cur, hv, hb, hw, h4⟩
  · exact .inl h2
  · exact .inr ⟨g', cap, cur, hv, hb, whole_keptW (show Whole w g' e cur from hw) hg hr, h4⟩
theorem FilZ.putObj {w : World} {base g n D : Nat} {e : TypeId} {z : Value} {T : List Value} {o o' : Obj} (h : FilZ w base g n e z T) (ho : w.heap[D]? = some o) (hc : o.isCells = false) : FilZ (w.putObj D o') base g n e z T := by
  obtain ⟨⟨h1, h2⟩, h3⟩ := h
  refine ⟨⟨h1, ?_⟩, h3⟩
  rcases h2 with h2 | ⟨g', cap, cur, hv, hb, hw, h4⟩
  · exact .inl h2
  · exact .inr ⟨g', cap, cur, hv, hb, whole_putW (show Whole w g' e cur from hw) ho hc, h4⟩
theorem FilZ.set_other {w : World} {base g n b i : Nat} {e : TypeId} {z v : Value} {T : List Value} (h : FilZ w base g n e z T) (hb : b ≠ g) : FilZ (w.setCell ⟨b, i, none⟩ v) base g n e z T := by
  obtain ⟨⟨h1, h2⟩, h3⟩ := h
  refine ⟨⟨h1, ?_⟩, h3⟩
  rcases h2 with h2 | ⟨g', cap, cur, hv, hb', hw, h4⟩
  · exact .inl h2
  · have : g' = g := by injection hv with q1; injection q1 with q1; injection q1 with q1; exact q1.symm
    subst this
    exact .inr ⟨g', cap, cur, hv, hb', (Below.heap_setCell _ _ _ _ (fun e => hb e.symm)).trans hw, h4⟩
theorem whole_other {W : World} {b t i b2 : Nat} {v : Value} {cs : Array Value} (h : Whole W b t cs) (hb : b ≠ b2) : Whole (W.setCell ⟨b2, i, none⟩ v) b t cs := (Below.heap_setCell _ _ _ _ hb).trans h
/-- What Encode's loop keeps. -/
structure EnSt (g r s : Nat) (w : World) (V : Value) (n : Nat) (v : List Int) (ps : List (List (List Int))) (pre : List Nat) (W : World) : Prop where
  bel : Below g w W
  box : Whole W g 24 #[.int .i64 n, V]
  sl : Whole W s 30 #[.slice (some ⟨r, 0, none⟩) n n]
  row : FilZ W g r n 5 (.int .u8 0) ((encK ps v pre.length).map (Value.int .u8))
set_option maxRecDepth 100000 in
set_option maxHeartbeats 1000000 in
theorem encode_no (P : Int) (A : Option Addr) (c : Nat) (L : List Pc) (B : Option Addr) (d : Nat) (v : List Int) (w : World) (hx : PArg w A L) (hb : bookB P (words L) v.length = false) :
    Calls Tryz.prog 9 #[.agg #[.int .i64 P, .slice A L.length c], .slice B v.length d] w fun e w' => e = .returned (.tuple #[.slice none 0 0, .int .i64 1]) ∧ Below w.heap.size w w' := by
  obtain ⟨W0, B0, S0⟩ := box1 w (.int .i64 P) (.slice A L.length c) 24
  have CK := check_any P A c L v.length _ (hx.below B0)
  rw [hb] at CK
  have HC := Lib.hid CK
  have HB0 := Lib.hid B0
  have c0 := W0.cell 0
  have c1 := W0.cell 1
  clear CK B0 S0 W0 hb hx
  go_enter Tryz.func9, Tryz.ntmps9
  go_wp2_with (go_at_call 15; refine HC.out.mono ?_; rintro e w1 ⟨rfl, hb1⟩)
  go_ret2
  exact ⟨rfl, HB0.out.trans (hb1.mono HB0.out.size)⟩
set_option maxRecDepth 100000 in
set_option maxHeartbeats 2000000 in
theorem encode_yes (A : Option Addr) (c n : Nat) (L : List Pc) (b off d : Nat) (v : List Int) (w : World) (hx : PArg w A L) (hy : NArg w (some ⟨b, off, none⟩) v) (hd : v.length ≤ d) (hn : n = L.length) (hok : BookOk (words L) v.length) :
    CallsIn Fence.wide 9 Tryz.prog 9 #[.agg #[.int .i64 n, .slice A n c], .slice (some ⟨b, off, none⟩) v.length d] w fun e w' => NAns w .u8 5 (encL (words L) v) 0 e w' := by
  have f30 : Fence.wide.fn 15 := trivial
  have f88 : Fence.wide.fn 31 := trivial
  have f35 : Fence.wide.fn 32 := trivial
  obtain ⟨W0, B0, S0⟩ := box1 w (.int .i64 n) (.slice A n c) 24
  have CK := check_any n A c L v.length _ (hx.below B0)
  have hbk : bookB n (words L) v.length = true := bookB_mk (by rw [words_len, hn]) hok
  rw [hbk, ← hn] at CK
  have HC := Lib.hid CK
  have HB0 := Lib.hid B0
  have HX := Lib.hid hx
  have HY := Lib.hid hy
  have HN := Lib.hid hn
  have HOK := Lib.hid hok
  have HW0 := Lib.hid W0
  have HS0 := Lib.hid S0
  have c0 := W0.cell 0
  have c1 := W0.cell 1
  have hn64 : n ≤ 64 := by have h1 := hok.2.1; have h2 := hok.2.2.2.1; rw [words_len] at h2; omega
  clear CK B0 S0 W0 hbk hx hy hn hok
  refine callsIn_of_wp_marks Tryz.func9 rfl trivial ?_ rfl
  simp only [Tryz.ntmps9, List.size_toArray, List.length_cons, List.length_nil, Nat.reduceAdd, Nat.reduceSub, Array.replicate_succ, Array.replicate_zero, List.push_toArray, List.append_toArray, List.nil_append, List.cons_append]
  gi_wp2_with (first
    | (gi_at_call 15; refine (callsIn_wide.2 HC.out).mono ?_; rintro e w1 ⟨rfl, hb1⟩
       have k0 : w1.cell? ⟨w.heap.size, 0, none⟩ = some (.int .i64 n) := (HW0.out.below hb1 (by have := HS0.out; omega)).cell 0
       obtain ⟨i0, hi, hz0, hz1, hz2⟩ := info_parts info8u
       obtain ⟨w2, hmk, ho2, hg2⟩ := run_make_full (P := Tryz.prog) w1 w1.heap.size 30 5 i0 (.int .u8 0) 1 Tryz.underlying30 hi hz0 hz1 .i64 .i64 n (by rw [hz2]; omega) (by unfold maxLen; omega) (Nat.le_refl _)
       have HF2 := Lib.hid (FilZ.made (show w2.ownsRow w1.heap.size 5 1 (.slice (some ⟨w1.heap.size, 0, none⟩) n n) n (madeCells #[Value.int .u8 0] (n * 1)).toList from ho2))
       have HB2 := Lib.hid (below_of_grown0 hg2)
       have HB1 := Lib.hid hb1
       have k1 : (w2.alloc (.cells #[.slice (some ⟨w1.heap.size, 0, none⟩) n n] 30)).cell? ⟨w.heap.size, 0, none⟩ = some (.int .i64 n) :=
         cell_lit (((HW0.out.below hb1 (by have := HS0.out; omega)).below HB2.out (by have := HS0.out; have := hb1.size; omega)).cell 0)
       clear hb1 hi hz0 hz1 hz2 i0 ho2 hg2)
    | (gi_at_call 31; refine (callsIn_wide.2 (partsOf_any _ v.length d n _)).mono ?_; rintro e w3 ⟨rfl, h3⟩; subst h3))
  have hs0 := HS0.out
  have hb1 := HB1.out
  have hs1 := hb1.size
  have hs2 := HB2.out.size
  obtain ⟨W3, eW3⟩ : ∃ W3, w2.alloc (.cells #[.slice (some ⟨w1.heap.size, 0, none⟩) n n] 30) = W3 := ⟨_, rfl⟩
  have hW3 : W3.heap.size = w2.heap.size + 1 := by rw [← eW3]; simp
  have hl3 : Whole W3 w2.heap.size 30 #[.slice (some ⟨w1.heap.size, 0, none⟩) n n] := by rw [← eW3]; exact Whole.new w2 30 _
  have hb3 : Below w2.heap.size w2 W3 := by rw [← eW3]; exact below_one (Below.refl _ _) _
  rw [eW3, ← hW3]
  clear eW3 k1 hmk k0 c0 c1
  have tn := two_one W3 (.slice (some ⟨b, off, none⟩) v.length d) (.int .i64 n) 25 3
  obtain ⟨W4, eW4⟩ : ∃ W4, (W3.alloc (.cells #[.slice (some ⟨b, off, none⟩) v.length d] 25)).alloc (.cells #[.int .i64 n] 3) = W4 := ⟨_, rfl⟩
  rw [eW4] at tn ⊢
  clear eW4
  obtain ⟨tn1, tn2, tn3, tn4⟩ := tn
  obtain ⟨s3, es3⟩ : ∃ s3, W3.heap.size = s3 := ⟨_, rfl⟩
  have b14 : Below w1.heap.size w1 W4 := (HB2.out.trans (hb3.mono hs2)).trans (tn3.mono (by omega))
  have b04 : Below w.heap.size w W4 := (HB0.out.trans (hb1.mono (by omega))).trans (b14.mono (by omega))
  have hf4 : FilZ W4 w.heap.size w1.heap.size n 5 (.int .u8 0) [] := ⟨own_base ((HF2.out.below hb3).below tn3).row (by omega), by simp⟩
  have hx4 : Whole W4 w.heap.size 24 #[.int .i64 n, .slice A n c] := (HW0.out.below hb1 (by omega)).below b14 (by omega)
  have hl4 : Whole W4 w2.heap.size 30 #[.slice (some ⟨w1.heap.size, 0, none⟩) n n] := hl3.below tn3 (by omega)
  rw [es3] at tn1 tn2 tn4 hW3 ⊢
  obtain ⟨g, eg⟩ : ∃ g, w.heap.size = g := ⟨_, rfl⟩
  obtain ⟨r, er⟩ : ∃ r, w1.heap.size = r := ⟨_, rfl⟩
  obtain ⟨s, es⟩ : ∃ s, w2.heap.size = s := ⟨_, rfl⟩
  rw [eg] at b04 hf4 hx4 hs0
  rw [er] at hf4 hl4 hs2
  rw [es] at hl4 hW3 hs2
  rw [eg, er, es]
  have hgr : g + 1 ≤ r := by rw [← er]; omega
  have st0 : EnSt g r s w (.slice A n c) n v (words L) [] W4 := ⟨b04, hx4, hl4, by simpa [encK] using hf4⟩
  have HG := Lib.hid eg
  have HR4 := Lib.hid (show g < r ∧ r < s ∧ s < s3 ∧ s3 + 2 = W4.heap.size by
    have := hf4.ge.2
    have := (FilZ.ge HF2.out).2
    rw [er, es] at this
    omega)
  clear hf4 hx4 hl4 hl3 b14 b04 tn3 hb3 hb1 hs1 hs2 hs0 hW3 es3 HB0 HB1 HB2 HF2 HW0 HS0 eg er es HC
  obtain ⟨hgr, hrs, hs3, hs4⟩ := HR4.out
  have hNL : 1 ≤ n ∧ n ≤ v.length ∧ v.length ≤ 64 := by
    have h1 := HOK.out.2.1; have h2 := HOK.out.2.2.1; have h3 := HOK.out.2.2.2.1; rw [words_len, ← HN.out] at h2 h3; omega
  refine wpIn_rangeFunc_N rfl (by omega : 1 ≤ 9) (gf := 90) (lb := #[.pointer (some ⟨s3 + 1, 0, none⟩), .pointer (some ⟨s3, 0, none⟩)]) rfl trivial (enters_of Tryz.func90 (by kernel_rfl) rfl)
    (partsI_seq n (9 - 1) (s3 + 1) s3 b off v.length d (by omega) (by omega) (by omega) (by omega) (by omega) W4 tn2 tn1) (fun h k => h.trans k) (fun W l o o' _ ho hc _ => Keeps.put W l o o' ho hc) (Below.refl _ _) (fun _ => rfl)
    (EnSt g r s w (.slice A n c) n v (words L)) (fun c' pre W => False)
    (fun pre W W' row hs hg hr => ⟨hs.bel.grown hg (by have := hs.bel.size; have := HG.out; omega) (fun k e => by have := (hr k e).1; have := HR4.out; omega), whole_keptW hs.box hg hr, whole_keptW hs.sl hg hr, hs.row.kept hg hr⟩)
    (fun c' pre W W' row hs hg hr => hs)
    st0
    (fun x => { tmps := #[.agg #[.int .i64 n, .slice A n c], .slice (some ⟨b, off, none⟩) v.length d, .pointer (some ⟨g, 0, none⟩), undef, .slice none 0 0, .int .i64 0, .pointer (some ⟨s, 0, none⟩), .int .i64 x, .slice (some ⟨b, off + beg x n v.length, none⟩) (beg (x + 1) n v.length - beg x n v.length) (beg (x + 1) n v.length - beg x n v.length), undef, undef,
      .agg #[.int .i64 n, .slice A n c], .slice (some ⟨b, off, none⟩) v.length d, .int .i64 v.length, .bool true, .bool false, .pointer (some ⟨g, 0, none⟩), .int .i64 n, .slice (some ⟨r, 0, none⟩) n n, .slice (some ⟨b, off, none⟩) v.length d, .pointer (some ⟨g, 0, none⟩), .int .i64 n,
      .func (.func 90) #[] #[.pointer (some ⟨s3 + 1, 0, none⟩), .pointer (some ⟨s3, 0, none⟩)], .int .i64 x, .slice (some ⟨b, off + beg x n v.length, none⟩) (beg (x + 1) n v.length - beg x n v.length) (beg (x + 1) n v.length - beg x n v.length),
      undef, undef, undef, undef, undef, undef, undef, undef, undef, undef, undef, undef, undef, undef, undef, undef], defers := [] }) ?assign ?body ?done ?stop
  case assign =>
    intro l x W K hK
    simp only [encI]
    gi_wp2
    exact hK
  case body =>
    rintro l pre x W hs ⟨hxp, hxn⟩
    have hbW : Below w.heap.size w W := by rw [HG.out]; exact hs.bel
    obtain ⟨b2, off2, a2, c2, M2, rfl, hb2, hc2, hv2, hM2⟩ := (HX.out.below hbW).at_ (i := x) (by have := HN.out; omega)
    have HM := Lib.hid (show pAt (words L) x = vecs M2 from words_pAt hM2.out)
    have hxL : x < (words L).length := by rw [words_len, ← HN.out]; exact hxn
    have hlW : (words L).length = n := by rw [words_len, ← HN.out]
    have hpa : NArg W (some ⟨b, off + beg x n v.length, none⟩) (partAt v x n) := by
      have h1 : beg (x + 1) n v.length ≤ v.length := beg_le (by omega) (by omega)
      refine ⟨rd_seg (HY.out.below hbW).rd h1, ?_, part_b8 HY.out.b8⟩
      rw [part_len (by omega) hxn]; omega
    have NE := near_spec a2 c2 M2 (some ⟨b, off + beg x n v.length, none⟩) (beg (x + 1) n v.length - beg x n v.length) (partAt v x n) W hv2 hpa
    rw [part_len (by omega) hxn] at NE
    have hm := HOK.out.mayM hxL
    rw [hlW, HM.out] at hm
    rw [show nearA (vecs M2) (partAt v x n) = ((nearestI (vecs M2) (partAt v x n) : Nat) : Int) from by unfold nearA; rw [hm]; rfl, hm] at NE
    have hk64 : nearestI (vecs M2) (partAt v x n) < 64 := by
      have h1 := HOK.out.2.2.2.2 x hxL
      rw [HM.out] at h1
      have := nearestI_lt (partAt v x n) h1.1
      omega
    have ES := Lib.hid (show encK (words L) v (x + 1) = encK (words L) v x ++ [((nearestI (vecs M2) (partAt v x n) : Nat) : Int)] by rw [encK_succ, HM.out, hlW])
    have HNE := Lib.hid NE
    have cb : W.cell? ⟨g, 1, none⟩ = some (.slice (some ⟨b2, off2, none⟩) n c) := hs.box.cell 1
    have cs : W.cell? ⟨s, 0, none⟩ = some (.slice (some ⟨r, 0, none⟩) n n) := hs.sl.cell 0
    have HS := Lib.hid hs
    have HP := Lib.hid hxp
    have x0 : (0 : Int) ≤ (x : Int) := by omega
    have hxn2 : (x : Int) < (n : Int) := by omega
    obtain ⟨nn, en⟩ : ∃ nn, nearestI (vecs M2) (partAt v x n) = nn := ⟨_, rfl⟩
    rw [en] at HNE hk64 ES
    have wk : IntKind.u8.wrap (nn : Int) = (nn : Int) := by rw [IntKind.wrap_u8]; omega
    clear NE hm hv2 hpa hM2 hs hxp hbW en
    obtain ⟨T, eT⟩ : ∃ T, (encK (words L) v x).map (Value.int .u8) = T := ⟨_, rfl⟩
    have HT := Lib.hid (show FilZ W g r n 5 (.int .u8 0) T by have := HS.out.row; rw [← HP.out, eT] at this; exact this)
    have HTL := Lib.hid (show T.length = x by rw [← eT, List.length_map, encK_len])
    have HTE := Lib.hid (show (encK (words L) v (x + 1)).map (Value.int .u8) = T ++ [.int .u8 (nn : Int)] by rw [ES.out, List.map_append, eT]; rfl)
    clear eT ES
    gi_wp2_with (gi_at_call 32; refine (CallsIn.inRound l (callsIn_wide.2 HNE.out)).mono ?_; rintro e w5 ⟨rfl, hb5⟩
                 have cs5 : w5.cell? ⟨s, 0, none⟩ = some (.slice (some ⟨r, 0, none⟩) n n) := (HS.out.sl.below hb5 HS.out.sl.lt).cell 0
                 have HT5 := Lib.hid (HT.out.below hb5)
                 have cr5 : w5.cell? ⟨r, x, none⟩ = some (.int .u8 0) := by
                   have := HT5.out.cell (by rw [HTL.out]; exact hxn)
                   rwa [HTL.out] at this
                 have fr5 : w5.frozen? ⟨r, x, none⟩ = false := HT5.out.frozen x
                 have HB5 := Lib.hid hb5
                 clear hb5)
    have hp5 := HT5.out.put (by rw [HTL.out]; exact hxn) (.int .u8 (nn : Int))
    rw [HTL.out, ← HTE.out] at hp5
    refine ⟨(keepsF_of_below HB5.out).trans (keepsF_set _ (by omega) _), (keepsK_of_below HB5.out).trans (keepsK_set (fun k t hk => by rcases hk with hk | hk <;> omega)), ?_⟩
    have hsz := HS.out.bel.size
    refine ⟨(HS.out.bel.trans (HB5.out.mono (by have := HS.out.box.lt; omega))).setCell (p := ⟨r, x, none⟩) (by show g ≤ r; omega) _, whole_other (HS.out.box.below HB5.out HS.out.box.lt) (by omega), whole_other (HS.out.sl.below HB5.out HS.out.sl.lt) (by omega), ?_⟩
    rw [List.length_append, List.length_singleton, ← HP.out]
    exact hp5
  case done =>
    rintro D ys W hD hys hs hK
    have cs : W.cell? ⟨s, 0, none⟩ = some (.slice (some ⟨r, 0, none⟩) n n) := hs.sl.cell 0
    have HS := Lib.hid hs
    clear hs
    gi_wp2
    refine ⟨by simp, .inl ⟨_, _, rfl, run_takeDeferred hK, ?_⟩⟩
    have hro := (HS.out.row.putObj (o' := .deferred none) hK rfl).done (by rw [List.length_map, encK_len, hys])
    have hle : (encL (words L) v).length = n := by rw [encL_len, words_len, ← HN.out]
    refine ⟨_, results_tmp2 rfl _ _ _, some ⟨r, 0, none⟩, n, by rw [hle]; rfl, ?_, ?_⟩
    · rw [HG.out, hle]
      have : encK (words L) v ys.length = encL (words L) v := by rw [hys]; unfold encK encL; rw [words_len, ← HN.out]
      rw [this] at hro
      exact hro
    · have hb := HS.out.bel
      rw [← HG.out] at hb
      exact hb.trans (belowK_b (w := w) (Nat.le_refl _) W D _ _ (by have := HG.out; omega) hK rfl rfl)
  case stop =>
    rintro D c pre W _ _ h _
    exact h.elim
theorem rd_some {k : IntKind} {w : World} {B : Nat} {A : Option Addr} {v : List Int} (h : Rd k w B A v) (hl : 1 ≤ v.length) : ∃ b off, A = some ⟨b, off, none⟩ := by
  obtain ⟨b, off, e, _⟩ := h (by omega)
  exact ⟨b, off, e⟩
theorem encode_spec : PqEncodeSpec := by
  intro P A c L B d v w hx hy hd
  cases h : bookB P (words L) v.length with
  | false =>
    refine (encode_no P A c L B d v w hx h).mono ?_
    rintro e w' ⟨rfl, hb⟩
    have e1 : encA P (words L) v = [] := by unfold encA; rw [h]; rfl
    rw [e1]
    exact NAns.nil w .u8 5 1 hb
  | true =>
    obtain ⟨h1, h2⟩ := bookB_yes h
    obtain ⟨b, off, rfl⟩ := rd_some hy.rd h2.1
    rw [words_len] at h1
    subst h1
    have e1 : encA (L.length : Int) (words L) v = encL (words L) v := by unfold encA; rw [h]; rfl
    rw [e1]
    exact callsIn_wide.1 (encode_yes A c L.length L b off d v w hx hy hd rfl h2)
end Go.Proofs.YthbimjkcpmffcaaGreat
