/- Package pq: Train. -/
import Derived.Test.YthbimjkcpmffcaaGreatWp
import Derived.Test.YthbimjkcpmffcaaGreatMi
import Derived.Test.YthbimjkcpmffcaaGreatPf
import Derived.Test.YthbimjkcpmffcaaGreatPk
namespace Go.Proofs.YthbimjkcpmffcaaGreat
open Go.RowKit Go.Shelf
set_option linter.unusedVariables false
attribute [local go_sem] Oper.semAt_some
theorem resCellT {P : Program} {fn : Func} {p q : Tmp} {ty : TypeId} (h : fn.results = #[.cell p ty, .tmp q]) (tmps : Array Value) (w : World) :
    (results fn tmps).run P w = ((asAddr (tmps.getD p undef)).run P w).andThen fun a w₁ => ((loadVar ty a).run P w₁).andThen fun v w₂ => .ok (.tuple #[v, tmps.getD q undef]) w₂ := by
  simp only [results, h]
  simp [Sem.run_bind, Result.andThen]
def lawK (vs : List (List Int)) (k r : Int) : Bool := decide (1 ≤ k ∧ k ≤ 64 ∧ k ≤ (vs.length : Int) ∧ 0 ≤ r ∧ r ≤ 100)
theorem mayTB_law {vs : List (List Int)} {k r : Int} (h : mayB vs = true) : mayTB vs k r = lawK vs k r := by
  unfold mayTB lawK
  simp [h]
theorem mayP_law {vs : List (List Int)} {n k r : Int} : mayP vs n k r = (canT vs n && lawK vs k r) := by
  unfold mayP canT lawK
  rw [← Bool.decide_and]
  congr 1
  apply propext
  constructor
  · rintro ⟨h1, h2, h3, h4⟩; exact ⟨⟨h1, h2, h3⟩, h4⟩
  · rintro ⟨⟨h1, h2, h3⟩, h4⟩; exact ⟨h1, h2, h3, h4⟩
/-- The first parts of a book. -/
def bookK (vs : List (List Int)) (n k r s : Nat) (q : Nat) : List (List (List Int)) := (List.range q).map fun p => stepsL (subL vs p n) r (firstL (subL vs p n) ((s + p) % 18446744073709551616) k)
theorem bookK_succ (vs : List (List Int)) (n k r s q : Nat) : bookK vs n k r s (q + 1) = bookK vs n k r s q ++ [stepsL (subL vs q n) r (firstL (subL vs q n) ((s + q) % 18446744073709551616) k)] := by simp [bookK, List.range_succ]
theorem bookK_len (vs : List (List Int)) (n k r s q : Nat) : (bookK vs n k r s q).length = q := by simp [bookK]
set_option maxRecDepth 100000 in
set_option maxHeartbeats 1000000 in
theorem train_no1 (A : Option Addr) (c : Nat) (L : List Vc) (P k r : Int) (s : Nat) (w : World) (hx : VArg w A L) (hc : canT (vecs L) P = false) :
    Calls Tryz.prog 26 #[.slice A L.length c, .int .i64 P, .int .i64 k, .int .i64 r, .int .u64 s] w fun e w' => e = .returned (.tuple #[.agg #[.int .i64 0, .slice none 0 0], .int .i64 1]) ∧ Below w.heap.size w w' := by
  have b1 := box1 w (.int .i64 0) (.slice none 0 0) 24
  have CT := canTrain_any A c L P _ (hx.below b1.2.1)
  rw [hc] at CT
  have HCT := Lib.hid CT
  have HB := Lib.hid b1.2.1
  have HW := Lib.hid b1.1
  have cz : (w.alloc (.cells #[.int .i64 0, .slice none 0 0] 24)).cell? ⟨w.heap.size, 0, none⟩ = some (.int .i64 0) := b1.1.cell 0
  have cy : (w.alloc (.cells #[.int .i64 0, .slice none 0 0] 24)).cell? ⟨w.heap.size, 1, none⟩ = some (.slice none 0 0) := b1.1.cell 1
  have fz := b1.1.frozen 0
  have fy := b1.1.frozen 1
  clear CT b1 hx hc
  go_enter Tryz.func26, Tryz.ntmps26
  go_wp2_with (go_at_call 83; refine HCT.out.mono ?_; rintro e w1 ⟨rfl, rfl⟩)
  refine bodyPost_ret (v := .tuple #[.agg #[.int .i64 0, .slice none 0 0], .int .i64 1]) (by rw [resCellT rfl]; go_simp) rfl ?_
  exact ⟨rfl, HB.out⟩
theorem two_full (w : World) (x y u z : Value) (t : TypeId) : Whole ((w.alloc (.cells #[x, y] t)).alloc (.cells #[u, z] t)) w.heap.size t #[x, y] ∧ Whole ((w.alloc (.cells #[x, y] t)).alloc (.cells #[u, z] t)) (w.heap.size + 1) t #[u, z] ∧ Below w.heap.size w ((w.alloc (.cells #[x, y] t)).alloc (.cells #[u, z] t)) ∧ ((w.alloc (.cells #[x, y] t)).alloc (.cells #[u, z] t)).heap.size = w.heap.size + 2 := by
  refine ⟨(Whole.new w t _).alloc _, ?_, ((Below.refl _ w).alloc (Nat.le_refl _) _).alloc (by simp) _, by simp⟩
  have := Whole.new (w.alloc (.cells #[x, y] t)) t #[u, z]
  rwa [World.size_alloc] at this
theorem GrpR.at_ {w : World} {base r n : Nat} {G : Nat → List Vc} {sv : Nat → Value} (h : GrpR w base r n G sv) (k : Nat) : ∃ a c, sv k = .slice a (G k).length c := by
  obtain ⟨a, m, c, e⟩ := own_form (h.own k)
  have := own_len (by rw [← e]; exact h.own k)
  subst this
  exact ⟨a, c, e⟩
theorem part_B8 {vs : List (List Int)} {p n : Nat} (h : B8 vs) : B8 (subL vs p n) := fun u hu => by
  unfold subL at hu
  obtain ⟨v, hv, rfl⟩ := List.mem_map.1 hu
  exact part_b8 (h v hv)
/-- What was gathered of a part, as an argument of means.Train. -/
theorem grp_arg {w0 W : World} {base r n p : Nat} {G : Nat → List Vc} {sv : Nat → Value} {vs : List (List Int)} (h : GrpR W base r n G sv) (hb : Below w0.heap.size w0 W) (hga : GathR w0 n (fun k => subL vs k n) G) (hm : mayB vs = true) (hb8 : B8 vs)
    (h1 : 1 ≤ n) (h2 : n ≤ dimOf vs) (hp : p < n) {a : Option Addr} {c : Nat} (e : sv p = .slice a (G p).length c) : VArg W a (G p) ∧ vecs (G p) = subL vs p n ∧ ∀ k r, mayTB (vecs (G p)) k r = lawK vs k r := by
  have e1 : vecs (G p) = subL vs p n := hga.is p hp
  have ho := h.own p
  rw [e] at ho
  have hs := sub_may hm h1 h2 hp
  have hl : (G p).length = vs.length := by have := congrArg List.length e1; rwa [vecs_len, sub_len] at this
  have hmb := mayB_yes hm
  refine ⟨⟨row_rdV ho (fun x hx => ((hga.rd p x hx).below hb).more hb.size), by omega, fun v hv => ?_, by rw [e1]; exact part_B8 hb8⟩, e1, fun k r => ?_⟩
  · rw [e1] at hv
    have := mayB_len hs.1 v hv
    have := mayB_yes hs.1
    omega
  · rw [e1, mayTB_law hs.1]
    unfold lawK
    rw [sub_len]
set_option maxRecDepth 100000 in
set_option maxHeartbeats 1000000 in
theorem train_no2 (A : Option Addr) (c m n : Nat) (L : List Vc) (k r : Int) (s : Nat) (w : World) (hx : VArg w A L) (hr : RoomOk L) (hs : s < 18446744073709551616) (hm : m = L.length) (hc : canT (vecs L) n = true) (hk : lawK (vecs L) k r = false) :
    Calls Tryz.prog 26 #[.slice A m c, .int .i64 n, .int .i64 k, .int .i64 r, .int .u64 s] w fun e w' => e = .returned (.tuple #[.agg #[.int .i64 0, .slice none 0 0], .int .i64 1]) ∧ Below w.heap.size w w' := by
  have hcy : mayB (vecs L) = true ∧ 1 ≤ n ∧ n ≤ dimOf (vecs L) := by have := of_decide_eq_true hc; exact ⟨this.1, by omega, by omega⟩
  have b1 := box1 w (.int .i64 0) (.slice none 0 0) 24
  have b2 := two_full w (.int .i64 0) (.slice none 0 0) (.int .i64 n) (.slice none 0 0) 24
  have CT := canTrain_any A c L n _ (hx.below b1.2.1)
  rw [hc, ← hm] at CT
  have HCT := Lib.hid CT
  have BP := Lib.hid (callsIn_wide.1 (byPart_any A c m n L w _ hx b2.2.2.1 hr hm hcy.1 hcy.2.1 hcy.2.2))
  have HB := Lib.hid b2.2.2.1
  have HW1 := Lib.hid b2.1
  have HS2 := Lib.hid b2.2.2.2
  have HC := Lib.hid hcy
  have HK := Lib.hid hk
  have HX8 := Lib.hid hx.b8
  have cz : (w.alloc (.cells #[.int .i64 0, .slice none 0 0] 24)).cell? ⟨w.heap.size, 0, none⟩ = some (.int .i64 0) := b1.1.cell 0
  have cy : (w.alloc (.cells #[.int .i64 0, .slice none 0 0] 24)).cell? ⟨w.heap.size, 1, none⟩ = some (.slice none 0 0) := b1.1.cell 1
  clear CT b1 b2 hx hc hr hm hk hcy
  go_enter Tryz.func26, Tryz.ntmps26
  go_wp2_with (first
    | (go_at_call 83; refine HCT.out.mono ?_; rintro e w1 ⟨rfl, rfl⟩)
    | (go_at_call 84; refine BP.out.mono ?_; rintro e w3 ⟨rfl, hb3, base, G, sv, hgr, hga⟩))
  have hsz := HS2.out
  have hb23 : Below w.heap.size w w3 := HB.out.trans (hb3.mono (by omega))
  have hw1 : Whole w3 w.heap.size 24 #[.int .i64 0, .slice none 0 0] := HW1.out.below hb3 (by omega)
  obtain ⟨a0, c0, e0⟩ := hgr.at_ 0
  have ga := grp_arg hgr hb23 hga HC.out.1 HX8.out HC.out.2.1 HC.out.2.2 HC.out.2.1 e0
  have TR := train_spec a0 c0 (G 0) k r s w3 ga.1 hs
  rw [ga.2.2 k r, HK.out] at TR
  have HTR := Lib.hid TR
  have hcell := hgr.cell (k := 0) HC.out.2.1
  rw [e0] at hcell
  simp only [World.size_alloc] at hcell
  have hn1 : (0 : Int) < (n : Int) := by have := HC.out.2.1; omega
  have eL : decide ((0 : Int) < (n : Int)) = true := decide_eq_true hn1
  have u0 : IntKind.u64.wrap 0 = 0 := by rw [IntKind.wrap_u64]; rfl
  have u1 : IntKind.u64.wrap (s : Int) = (s : Int) := by rw [IntKind.wrap_u64]; omega
  have H23 := Lib.hid hb23
  have HW3 := Lib.hid hw1
  clear hb23 hw1 ga TR hgr hga hb3 hsz
  go_loopw [28] (fun i wr => i = .int .i64 0 ∧ wr = w3) (fun _ _ => 0)
  case atStart => exact ⟨rfl, rfl⟩
  case round =>
    obtain ⟨rfl, rfl⟩ := hrel
    go_wp2_with (go_at_call 85; refine HTR.out.mono ?_; rintro e w4 ⟨A4, c4, L4, rfl, _, _, _, hb4⟩
                 have HB4 := Lib.hid hb4
                 have z4 := HW3.out.below hb4 HW3.out.lt
                 have c40 : w4.cell? ⟨w.heap.size, 0, none⟩ = some (.int .i64 0) := z4.cell 0
                 have c41 : w4.cell? ⟨w.heap.size, 1, none⟩ = some (.slice none 0 0) := z4.cell 1
                 have f40 := z4.frozen 0
                 have f41 := z4.frozen 1
                 clear hb4)
    refine bodyPost_ret (v := .tuple #[.agg #[.int .i64 0, .slice none 0 0], .int .i64 1]) (by rw [resCellT rfl]; go_simp; rfl) rfl ?_
    have hb := H23.out.trans (HB4.out.mono H23.out.size)
    exact ⟨rfl, (hb.setCell (p := ⟨w.heap.size, 0, none⟩) (Nat.le_refl _) _).setCell (p := ⟨w.heap.size, 1, none⟩) (Nat.le_refl _) _⟩
theorem row_set {w : World} {base n size b i : Nat} {e : TypeId} {v u : Value} {xs : List Value} (h : w.ownsRow base e size v n xs) (hne : v.ownBlock ≠ some b) : (w.setCell ⟨b, i, none⟩ u).ownsRow base e size v n xs := by
  obtain ⟨h1, h2⟩ := h
  refine ⟨h1, ?_⟩
  rcases h2 with h2 | ⟨g', cap, cur, hv, hb, hw, h4⟩
  · exact .inl h2
  · have : g' ≠ b := fun e => hne (by rw [hv, e]; rfl)
    exact .inr ⟨g', cap, cur, hv, hb, (Below.heap_setCell _ _ _ _ this).trans hw, h4⟩
theorem row_far {w w' : World} {b1 b2 n1 n2 s1 s2 : Nat} {e1 e2 : TypeId} {v1 v2 : Value} {xs1 xs2 : List Value} (h : w.ownsRow b1 e1 s1 v1 n1 xs1) (ho : w.ownsRow b2 e2 s2 v2 n2 xs2) (hne : e1 ≠ e2) (hg : w.grownBy w' v2.ownBlock) : w'.ownsRow b1 e1 s1 v1 n1 xs1 := by
  refine h.kept hg ?_
  rcases h.2 with ⟨hv, _⟩ | ⟨g, cap, cur, hv, _, hc, _⟩
  · rw [hv]; exact .inl rfl
  · rcases ho.2 with ⟨hv2, _⟩ | ⟨g', cap', cur', hv2, _, hc', _⟩
    · rw [hv2]; exact .inr (by rw [hv]; simp [Value.ownBlock])
    · refine .inr fun e => ?_
      rw [hv, hv2] at e
      have e2 : g = g' := by simpa [Value.ownBlock] using e
      subst e2
      rw [hc] at hc'
      injection hc' with hc'
      injection hc' with q1 q2 q3
      exact hne q2
theorem GrpR.set {w : World} {base r n b i : Nat} {G : Nat → List Vc} {sv : Nat → Value} {u : Value} (h : GrpR w base r n G sv) (hb : b < r) : GrpR (w.setCell ⟨b, i, none⟩ u) base r n G sv :=
  ⟨row_set h.row (by intro e; have h2 : r = b := (by simpa [Value.ownBlock] using e); omega), fun k => row_set (h.own k) (by intro e; have := ((h.own k).lt b e).1; have := h.lt; omega), h.apart, h.lt⟩
theorem GrpR.far {w w' : World} {base r n S : Nat} {G : Nat → List Vc} {sv : Nat → Value} {row : Option Nat} (h : GrpR w base r n G sv) (hg : w.grownBy w' row) (hr : ∀ b, row = some b → S ≤ b) (hS : r < S) (hsv : ∀ k b, (sv k).ownBlock = some b → b < S) : GrpR w' base r n G sv :=
  ⟨h.row.kept hg (.inr (by intro e; have := hr r e.symm; omega)), fun k => (h.own k).kept hg (by
    cases hk : (sv k).ownBlock with
    | none => exact .inl rfl
    | some b => exact .inr (by intro e; have := hr b e.symm; have := hsv k b hk; omega)), h.apart, h.lt⟩
theorem OwnP.set {w : World} {base b i c : Nat} {A : Option Addr} {L : List Pc} {u : Value} (h : OwnP w base A c L) (hb : b < base) : OwnP (w.setCell ⟨b, i, none⟩ u) base A c L :=
  ⟨row_set h.row (by intro e; have := (h.row.lt b e).1; omega), fun x hx => ⟨row_set (h.each x hx).1 (by intro e; have := ((h.each x hx).1.lt b e).1; omega), fun y hy => row_set ((h.each x hx).2 y hy) (by intro e; have := (((h.each x hx).2 y hy).lt b e).1; omega)⟩⟩
theorem OwnP.snoc {W w3 : World} {base c va : Nat} {A va' : Option Addr} {L : List Pc} {x : Pc} {o : Obj} (h : OwnP W base A c L) (hx : OwnV W base x.1 x.2.1 x.2.2) (hn : w3.ownsRow base 62 1 (.slice va' (L.length + 1) va) (L.length + 1) (cellsP L ++ [.slice x.1 x.2.2.length x.2.1]))
    (hg : (W.alloc o).grownBy w3 (Value.slice A L.length c).ownBlock) : OwnP w3 base va' va (L ++ [x]) := by
  have hb : Below W.heap.size W (W.alloc o) := below_one (Below.refl _ _) _
  have hr := own_below h.row hb
  have each : ∀ y : Pc, OwnV W base y.1 y.2.1 y.2.2 → OwnV w3 base y.1 y.2.1 y.2.2 := fun y hy => ⟨row_far (own_below hy.1 hb) hr (by decide) hg, fun z hz => row_far (own_below (hy.2 z hz) hb) hr (by decide) hg⟩
  refine ⟨?_, fun y hy => ?_⟩
  · rw [← cellsP_snoc, List.length_append, List.length_singleton]
    exact hn
  · rcases List.mem_append.1 hy with h3 | h3
    · exact each y (h.each y h3)
    · rw [List.mem_singleton] at h3
      subst h3
      exact each _ hx
theorem OwnP.lt {w : World} {base c : Nat} {A : Option Addr} {L : List Pc} (h : OwnP w base A c L) : ∀ y ∈ L, (∀ g, pblk y = some g → g < w.heap.size) ∧ ∀ v ∈ y.2.2, ∀ g, vb v = some g → g < w.heap.size :=
  fun y hy => ⟨fun g hg => ((h.each y hy).1.lt g hg).2, fun v hv g hg => (((h.each y hy).2 v hv).lt g hg).2⟩
/-- What Train's loop keeps. -/
structure TnSt (w : World) (g S n k r s base : Nat) (vs : List (List Int)) (G : Nat → List Vc) (sv : Nat → Value) (p : Nat) (W : World) : Prop where
  bel : Below g w W
  res : Whole W g 24 #[.int .i64 0, .slice none 0 0]
  grp : GrpR W base (g + 2) n G sv
  own : ∃ A c T, Whole W (g + 1) 24 #[.int .i64 n, .slice A (T : List Pc).length c] ∧ OwnP W S A c T ∧ ApartP T ∧ words T = bookK vs n k r s p
  size : S ≤ W.heap.size
set_option maxRecDepth 100000 in
set_option maxHeartbeats 4000000 in
theorem train_yes (A : Option Addr) (c m n k r : Nat) (L : List Vc) (s : Nat) (w : World) (hx : VArg w A L) (hr : RoomOk L) (hs : s < 18446744073709551616) (hm : m = L.length) (hc : canT (vecs L) n = true) (hk : lawK (vecs L) k r = true) :
    Calls Tryz.prog 26 #[.slice A m c, .int .i64 n, .int .i64 k, .int .i64 r, .int .u64 s] w fun e w' => BAns w n (bookL (vecs L) n k r s) 0 e w' := by
  have hcy : mayB (vecs L) = true ∧ 1 ≤ n ∧ n ≤ dimOf (vecs L) := by have := of_decide_eq_true hc; exact ⟨this.1, by omega, by omega⟩
  have b1 := box1 w (.int .i64 0) (.slice none 0 0) 24
  have b2 := two_full w (.int .i64 0) (.slice none 0 0) (.int .i64 n) (.slice none 0 0) 24
  have CT := canTrain_any A c L n _ (hx.below b1.2.1)
  rw [hc, ← hm] at CT
  have HCT := Lib.hid CT
  have BP := Lib.hid (callsIn_wide.1 (byPart_any A c m n L w _ hx b2.2.2.1 hr hm hcy.1 hcy.2.1 hcy.2.2))
  have HB := Lib.hid b2.2.2.1
  have HW1 := Lib.hid b2.1
  have HW2 := Lib.hid b2.2.1
  have HS2 := Lib.hid b2.2.2.2
  have HC := Lib.hid hcy
  have HK := Lib.hid hk
  have HX8 := Lib.hid hx.b8
  have hn64 : n ≤ 64 := by have := mayB_yes hcy.1; omega
  have cz : (w.alloc (.cells #[.int .i64 0, .slice none 0 0] 24)).cell? ⟨w.heap.size, 0, none⟩ = some (.int .i64 0) := b1.1.cell 0
  have cy : (w.alloc (.cells #[.int .i64 0, .slice none 0 0] 24)).cell? ⟨w.heap.size, 1, none⟩ = some (.slice none 0 0) := b1.1.cell 1
  obtain ⟨i1, hi1, hy0, hy1, hy2⟩ := info_parts info70z
  clear CT b1 b2 hx hc hr hm hk hcy
  go_enter Tryz.func26, Tryz.ntmps26
  go_wp2_with (first
    | (go_at_call 83; refine HCT.out.mono ?_; rintro e w1 ⟨rfl, rfl⟩)
    | (go_at_call 84; refine BP.out.mono ?_; rintro e w3 ⟨rfl, hb3, base, G, sv, hgr, hga⟩))
  have hsz := HS2.out
  have hb23 : Below w.heap.size w w3 := HB.out.trans (hb3.mono (by omega))
  have hw1 : Whole w3 w.heap.size 24 #[.int .i64 0, .slice none 0 0] := HW1.out.below hb3 (by omega)
  have hw2 : Whole w3 (w.heap.size + 1) 24 #[.int .i64 n, .slice none 0 0] := HW2.out.below hb3 (by omega)
  simp only [World.size_alloc] at hgr
  have hlt3 : w.heap.size + 2 < w3.heap.size := (hgr.row.lt _ rfl).2
  obtain ⟨S, eS⟩ : ∃ S, w3.heap.size = S := ⟨_, rfl⟩
  have HSV := Lib.hid (fun k b hk => (by have := ((hgr.own k).lt b hk).2; rw [eS] at this; exact this : b < S) : ∀ k b, (sv k).ownBlock = some b → b < S)
  obtain ⟨g, eg⟩ : ∃ g, w.heap.size = g := ⟨_, rfl⟩
  have HGA := Lib.hid hga
  have st0 : TnSt w g S n k r s base (vecs L) G sv 0 w3 := ⟨by rw [← eg]; exact hb23, by rw [← eg]; exact hw1, by rw [← eg]; exact hgr, ⟨none, 0, [], by rw [← eg]; exact hw2, OwnP.nil _ _, ApartP.nil, rfl⟩, by rw [eS]; exact Nat.le_refl _⟩
  rw [eg] at hlt3 ⊢
  rw [eS] at hlt3
  have HG := Lib.hid eg
  clear hb23 hw1 hw2 hgr hga hb3 hsz eS eg HW1 HW2 HS2 HB BP HCT cz cy
  go_loopw [28] (fun i wr => ∃ p : Nat, p ≤ n ∧ i = .int .i64 p ∧ Hid (TnSt w g S n k r s base (vecs L) G sv p wr)) (fun i _ => n - (intOf i).toNat)
  case atStart => exact ⟨0, by omega, rfl, st0⟩
  case round =>
    clear st0
    obtain ⟨p, hp, rfl, HS⟩ := hrel
    by_cases hlt : p < n
    · have eL : decide ((p : Int) < (n : Int)) = true := decide_eq_true (by omega)
      have hbW : Below w.heap.size w wr := by rw [HG.out]; exact HS.out.bel
      obtain ⟨a0, c0, e0⟩ := HS.out.grp.at_ p
      have ga := grp_arg HS.out.grp hbW HGA.out HC.out.1 HX8.out HC.out.2.1 HC.out.2.2 hlt e0
      have TR := train_spec a0 c0 (G p) k r ((s + p) % 18446744073709551616) wr ga.1 (by omega)
      rw [ga.2.2 k r, HK.out, ga.2.1] at TR
      have hcell := HS.out.grp.cell hlt
      rw [e0] at hcell
      have hta : trainA (subL (vecs L) p n) k r ((s + p) % 18446744073709551616) = stepsL (subL (vecs L) p n) r (firstL (subL (vecs L) p n) ((s + p) % 18446744073709551616) k) := by
        unfold trainA
        have := ga.2.2 k r
        rw [ga.2.1] at this
        rw [this, HK.out]
        simp
      rw [hta] at TR
      have HTR := Lib.hid TR
      obtain ⟨A, c, T, hbx, hoP, hap, hwd⟩ := HS.out.own
      have hTl : T.length = p := by have := congrArg List.length hwd; rwa [words_len, bookK_len] at this
      have x0 : (0 : Int) ≤ (p : Int) := by omega
      have hp2 : (p : Int) < (n : Int) := by omega
      have u0 : IntKind.u64.wrap (p : Int) = (p : Int) := by rw [IntKind.wrap_u64]; omega
      have u1 : IntKind.u64.wrap ((s : Int) + (p : Int)) = (((s + p) % 18446744073709551616 : Nat) : Int) := by rw [IntKind.wrap_u64]; omega
      obtain ⟨sd, esd⟩ : ∃ sd, (s + p) % 18446744073709551616 = sd := ⟨_, rfl⟩
      have HWD := Lib.hid (show words T ++ [stepsL (subL (vecs L) p n) r (firstL (subL (vecs L) p n) sd k)] = bookK (vecs L) n k r s (p + 1) by rw [hwd, bookK_succ, esd])
      rw [esd] at u1 HTR
      have HBX := Lib.hid hbx
      have HOP := Lib.hid hoP
      have HAP := Lib.hid hap
      have HTL := Lib.hid hTl
      clear ga TR hta hbx hoP hap hwd hbW e0 esd hTl
      go_wp2_with (first
        | (go_at_call 85; refine HTR.out.mono ?_; rintro e w4 ⟨A4, c4, L4, rfl, ho4, ha4, hv4, hb4⟩
           have HB4 := Lib.hid hb4
           have z4 := HBX.out.below hb4 HBX.out.lt
           have c41 : w4.cell? ⟨g + 1, 1, none⟩ = some (.slice A T.length c) := z4.cell 1
           have HO4 := Lib.hid ho4
           have HA4 := Lib.hid ha4
           have HV4 := Lib.hid hv4
           have HP4 := Lib.hid (HOP.out.below hb4)
           have hS4 : S ≤ w4.heap.size := Nat.le_trans HS.out.size hb4.size
           clear ho4 ha4 hv4 hb4 z4)
        | (at_builtin; refine wpList_append_own_at _ rfl _ _ 22 rfl S 62 i1 (.slice none 0 0) 1 24 Tryz.underlying22 hi1 hy0 hy1 hy2 rfl (by decide) _ _ _ rfl (HP4.out.row.alloc _) ⟨w4.heap.size, 0, none⟩ 1 1 [.slice A4 L4.length c4] rfl rfl (cell_one_new _ _ _) (by simp [Value.oneCell']) (by have := HTL.out; show T.length + 1 ≤ 9223372036854775807; omega) (by have := HTL.out; omega) (by simp; omega) ?_; intro v' w5 hown' hgrow hnil hloc
           obtain ⟨va, vm, vc, rfl⟩ := own_form hown'
           obtain rfl := own_len hown'
           have z5 : Whole w5 (g + 1) 24 #[.int .i64 n, .slice A T.length c] := (hgrow.block (g + 1) (by have := HP4.out; simp; omega) (fun e => by have := (HP4.out.row.lt _ e.symm).1; omega)).trans ((HBX.out.below HB4.out HBX.out.lt).alloc _)
           have c51 : w5.cell? ⟨g + 1, 1, none⟩ = some (.slice A T.length c) := z5.cell 1
           have f51 := z5.frozen 1
           have HZ5 := Lib.hid z5
           have HO5 := Lib.hid hown'
           have HG5 := Lib.hid hgrow
           clear hown' hgrow hnil hloc z5))
      have hgw : g ≤ wr.heap.size := by have := HS.out.size; omega
      have b4 : Below g w w4 := HS.out.bel.trans (HB4.out.mono hgw)
      have hrow : ∀ b, (Value.slice A T.length c).ownBlock = some b → S ≤ b := fun b hb => (HP4.out.row.lt b hb).1
      have b5 : Below g w w5 := (b4.alloc (by omega) _).grown HG5.out (by simp; omega) (fun b hb => by have := hrow b hb; omega)
      have r5 : Whole w5 g 24 #[.int .i64 0, .slice none 0 0] := by
        have h4 := (HS.out.res.below HB4.out HS.out.res.lt).alloc (.cells #[.slice A4 L4.length c4] 62)
        exact (HG5.out.block g h4.lt (fun e => by have := hrow g e.symm; omega)).trans h4
      have g5 := ((HS.out.grp.below HB4.out).below (below_one (Below.refl _ _) (.cells #[.slice A4 L4.length c4] 62))).far HG5.out hrow (by omega) HSV.out
      have o5 := HP4.out.snoc (x := (A4, c4, L4)) (HO4.out.base HS.out.size) HO5.out HG5.out
      have bx5 : Whole (w5.setCell ⟨g + 1, 1, none⟩ (.slice va (T.length + 1) vc)) (g + 1) 24 #[.int .i64 n, .slice va (T.length + 1) vc] := HZ5.out.set 1 _
      refine ⟨⟨p + 1, by omega, by go_num, ?_⟩, by simp [intOf]; omega⟩
      refine ⟨b5.setCell (p := ⟨g + 1, 1, none⟩) (Nat.le_succ _) _, whole_other r5 (by omega), g5.set (by omega), ⟨va, vc, T ++ [(A4, c4, L4)], ?_, o5.set (by omega), ?_, ?_⟩, ?_⟩
      · rw [List.length_append, List.length_singleton]; exact bx5
      · exact HAP.out.snoc wr.heap.size HOP.out.lt ⟨fun b hb => (HO4.out.1.lt b hb).1, fun v hv b hb => ((HO4.out.2 v hv).lt b hb).1⟩ HA4.out
      · rw [words_snoc]
        show words T ++ [vecs L4] = _
        rw [HV4.out]; exact HWD.out
      · have := HG5.out.size
        simp at this
        simp
        omega
    · obtain rfl : p = n := by omega
      have eL : decide ((p : Int) < (p : Int)) = false := decide_eq_false (by omega)
      obtain ⟨A, c, T, hbx, hoP, hap, hwd⟩ := HS.out.own
      have c0 : wr.cell? ⟨g + 1, 0, none⟩ = some (.int .i64 p) := hbx.cell 0
      have c1 : wr.cell? ⟨g + 1, 1, none⟩ = some (.slice A T.length c) := hbx.cell 1
      have d0 : wr.cell? ⟨g, 0, none⟩ = some (.int .i64 0) := HS.out.res.cell 0
      have d1 : wr.cell? ⟨g, 1, none⟩ = some (.slice none 0 0) := HS.out.res.cell 1
      have f0 := HS.out.res.frozen 0
      have f1 := HS.out.res.frozen 1
      have HOP := Lib.hid hoP
      have HAP := Lib.hid hap
      have HWD := Lib.hid hwd
      clear hbx hoP hap hwd
      go_wp2
      refine bodyPost_ret (v := .tuple #[.agg #[.int .i64 p, .slice A T.length c], .int .i64 0]) (by rw [resCellT rfl]; go_simp) rfl ?_
      refine ⟨A, c, T, rfl, ?_, HAP.out, HWD.out, ?_⟩
      · exact ((HOP.out.set (by omega)).set (by omega)).base (by have := HG.out; omega)
      · rw [HG.out]
        exact (HS.out.bel.setCell (p := ⟨g, 0, none⟩) (Nat.le_refl _) _).setCell (p := ⟨g, 1, none⟩) (Nat.le_refl _) _
theorem pqTrain_spec : PqTrainSpec := by
  intro A c L n k r s w hx hr hs
  cases hc : canT (vecs L) n with
  | false =>
    have hp : mayP (vecs L) n k r = false := by rw [mayP_law, hc]; rfl
    refine (train_no1 A c L n k r s w hx hc).mono ?_
    rintro e w' ⟨rfl, hb⟩
    refine ⟨none, 0, [], ?_, OwnP.nil _ _, ApartP.nil, ?_, hb⟩
    · unfold partsA; rw [hp]; rfl
    · unfold bookA; rw [hp]; rfl
  | true =>
    have hcy := of_decide_eq_true hc
    obtain ⟨N, rfl⟩ := Int.eq_ofNat_of_zero_le (show 0 ≤ n by omega)
    cases hk : lawK (vecs L) k r with
    | false =>
      have hp : mayP (vecs L) (N : Int) k r = false := by rw [mayP_law, hc, hk]; rfl
      refine (train_no2 A c L.length N L k r s w hx hr hs rfl hc hk).mono ?_
      rintro e w' ⟨rfl, hb⟩
      refine ⟨none, 0, [], ?_, OwnP.nil _ _, ApartP.nil, ?_, hb⟩
      · unfold partsA; rw [hp]; rfl
      · unfold bookA; rw [hp]; rfl
    | true =>
      have hky := of_decide_eq_true hk
      obtain ⟨K, rfl⟩ := Int.eq_ofNat_of_zero_le (show 0 ≤ k by omega)
      obtain ⟨R, rfl⟩ := Int.eq_ofNat_of_zero_le (show 0 ≤ r by omega)
      have hp : mayP (vecs L) (N : Int) (K : Int) (R : Int) = true := by rw [mayP_law, hc, hk]; rfl
      have e1 : partsA (vecs L) (N : Int) (K : Int) (R : Int) = N := by unfold partsA; rw [hp]; rfl
      have e2 : bookA (vecs L) (N : Int) (K : Int) (R : Int) s = bookL (vecs L) N K R s := by unfold bookA; rw [hp]; simp
      rw [e1, e2, hp]
      exact train_yes A c L.length N K R L s w hx hr hs rfl hc hk
end Go.Proofs.YthbimjkcpmffcaaGreat
