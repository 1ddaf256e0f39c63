/- The walk of MeansHalves; a list of vectors, nil, empty or not, appended to a row of the call's own. -/
import Derived.Test.YtcakmcegcbameaaNt
namespace Go.Proofs.Ytcakmcegcbameaa
open Go.RowKit
set_option linter.unusedVariables false
theorem rdv_cells {w : World} {B : Nat} {ad : Addr} {ys : List Vc} (h : RdV w B (some ad) ys) : ∀ j u, (cellsV ys)[j]? = some u → w.cell? (ad.add j) = some u := by
  intro j u hu
  have hj : j < ys.length := by
    rcases Nat.lt_or_ge j ys.length with h1 | h1
    · exact h1
    · rw [List.getElem?_eq_none (by simpa [cellsV] using h1)] at hu; cases hu
  obtain ⟨b, off, hA, _, hc⟩ := h (by omega)
  obtain rfl : ad = ⟨b, off, none⟩ := by simpa using hA
  have ea : (⟨b, off, none⟩ : Addr).add j = ⟨b, off + j, none⟩ := by unfold Addr.add; split <;> simp_all
  rw [ea, (hc j hj).1]
  simp [cellsV, List.getElem?_eq_getElem hj] at hu ⊢
  exact hu
theorem slices_one (ys : List Vc) : ∀ u ∈ cellsV ys, u.oneCell' = true := by
  intro u hu
  simp only [cellsV, List.mem_map] at hu
  obtain ⟨x, _, rfl⟩ := hu
  rfl
theorem rdv_none {w : World} {B : Nat} {ys : List Vc} (h : RdV w B none ys) : ys = [] := by
  cases ys with
  | nil => rfl
  | cons a r => obtain ⟨b, off, hA, _⟩ := h (by simp); cases hA
theorem cellsV_append (L M : List Vc) : cellsV (L ++ M) = cellsV L ++ cellsV M := by simp [cellsV]
theorem wpList_appV {P : Program} (w : World) {ops : Array Oper} {rest : List Oper} {o : Oper} {a : Act} {Q : Exit → Act → World → Prop} (hgd : o.guard = none) (s x : Operand) (t : TypeId)
    (ho : o.op = .call { callee := .builtin .append, args := #[s, x], argTypes := #[t, t] })
    (base : Nat) (e : TypeId) (i : TypeInfo) (z : Value) (bytes : Nat) (ht : P.underlying t = some (.slice e)) (hi : P.info? e = some i) (hz : i.zero = some z)
    (hsize : i.size = 1) (hby : i.bytes = bytes) (hzs : z.cells.size = 1)
    (v : Value) (n : Nat) (xs : List Vc) (hs : a.eval s = v) (hown : w.ownsRow base e 1 v n (cellsV xs))
    (S : Option Addr) (m c : Nat) (ys : List Vc) (B : Nat) (hx : a.eval x = .slice S m c) (hm : m = ys.length) (hrd : RdV w B S ys) (hnil : S = none → c = 0)
    (h63 : n + m ≤ maxLen) (hbytes : (n + m) * bytes ≤ 140737488355328) (hbase : base ≤ w.heap.size)
    (h : ∀ v' w', w'.ownsRow base e 1 v' (n + m) (cellsV (xs ++ ys)) → w.grownBy w' v.ownBlock → wpList P ops Q rest (a.put o.dst v') w') :
    wpList P ops Q (o :: rest) a w := by
  subst hm
  rcases S with _ | ad
  · obtain rfl := rdv_none hrd
    obtain rfl := hnil rfl
    exact wpList_append_own_none hgd s x t ho base e i 1 ht hi v n _ hs hown hx (h v w (by simpa using hown) (World.grownBy.refl _ _))
  · refine wpList_append_own w hgd s x t ho base e i z 1 bytes ht hi hz hsize hby hzs (by omega) v n _ hs hown ad ys.length c (cellsV ys) hx (by simp [cellsV]) (rdv_cells hrd) (slices_one _) h63 hbytes hbase ?_
    intro v' w' h2 h3 _
    exact h v' w' (by rw [cellsV_append]; exact h2) h3
/-- A row of the call's own that holds vectors is a slice value. -/
theorem ownV_slice {w : World} {base n : Nat} {e : TypeId} {v : Value} {L : List Vc} (h : w.ownsRow base e 1 v n (cellsV L)) : ∃ A c, v = .slice A L.length c ∧ n = L.length ∧ (A = none → c = 0) := by
  have hn : n = L.length := by have := h.1; simpa [cellsV] using this.symm
  subst hn
  rcases h.2 with ⟨rfl, h0⟩ | ⟨g, cap, cur, rfl, h1, h2, h3, h4⟩
  · have : L = [] := by simpa [cellsV] using h0
    subst this
    exact ⟨none, 0, rfl, rfl, fun _ => rfl⟩
  · exact ⟨some ⟨g, 0, none⟩, cap, rfl, rfl, fun h => by cases h⟩
theorem row_garg {w : World} {A : Option Addr} {L : List Vc} (h : RdV w w.heap.size A L) : ∀ x ∈ L, Rd .i8 w w.heap.size x.1 x.2.2 := by
  intro x hx
  obtain ⟨i, hi, rfl⟩ := List.mem_iff_getElem.1 hx
  obtain ⟨b, off, hA, hB, hc⟩ := h (by omega)
  simpa [List.getElem?_eq_getElem hi] using (hc i hi).2
theorem great_three {w : World} {A B C : Option Addr} {c d q : Nat} {L M N : List Vc} (hx : Given w A L) (hy : Given w B M) (hz : Given w C N) (t : TypeId) :
    Calls Try.prog 9 #[.slice (some ⟨w.heap.size, 0, none⟩) 3 3] (w.alloc (.cells #[.slice A L.length c, .slice B M.length d, .slice C N.length q] t)) fun e w' => GreatIs [(A, c, L), (B, d, M), (C, q, N)] e ∧ (w.alloc (.cells #[.slice A L.length c, .slice B M.length d, .slice C N.length q] t)) = w' := by
  have hb : Below w.heap.size w (w.alloc (.cells #[.slice A L.length c, .slice B M.length d, .slice C N.length q] t)) := below_one (Below.refl _ _) _
  refine great_any w.heap.size [(A, c, L), (B, d, M), (C, q, N)] 3 rfl (by simp) _ (w.alloc (.cells #[.slice A L.length c, .slice B M.length d, .slice C N.length q] t)).heap.size (fun i x hx' => ?_)
  match i, hx' with
  | 0, h => injection h with h; subst h; exact (hx.below hb).garg ((Whole.new w t _).cell 0)
  | 1, h => injection h with h; subst h; exact (hy.below hb).garg ((Whole.new w t _).cell 1)
  | 2, h => injection h with h; subst h; exact (hz.below hb).garg ((Whole.new w t _).cell 2)
  | i + 3, h => simp at h
theorem vecs_append (L M : List Vc) : vecs (L ++ M) = vecs L ++ vecs M := by simp [vecs]
theorem mayM_append {ms a b : List (List Int)} (ha : mayM ms a = true) (hb : mayM ms b = true) (h : (a ++ b).length ≤ 2048) : mayM ms (a ++ b) = true := by
  have h1 := mayM_yes ha
  refine decide_eq_true ⟨h1.1, h1.2.1, h, fun i hi => ?_⟩
  have hm : vAt (a ++ b) i ∈ a ++ b := by unfold vAt; rw [List.getElem?_eq_getElem hi]; exact List.getElem_mem hi
  rcases List.mem_append.1 hm with h2 | h2
  · exact mayM_len ha _ h2
  · exact mayM_len hb _ h2
/-- What MeansHalves was handed, in a world of its walk. -/
structure HIn (w0 w : World) (bx : Nat) (A : Option Addr) (c : Nat) (L : List Vc) (B : Option Addr) (d : Nat) (M : List Vc) (C : Option Addr) (q : Nat) (N : List Vc) (D : Option Addr) (v : List Int) : Prop where
  x : Given w A L
  y : Given w B M
  z : Given w C N
  b : Whole w bx 40 #[.slice B M.length d, .slice C N.length q]
  v : Rd .i8 w w.heap.size D v
  c : Below w0.heap.size w0 w
theorem HIn.below {w0 w w' : World} {bx : Nat} {A : Option Addr} {c : Nat} {L : List Vc} {B : Option Addr} {d : Nat} {M : List Vc} {C : Option Addr} {q : Nat} {N : List Vc} {D : Option Addr} {v : List Int} (h : HIn w0 w bx A c L B d M C q N D v) (hb : Below w.heap.size w w') : HIn w0 w' bx A c L B d M C q N D v :=
  ⟨h.x.below hb, h.y.below hb, h.z.below hb, h.b.below hb h.b.lt, (h.v.below hb).more hb.size, h.c.trans (hb.mono h.c.size)⟩
/-- Own row behind a list of vectors: it reads as them. -/
theorem row_given {w : World} {base : Nat} {A : Option Addr} {c : Nat} {L : List Vc} (h : w.ownsRow base 23 1 (.slice A L.length c) L.length (cellsV L)) (hr : ∀ x ∈ L, Rd .i8 w w.heap.size x.1 x.2.2) (hl : L.length ≤ 1048576) (hv : ∀ v ∈ vecs L, v.length ≤ 1048576) (b : B8 (vecs L)) : VArg w A L := ⟨row_rdV h hr, hl, hv, b⟩
theorem b8_append {a b : List (List Int)} (ha : B8 a) (hb : B8 b) : B8 (a ++ b) := fun v hv => by
  rcases List.mem_append.1 hv with h | h
  · exact ha v h
  · exact hb v h
set_option maxRecDepth 100000 in
set_option maxHeartbeats 2000000 in
theorem meansHalves_main (hS : StepSpec) (hC : CostSpec) (hN : NearSpec) (hT : TrainSpec) (A : Option Addr) (c : Nat) (L : List Vc) (B : Option Addr) (d : Nat) (M : List Vc) (C : Option Addr) (q : Nat) (N : List Vc) (D : Option Addr) (s : Nat) (v : List Int) (w : World)
    (hx : Given w A L) (hy : Given w B M) (hz : Given w C N) (nA : A = none → c = 0) (nB : B = none → d = 0) (nC : C = none → q = 0)
    (hv : Rd .i8 w w.heap.size D v) (hvl : v.length ≤ 140737488355328) (b8 : ∀ x ∈ v, -128 ≤ x ∧ x ≤ 127) :
    Calls Try.prog 6 #[.slice A L.length c, .agg #[.slice B M.length d, .slice C N.length q], .slice D v.length s] w fun e w' => e = .returned (.bool true) ∧ Below w.heap.size w w' := by
  have HS := Lib.hid hS
  have HC := Lib.hid hC
  have AL := Lib.hid (fun w => alive_any hS hC hN hT w)
  have NA := Lib.hid nA
  have NB := Lib.hid nB
  have NC := Lib.hid nC
  have HVL := Lib.hid hvl
  have HB8 := Lib.hid b8
  have cw0 : Below w.heap.size w (w.alloc (.cells #[.slice B M.length d, .slice C N.length q] 40)) := below_one (Below.refl _ _) _
  have H0 : Hid (HIn w (w.alloc (.cells #[.slice B M.length d, .slice C N.length q] 40)) w.heap.size A c L B d M C q N D v) := Lib.hid ⟨hx.below cw0, hy.below cw0, hz.below cw0, Whole.new w 40 _, (hv.below cw0).more cw0.size, cw0⟩
  clear hS hC hN hT hx hy hz nA nB nC hvl b8 hv cw0
  go_enter Try.func6, Try.ntmps6
  go_wp2_with fail
  obtain ⟨bx, ebx⟩ : ∃ bx, w.heap.size = bx := ⟨_, rfl⟩
  obtain ⟨w0, ew0⟩ : ∃ w0, w.alloc (.cells #[.slice B M.length d, .slice C N.length q] 40) = w0 := ⟨_, rfl⟩
  rw [ew0] at H0 ⊢
  have H0' : Hid (HIn w w0 bx A c L B d M C q N D v) := by rw [← ebx]; exact H0
  rw [ebx]
  clear ew0 ebx H0
  refine (AL.out _).mono ?_
  rintro e w1 ⟨rfl, b1⟩
  have H1 := Lib.hid (H0'.out.below b1)
  clear H0' b1
  dsimp only
  have r0 : w1.cell? ⟨bx, 0, none⟩ = some (.slice B M.length d) := H1.out.b.cell 0
  have r1 : w1.cell? ⟨bx, 1, none⟩ = some (.slice C N.length q) := H1.out.b.cell 1
  go_wp2_with fail
  clear r0 r1
  refine (great_three H1.out.x H1.out.y H1.out.z _).mono ?_
  rintro e w2 ⟨⟨b, rfl, hb⟩, rfl⟩
  have cw2 : Below w1.heap.size w1 (w1.alloc (.cells #[.slice A L.length c, .slice B M.length d, .slice C N.length q] 22)) := below_one (Below.refl _ _) _
  have H2 := Lib.hid (H1.out.below cw2)
  obtain ⟨w2, ew2⟩ : ∃ w2, w1.alloc (.cells #[.slice A L.length c, .slice B M.length d, .slice C N.length q] 22) = w2 := ⟨_, rfl⟩
  rw [ew2] at H2 ⊢
  clear ew2 cw2 H1
  dsimp only
  cases b with
  | true =>
    go_wp2_with fail
    refine (AL.out _).mono ?_
    rintro e w3 ⟨rfl, b3⟩
    go_wp2
    go_ret
    exact ⟨rfl, (H2.out.below b3).c⟩
  | false =>
    have SL := Lib.hid (hb rfl (A, c, L) (by simp))
    have SM := Lib.hid (hb rfl (B, d, M) (by simp))
    have SN := Lib.hid (hb rfl (C, q, N) (by simp))
    clear hb
    go_wp2_with fail
    refine (beyond_one v.length HVL.out w2).mono ?_
    rintro e w3 ⟨rfl, rfl⟩
    have cw3 : Below w2.heap.size w2 (w2.alloc (.cells #[.int .i64 (v.length : Int)] 3)) := below_one (Below.refl _ _) _
    have H3 := Lib.hid (H2.out.below cw3)
    obtain ⟨w3, ew3⟩ : ∃ w3, w2.alloc (.cells #[.int .i64 (v.length : Int)] 3) = w3 := ⟨_, rfl⟩
    rw [ew3] at H3 ⊢
    clear ew3 cw3 H2
    dsimp only
    cases hbe : bey [(v.length : Int)] with
    | true =>
      go_wp2_with fail
      refine (AL.out _).mono ?_
      rintro e w4 ⟨rfl, b4⟩
      go_wp2
      go_ret
      exact ⟨rfl, (H3.out.below b4).c⟩
    | false =>
      have HV := Lib.hid (bey_one hbe)
      clear hbe AL HS
      have r0 : w3.cell? ⟨bx, 0, none⟩ = some (.slice B M.length d) := H3.out.b.cell 0
      have r1 : w3.cell? ⟨bx, 1, none⟩ = some (.slice C N.length q) := H3.out.b.cell 1
      go_wp2_with fail
      clear r0 r1
      refine (HC.out A c L B d M w3 (H3.out.x.arg SL.out) (H3.out.y.arg SM.out)).mono ?_
      rintro e w4 ⟨rfl, b4⟩
      have H4 := Lib.hid (H3.out.below b4)
      clear H3 b4
      dsimp only
      have r0 : w4.cell? ⟨bx, 0, none⟩ = some (.slice B M.length d) := H4.out.b.cell 0
      have r1 : w4.cell? ⟨bx, 1, none⟩ = some (.slice C N.length q) := H4.out.b.cell 1
      go_wp2_with fail
      clear r0 r1
      refine (HC.out A c L C q N w4 (H4.out.x.arg SL.out) (H4.out.z.arg SN.out)).mono ?_
      rintro e w5 ⟨rfl, b5⟩
      have H5 := Lib.hid (H4.out.below b5)
      clear H4 b5
      dsimp only
      have r0 : w5.cell? ⟨bx, 0, none⟩ = some (.slice B M.length d) := H5.out.b.cell 0
      have r1 : w5.cell? ⟨bx, 1, none⟩ = some (.slice C N.length q) := H5.out.b.cell 1
      have hlm := SM.out.len
      have hln := SN.out.len
      have HLM := Lib.hid hlm
      have HLN := Lib.hid hln
      have HRB := Lib.hid H5.out.y.rd
      obtain ⟨i1, hi1, hy0, hy1, hy2⟩ := info_parts Try.info23v
      go_wp2_with (first
        | (at_builtin; refine wpList_appV _ rfl _ _ 22 rfl w5.heap.size 23 i1 (.slice none 0 0) 24 Try.underlying22 hi1 hy0 hy1 hy2 rfl (.slice none 0 0) 0 [] rfl (own_nil_row _ _ _) B M.length d M _ rfl rfl HRB.out NB.out (by unfold maxLen; omega) (by omega) (Nat.le_refl _) ?_; intro v6 w6 hown6 hg6
           have b6 : Below w5.heap.size w5 w6 := (Below.refl _ _).grown hg6 (Nat.le_refl _) (by simp [Value.ownBlock])
           have H6 := Lib.hid (H5.out.below b6)
           have HRC := Lib.hid H6.out.z.rd
           have r1' : w6.cell? ⟨bx, 1, none⟩ = some (.slice C N.length q) := H6.out.b.cell 1
           rw [List.nil_append, Nat.zero_add] at hown6)
        | (at_builtin; refine wpList_appV _ rfl _ _ 22 rfl w5.heap.size 23 i1 (.slice none 0 0) 24 Try.underlying22 hi1 hy0 hy1 hy2 rfl v6 M.length M rfl hown6 C N.length q N _ rfl rfl HRC.out NC.out (by unfold maxLen; omega) (by omega) hg6.size ?_; intro v7 w7 hown7 hg7
           have b7 : Below w5.heap.size w5 w7 := b6.grown hg7 b6.size (fun j hj => (hown6.lt j hj).1)
           have H7 := Lib.hid (H5.out.below b7)
           obtain ⟨A7, c7, rfl, hn7, -⟩ := ownV_slice hown7
           have HO7 := Lib.hid hown7
           have HR7 : Hid (∀ x ∈ M ++ N, Rd .i8 w7 w7.heap.size x.1 x.2.2) := Lib.hid fun x hx => by
             rcases List.mem_append.1 hx with h | h
             · exact row_garg H7.out.y.rd x h
             · exact row_garg H7.out.z.rd x h
           have HGV := Lib.hid (vecs_append M N)
           have HGL := Lib.hid (show (M ++ N).length = M.length + N.length from List.length_append)
           obtain ⟨G, eG⟩ : ∃ G, M ++ N = G := ⟨_, rfl⟩
           rw [eG] at HO7 HR7 HGV HGL ⊢
           have HO8 : Hid (w7.ownsRow w5.heap.size 23 1 (.slice A7 G.length c7) G.length (cellsV G)) := by
             refine Lib.hid ?_
             have h1 := HO7.out
             rwa [← HGL.out] at h1
           clear r0 r1 r1' hlm hln HRB HRC hown6 hown7 hg6 hg7 b6 b7 H5 H6 eG HO7 hn7))
      have VL7 := Lib.hid (H7.out.x.arg SL.out)
      have VG7 : Hid (VArg w7 A7 G) := Lib.hid (by
        refine row_given HO8.out HR7.out (by have := HGL.out; have := HLM.out; have := HLN.out; omega) (fun v hv => ?_) (by rw [HGV.out]; exact b8_append H7.out.y.b8 H7.out.z.b8)
        rw [HGV.out] at hv
        rcases List.mem_append.1 hv with h | h
        · have := SM.out.vec h; omega
        · have := SN.out.vec h; omega)
      refine (HC.out A c L A7 c7 G w7 VL7.out VG7.out).mono ?_
      rintro e w8 ⟨rfl, b8'⟩
      have H8 := Lib.hid (H7.out.below b8')
      have VG8 := Lib.hid (VG7.out.below b8')
      have HGL8 := Lib.hid (show G.length ≤ 40000 by have := HGL.out; have := HLM.out; have := HLN.out; omega)
      clear VL7 VG7 HR7 H7 HO8 b8'
      dsimp only
      cases hp : mayM (vecs L) (vecs M) with
      | false =>
        have E1 : costA (vecs L) (vecs M) = 0 := by unfold costA; rw [hp]; rfl
        rw [E1, show errE false = 1 from rfl]
        clear hp E1
        go_wp2
        go_ret
        exact ⟨rfl, H8.out.c⟩
      | true =>
        cases hq : mayM (vecs L) (vecs N) with
        | false =>
          have E1 : costA (vecs L) (vecs N) = 0 := by unfold costA; rw [hq]; rfl
          rw [E1, show errE false = 1 from rfl, show errE true = 0 from rfl]
          clear hq hp E1
          obtain ⟨u, eu⟩ : ∃ u, costA (vecs L) (vecs M) = u := ⟨_, rfl⟩
          rw [eu]
          clear eu
          go_wp2 <;> (go_ret; exact ⟨rfl, H8.out.c⟩)
        | true =>
          cases hr : mayM (vecs L) (vecs G) with
          | false =>
            have E1 : costA (vecs L) (vecs G) = 0 := by unfold costA; rw [hr]; rfl
            have hbig : ¬ G.length ≤ 2048 := fun h => by
              have h2 : mayM (vecs L) (vecs G) = true := by rw [HGV.out]; exact mayM_append hp hq (by rw [← HGV.out, vecs_len]; exact h)
              rw [hr] at h2; cases h2
            rw [E1, show errE false = 1 from rfl, show errE true = 0 from rfl]
            clear hq hp hr E1
            obtain ⟨u, eu⟩ : ∃ u, costA (vecs L) (vecs M) = u := ⟨_, rfl⟩
            obtain ⟨u2, eu2⟩ : ∃ u2, costA (vecs L) (vecs N) = u2 := ⟨_, rfl⟩
            rw [eu, eu2]
            clear eu eu2
            have hg8 := HGL8.out
            have e5 : decide (2048 < (G.length : Int)) = true := decide_eq_true (by omega)
            go_wp2 <;> (go_ret; exact ⟨rfl, H8.out.c⟩)
          | true =>
            have E1 : costA (vecs L) (vecs M) = costL (vecs L) (vecs M) := by unfold costA; rw [hp]; rfl
            have E2 : costA (vecs L) (vecs N) = costL (vecs L) (vecs N) := by unfold costA; rw [hq]; rfl
            have E3 : costA (vecs L) (vecs G) = costL (vecs L) (vecs M) + costL (vecs L) (vecs N) := by unfold costA; rw [hr, HGV.out, costL_append]; rfl
            rw [E1, E2, E3, show errE true = 0 from rfl]
            have hn1 := costL_nonneg (vecs L) (vecs M)
            have hn2 := costL_nonneg (vecs L) (vecs N)
            have hM : M.length ≤ 2048 := by have := (mayM_yes hp).2.2.1; rwa [vecs_len] at this
            have hNn : N.length ≤ 2048 := by have := (mayM_yes hq).2.2.1; rwa [vecs_len] at this
            have hu1 : costL (vecs L) (vecs M) ≤ 4161600 * 2048 := by
              have h1 := (costL_bd hp H8.out.x.b8 H8.out.y.b8 M.length).2
              rw [List.take_of_length_le (by rw [vecs_len]; exact Nat.le_refl _), vecs_len] at h1
              omega
            have hu2 : costL (vecs L) (vecs N) ≤ 4161600 * 2048 := by
              have h1 := (costL_bd hq H8.out.x.b8 H8.out.z.b8 N.length).2
              rw [List.take_of_length_le (by rw [vecs_len]; exact Nat.le_refl _), vecs_len] at h1
              omega
            have MORE : Hid (costA (vecs L ++ [v]) (vecs G) ≤ costL (vecs L) (vecs M) + costL (vecs L) (vecs N)) := Lib.hid (by
              rw [← costL_append, ← HGV.out]
              unfold costA
              split
              · exact costL_more v (vecs G) (by have := mayB_yes (mayM_yes hp).2.1; omega)
              · rw [HGV.out, costL_append]; omega)
            obtain ⟨u, eu⟩ : ∃ u, costL (vecs L) (vecs M) = u := ⟨_, rfl⟩
            obtain ⟨u2, eu2⟩ : ∃ u2, costL (vecs L) (vecs N) = u2 := ⟨_, rfl⟩
            rw [eu] at hn1 hu1 MORE ⊢
            rw [eu2] at hn2 hu2 MORE ⊢
            have ewr : wrap64 (u + u2) = u + u2 := by unfold wrap64; omega
            have hll := SL.out.len
            have HLL := Lib.hid hll
            have HRA := Lib.hid H8.out.x.rd
            clear hp hq hr E1 E2 E3 eu eu2 hM hNn
            go_wp2_with (first
              | (at_builtin; refine wpList_appV _ rfl _ _ 22 rfl w8.heap.size 23 i1 (.slice none 0 0) 24 Try.underlying22 hi1 hy0 hy1 hy2 rfl (.slice none 0 0) 0 [] rfl (own_nil_row _ _ _) A L.length c L _ rfl rfl HRA.out NA.out (by unfold maxLen; omega) (by omega) (Nat.le_refl _) ?_; intro v9 w9 hown9 hg9
                 have b9 : Below w8.heap.size w8 w9 := (Below.refl _ _).grown hg9 (Nat.le_refl _) (by simp [Value.ownBlock])
                 have H9 := Lib.hid (H8.out.below b9)
                 rw [List.nil_append, Nat.zero_add] at hown9)
              | (at_builtin; refine wpList_append_own _ rfl _ _ 22 rfl w8.heap.size 23 i1 (.slice none 0 0) 1 24 Try.underlying22 hi1 hy0 hy1 hy2 rfl (by decide) _ _ _ rfl (hown9.alloc _) ⟨w9.heap.size, 0, none⟩ 1 1 [.slice D v.length s] rfl rfl (cell_one_new _ _ _) (by simp [Value.oneCell']) (by show L.length + 1 ≤ 9223372036854775807; omega) (by omega) (by have := b9.size; simp; omega) ?_; intro v10 w10 hown10 hg10 _
                 have b10 : Below w8.heap.size w8 w10 := (b9.alloc b9.size _).grown hg10 (by have := b9.size; simp; omega) (fun j hj => (hown9.lt j hj).1)
                 have H10 := Lib.hid (H8.out.below b10)
                 have VG10 := Lib.hid (VG8.out.below b10)
                 rw [cellsV_snoc L (D, s, v)] at hown10
                 have HM10 : Hid (∀ x ∈ L ++ [(D, s, v)], Rd .i8 w10 w10.heap.size x.1 x.2.2) := Lib.hid fun x hx => by
                   rcases List.mem_append.1 hx with h | h
                   · exact row_garg H10.out.x.rd x h
                   · rw [List.mem_singleton] at h; subst h; exact H10.out.v
                 have HWV := Lib.hid (vecs_snoc L (D, s, v))
                 have HWL := Lib.hid (show (L ++ [(D, s, v)]).length = L.length + 1 by simp)
                 obtain ⟨A10, c10, rfl, hn10, -⟩ := ownV_slice hown10
                 have HO10 := Lib.hid hown10
                 obtain ⟨W, eW⟩ : ∃ W, L ++ [(D, s, v)] = W := ⟨_, rfl⟩
                 rw [eW] at HO10 HM10 HWV HWL ⊢
                 have HO11 : Hid (w10.ownsRow w8.heap.size 23 1 (.slice A10 W.length c10) W.length (cellsV W)) := by
                   refine Lib.hid ?_
                   have h1 := HO10.out
                   rwa [← HWL.out] at h1
                 clear HRA hown9 hown10 hg9 hg10 b9 b10 H9 eW HO10 hn10 hll VG8 H8))
            have VW10 : Hid (VArg w10 A10 W) := Lib.hid (by
              refine row_given HO11.out HM10.out (by have := HWL.out; have := HLL.out; omega) (fun u hu => ?_) (by rw [HWV.out]; exact b8_append H10.out.x.b8 (fun u hu => by rw [List.mem_singleton] at hu; subst hu; exact HB8.out))
              rw [HWV.out] at hu
              rcases List.mem_append.1 hu with h | h
              · have := SL.out.vec h; omega
              · rw [List.mem_singleton] at h; subst h; exact HV.out)
            refine (HC.out A10 c10 W A7 c7 G w10 VW10.out VG10.out).mono ?_
            rintro e w11 ⟨rfl, b11⟩
            have H11 := Lib.hid (H10.out.below b11)
            rw [HWV.out]
            have hmore := MORE.out
            clear VW10 VG10 HO11 HM10 HWV HWL H10 b11 MORE
            dsimp only at hmore ⊢
            obtain ⟨z, ez⟩ : ∃ z, costA (vecs L ++ [v]) (vecs G) = z := ⟨_, rfl⟩
            rw [ez] at hmore ⊢
            clear ez
            cases mayM (vecs L ++ [v]) (vecs G) with
            | false =>
              rw [show errE false = 1 from rfl]
              go_wp2 <;> (go_ret; exact ⟨by simp, H11.out.c⟩)
            | true =>
              rw [show errE true = 0 from rfl]
              have e7 : decide (z ≤ u + u2) = true := decide_eq_true hmore
              go_wp2
              go_ret
              exact ⟨rfl, H11.out.c⟩
end Go.Proofs.Ytcakmcegcbameaa
