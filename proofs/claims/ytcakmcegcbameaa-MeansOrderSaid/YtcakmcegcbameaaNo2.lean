/- The walk of MeansOrder. -/
import Derived.Test.YtcakmcegcbameaaNy
import Derived.Deep.RegionLaw
import Derived.Deep.AppendLies
namespace Go.Proofs.Ytcakmcegcbameaa
open Go.RowKit
set_option linter.unusedVariables false
/-- A list of vectors, nil or not, appended to a row of the call's own, as one step of a region that draws. -/
theorem step_appV {P : Program} {ops : Array Oper} {o : Oper} {a : Act} {w : World} {K : Act → World → Prop} {Q : Exit → Act → World → Prop} {E : Prop} (hgd : o.guard = none) (s x : Operand) (t : TypeId)
    (ho : o.op = .call { callee := .builtin .append, args := #[s, x], argTypes := #[t, t] })
    (base : Nat) (e : TypeId) (i : TypeInfo) (z : Value) (bytes : Nat) (ht : P.underlying t = some (.slice e)) (hi : P.info? e = some i) (hz : i.zero = some z)
    (hsize : i.size = 1) (hby : i.bytes = bytes) (hzs : z.cells.size = 1)
    (v : Value) (n : Nat) (xs : List Vc) (hs : a.eval s = v) (hown : w.ownsRow base e 1 v n (cellsV xs))
    (S : Option Addr) (m c : Nat) (ys : List Vc) (B : Nat) (hx : a.eval x = .slice S m c) (hm : m = ys.length) (hrd : RdV w B S ys) (hnil : S = none → c = 0)
    (h63 : n + m ≤ maxLen) (hbytes : (n + m) * bytes ≤ 140737488355328) (hbase : base ≤ w.heap.size)
    (h : ∀ v' w', w'.ownsRow base e 1 v' (n + m) (cellsV (xs ++ ys)) → w.grownBy w' v.ownBlock → K (a.put o.dst v') w') :
    if Region.wanted o (yielded ops a.tmps) = true then Oper.wp P o a w K Q else E := by
  have hw : Region.wanted o (yielded ops a.tmps) = true := by simp [Region.wanted, hgd]
  rw [if_pos hw]
  subst hm
  rcases S with _ | ad
  · obtain rfl := rdv_none hrd
    obtain rfl := hnil rfl
    have hrun := run_append_owned_none (P := P) (w := w) base t o.type e i 1 ht hi v n _ hown
    unfold Oper.wp
    simp [execOp, ho, resolve, invoke, builtin, hs, hx, hrun, Result.andThen]
    exact h v w (by simpa using hown) (World.grownBy.refl _ _)
  · obtain ⟨v', w', hr, h2, h3, _, _⟩ := run_append_own_at (P := P) w base t o.type e i z 1 bytes ht hi hz hsize hby hzs (by omega) v n _ hown ad ys.length c (cellsV ys) (by simp [cellsV]) (rdv_cells hrd) (slices_one _) h63 hbytes hbase
    unfold Oper.wp
    simp [execOp, ho, resolve, invoke, builtin, hs, hx, hr, Result.andThen]
    exact h v' w' (by rw [cellsV_append]; exact h2) h3
theorem RdV.take {w : World} {D : Nat} {B : Option Addr} {M : List Vc} (h : RdV w D B M) (n : Nat) : RdV w D B (M.take n) := fun hl => by
  rw [List.length_take] at hl
  obtain ⟨b, off, hA, hb, hc⟩ := h (by omega)
  refine ⟨b, off, hA, hb, fun i hi => ?_⟩
  rw [List.length_take] at hi
  rw [List.getElem?_take, if_pos (by omega)]
  exact hc i (by omega)
theorem RdV.drop {w : World} {D : Nat} {B : Option Addr} {M : List Vc} (h : RdV w D B M) {n cap : Nat} (hcap : M.length ≤ cap) : RdV w D (if cap = n then B else Option.map (fun x => x.add n) B) (M.drop n) := fun hl => by
  rw [List.length_drop] at hl
  obtain ⟨b, off, rfl, hb, hc⟩ := h (by omega)
  rw [if_neg (by omega)]
  refine ⟨b, off + n, ?_, hb, fun i hi => ?_⟩
  · simp only [Option.map_some, Addr.add]; split <;> simp_all
  · rw [List.length_drop] at hi
    rw [List.getElem?_drop, Nat.add_assoc]
    exact hc (n + i) (by omega)
theorem drop_nil_cap {B : Option Addr} {d k : Nat} (h : B = none → d = 0) : (if d = k then B else Option.map (fun x : Addr => x.add k) B) = none → d - k = 0 := fun e => by
  by_cases hd : d = k
  · omega
  · rw [if_neg hd] at e
    cases B with
    | none => have := h rfl; omega
    | some a => cases e
theorem all_len (vs : List (List Int)) (d : Nat) : (∀ i, i < vs.length → (vAt vs i).length = d) ↔ ∀ v ∈ vs, v.length = d :=
  ⟨fun h v hv => by obtain ⟨i, hi, rfl⟩ := mem_vAt hv; exact h i hi, fun h i hi => h _ (vAt_mem hi)⟩
theorem mayM_perm {ms a b : List (List Int)} (h : a.Perm b) : mayM ms b = mayM ms a := by
  unfold mayM
  rw [decide_eq_decide, all_len, all_len, h.length_eq]
  constructor
  · rintro ⟨h1, h2, h3, h4⟩; exact ⟨h1, h2, h3, fun v hv => h4 v (h.mem_iff.1 hv)⟩
  · rintro ⟨h1, h2, h3, h4⟩; exact ⟨h1, h2, h3, fun v hv => h4 v (h.mem_iff.2 hv)⟩
theorem mayM_twice {ms a b : List (List Int)} (h : a.Perm b) (hl : a.length ≤ 1000) : mayM ms (a ++ b) = mayM ms a := by
  have hb := h.length_eq
  unfold mayM
  rw [decide_eq_decide, all_len, all_len]
  constructor
  · rintro ⟨h1, h2, h3, h4⟩; exact ⟨h1, h2, by omega, fun v hv => h4 v (List.mem_append.2 (.inl hv))⟩
  · rintro ⟨h1, h2, h3, h4⟩
    refine ⟨h1, h2, by rw [List.length_append]; omega, fun v hv => ?_⟩
    rcases List.mem_append.1 hv with hv | hv
    · exact h4 v hv
    · exact h4 v (h.mem_iff.2 hv)
/-- The order makes no difference, and each as often again changes no step. -/
theorem ansOrder {ms a b : List (List Int)} (h : a.Perm b) (hl : a.length ≤ 1000) : mayM ms b = mayM ms a ∧ mayM ms (a ++ b) = mayM ms a ∧ stepA ms b = stepA ms a ∧ stepA ms (a ++ b) = stepA ms a ∧ costA ms b = costA ms a ∧ costA ms (a ++ b) = 2 * costA ms a := by
  have h1 := mayM_perm (ms := ms) h
  have h2 := mayM_twice (ms := ms) h hl
  refine ⟨h1, h2, ?_⟩
  unfold stepA costA
  rw [h1, h2]
  cases hm : mayM ms a with
  | false => exact ⟨rfl, rfl, rfl, rfl⟩
  | true =>
    have hd := mayM_len hm
    refine ⟨stepL_perm h hd, stepL_twice h hd, (costL_perm h).symm, ?_⟩
    show costL ms (a ++ b) = 2 * costL ms a
    rw [costL_append, ← costL_perm h]
    omega
/-- What MeansOrder was handed, in a world of its walk. -/
structure OIn (w0 w : World) (A : Option Addr) (L : List Vc) (B : Option Addr) (M : List Vc) : Prop where
  x : Given w A L
  y : Given w B M
  c : Below w0.heap.size w0 w
theorem OIn.below {w0 w w' : World} {A : Option Addr} {L : List Vc} {B : Option Addr} {M : List Vc} (h : OIn w0 w A L B M) (hb : Below w.heap.size w w') : OIn w0 w' A L B M := ⟨h.x.below hb, h.y.below hb, h.c.trans (hb.mono h.c.size)⟩
theorem turn_mem {M : List Vc} {k : Nat} {x : Vc} (h : x ∈ M.drop k ++ M.take k) : x ∈ M := by
  rcases List.mem_append.1 h with h | h
  · exact List.mem_of_mem_drop h
  · exact List.mem_of_mem_take h
theorem vecs_turn (M : List Vc) (k : Nat) : (vecs M).Perm (vecs (M.drop k ++ M.take k)) := by
  unfold vecs
  have : M.Perm (M.drop k ++ M.take k) := by
    conv => lhs; rw [← List.take_append_drop k M]
    exact List.perm_append_comm
  exact this.map _
theorem vecs_sub {M T : List Vc} (h : ∀ x ∈ T, x ∈ M) : ∀ v ∈ vecs T, v ∈ vecs M := fun v hv => by
  unfold vecs at hv ⊢
  obtain ⟨x, hx, rfl⟩ := List.mem_map.1 hv
  exact List.mem_map.2 ⟨x, h x hx, rfl⟩
set_option maxRecDepth 100000 in
set_option maxHeartbeats 1000000 in
theorem meansOrder_main (hS : StepSpec) (hC : CostSpec) (hN : NearSpec) (hT : TrainSpec) (A : Option Addr) (c : Nat) (L : List Vc) (B : Option Addr) (d : Nat) (M : List Vc) (at_ : Nat) (w : World) (hx : Given w A L) (hy : Given w B M) (nB : B = none → d = 0) (hat : at_ < 65536) (hd : M.length ≤ d) (hd2 : d ≤ 9223372036854775807) :
    Calls Try.prog 8 #[.slice A L.length c, .slice B M.length d, .int .u16 at_] w fun e w' => e = .returned (.bool true) ∧ Below w.heap.size w w' := by
  have HS := Lib.hid hS
  have HC := Lib.hid hC
  have AL := Lib.hid (fun w => alive_any hS hC hN hT w)
  have HX := Lib.hid hx
  have HY := Lib.hid hy
  have NB := Lib.hid nB
  have HD := Lib.hid hd
  have HD2 := Lib.hid hd2
  clear hS hC hN hT hx hy nB hd hd2
  go_enter Try.func8, Try.ntmps8
  go_wp2_with fail
  refine (AL.out _).mono ?_
  rintro e w1 ⟨rfl, b1⟩
  have HX1 := Lib.hid (HX.out.below b1)
  have HY1 := Lib.hid (HY.out.below b1)
  have C1 := Lib.hid b1
  clear HX HY b1
  dsimp only
  go_wp2_with fail
  refine (great_two HX1.out HY1.out _).mono ?_
  rintro e w2 ⟨⟨b, rfl, hb⟩, rfl⟩
  have cw2 : Below w1.heap.size w1 (w1.alloc (.cells #[.slice A L.length c, .slice B M.length d] 22)) := below_one (Below.refl _ _) _
  have C2 := Lib.hid (C1.out.trans (cw2.mono C1.out.size))
  have HX2 := Lib.hid (HX1.out.below cw2)
  have HY2 := Lib.hid (HY1.out.below cw2)
  obtain ⟨w2, ew2⟩ : ∃ w2, w1.alloc (.cells #[.slice A L.length c, .slice B M.length d] 22) = w2 := ⟨_, rfl⟩
  rw [ew2] at C2 HX2 HY2 ⊢
  clear ew2 cw2 HX1 HY1 C1
  dsimp only
  cases b with
  | true =>
    go_wp2_with fail
    refine (AL.out _).mono ?_
    rintro e w3 ⟨rfl, b3⟩
    go_wp2
    go_ret
    exact ⟨rfl, C2.out.trans (b3.mono C2.out.size)⟩
  | false =>
    have SX := Lib.hid (hb rfl (A, c, L) (by simp))
    have SY := Lib.hid (hb rfl (B, d, M) (by simp))
    clear hb
    by_cases hbig : 1000 < M.length
    · have e1 : decide (1000 < (M.length : Int)) = true := decide_eq_true (by omega)
      clear hbig
      go_wp2_with fail
      refine (AL.out _).mono ?_
      rintro e w3 ⟨rfl, b3⟩
      go_wp2
      go_ret
      exact ⟨rfl, C2.out.trans (b3.mono C2.out.size)⟩
    · have e1 : decide (1000 < (M.length : Int)) = false := decide_eq_false (by omega)
      have hml : M.length ≤ 1000 := by omega
      clear hbig
      go_wp2_with fail
      have hkl : at_ % (M.length + 1) ≤ M.length := by have := Nat.mod_lt at_ (show 0 < M.length + 1 by omega); omega
      have ek : ((at_ : Int) % ((M.length : Int) + 1)) = ((at_ % (M.length + 1) : Nat) : Int) := by simp
      rw [ek]
      clear ek
      obtain ⟨k, ek⟩ : ∃ k, at_ % (M.length + 1) = k := ⟨_, rfl⟩
      rw [ek] at hkl ⊢
      clear ek
      have hd := HD.out
      have hd2 := HD2.out
      have g1 : (0 : Int) ≤ (k : Int) := by omega
      have g2 : (k : Int) ≤ (M.length : Int) := by omega
      have g3 : (M.length : Int) ≤ (d : Int) := by omega
      have g4 : (k : Int) ≤ (d : Int) := by omega
      obtain ⟨i1, hi1, hy0, hy1, hy2⟩ := info_parts Try.info23v
      have HRD := Lib.hid (show RdV w2.drew w2.heap.size (if d = k then B else Option.map (fun x => x.add k) B) (M.drop k) from (HY2.out.rd.drop hd).below (Below.refl _ _).drew)
      have HRT := Lib.hid (HY2.out.rd.take k)
      have HND := Lib.hid (drop_nil_cap (k := k) NB.out)
      have hlt : (M.take k).length = k := by rw [List.length_take]; omega
      have hld : (M.drop k).length = M.length - k := List.length_drop
      have HLT := Lib.hid hlt
      have HLD := Lib.hid hld
      clear hlt hld
      go_region_law (first
        | (refine step_appV (by rfl) (.tmp 42) (.tmp 45) 22 (by rfl) w2.heap.size 23 i1 (.slice none 0 0) 24 Try.underlying22 hi1 hy0 hy1 hy2 rfl (.slice none 0 0) 0 [] (by kernel_rfl) (own_nil_row _ _ _) (if d = k then B else Option.map (fun x => x.add k) B) (M.length - k) (d - k) (M.drop k) w2.heap.size (by kernel_rfl) HLD.out.symm HRD.out HND.out (by unfold maxLen; omega) (by omega) (Nat.le_refl _) ?_; intro v4 w4 hown4 hg4; have hb4 : Below w2.heap.size w2.drew w4 := (Below.refl _ _).grown hg4 (Nat.le_refl _) (by simp [Value.ownBlock]); have HRT4 := Lib.hid (HRT.out.below ((Below.refl w2.heap.size w2).drew.trans hb4)))
        | (refine step_appV (by rfl) (.tmp 46) (.tmp 49) 22 (by rfl) w2.heap.size 23 i1 (.slice none 0 0) 24 Try.underlying22 hi1 hy0 hy1 hy2 rfl v4 _ _ (by kernel_rfl) hown4 B k d (M.take k) w2.heap.size (by kernel_rfl) HLT.out.symm HRT4.out NB.out (by unfold maxLen; omega) (by omega) hb4.size ?_; intro v5 w5 hown5 hg5))
      have hb5 : Below w2.heap.size w2 w5 := ((Below.refl w2.heap.size w2).drew.trans hb4).grown hg5 (hb4.size) (fun j hj => (hown4.lt j hj).1)
      have HI5 : Hid (OIn w w5 A L B M) := Lib.hid (OIn.below ⟨HX2.out, HY2.out, C2.out⟩ hb5)
      rw [List.nil_append] at hown5
      obtain ⟨A5, c5, rfl, hn5, hz5⟩ := ownV_slice hown5
      rw [hn5] at hown5
      have hTl : (M.drop k ++ M.take k).length = M.length := by rw [List.length_append, HLT.out, HLD.out]; omega
      have HTM : Hid (∀ x ∈ M.drop k ++ M.take k, x ∈ M) := fun x hx => turn_mem hx
      have HPM := Lib.hid (vecs_turn M k)
      have HOT := Lib.hid hown5
      have HZ5 := Lib.hid hz5
      obtain ⟨T, eT⟩ : ∃ T, M.drop k ++ M.take k = T := ⟨_, rfl⟩
      rw [eT] at hTl HTM HPM HOT ⊢
      have HTL := Lib.hid hTl
      clear hTl eT hz5 hn5 hown5 hg5 hb5 HRT4 hb4 hg4 hown4 HRD HRT HND HLT HLD C2 HX2 HY2
      generalize (if d = k then B else Option.map (fun x => x.add k) B) = Z
      have HRB := Lib.hid HI5.out.y.rd
      go_wp2_with (first
        | (at_builtin; refine wpList_appV _ rfl _ _ 22 rfl w5.heap.size 23 i1 (.slice none 0 0) 24 Try.underlying22 hi1 hy0 hy1 hy2 rfl (.slice none 0 0) 0 [] (by kernel_rfl) (own_nil_row _ _ _) B M.length d M w5.heap.size (by kernel_rfl) rfl HRB.out NB.out (by unfold maxLen; omega) (by omega) (Nat.le_refl _) ?_; intro v6 w6 hown6 hg6
           have b6 : Below w5.heap.size w5 w6 := (Below.refl _ _).grown hg6 (Nat.le_refl _) (by simp [Value.ownBlock])
           have HI6 := Lib.hid (HI5.out.below b6)
           have HT6 : Hid (RdV w6 w6.heap.size A5 T) := Lib.hid (row_rdV (own_below HOT.out b6) (fun x hx => row_garg HI6.out.y.rd x (HTM.out x hx)))
           rw [List.nil_append, Nat.zero_add] at hown6)
        | (at_builtin; refine wpList_appV _ rfl _ _ 22 rfl w5.heap.size 23 i1 (.slice none 0 0) 24 Try.underlying22 hi1 hy0 hy1 hy2 rfl v6 M.length M (by kernel_rfl) hown6 A5 T.length c5 T w6.heap.size (by kernel_rfl) rfl HT6.out HZ5.out (by have := HTL.out; unfold maxLen; omega) (by have := HTL.out; omega) hg6.size ?_; intro v7 w7 hown7 hg7
           have b7 : Below w5.heap.size w5 w7 := b6.grown hg7 b6.size (fun j hj => (hown6.lt j hj).1)))
      obtain ⟨A7, c7, rfl, hn7, -⟩ := ownV_slice hown7
      rw [hn7] at hown7
      have HI7 := Lib.hid (HI5.out.below b7)
      have HWV := Lib.hid (vecs_append M T)
      have HWM : Hid (∀ x ∈ M ++ T, x ∈ M) := fun x hx => by
        rcases List.mem_append.1 hx with h | h
        · exact h
        · exact HTM.out x h
      have HWL := Lib.hid (show (M ++ T).length = M.length + T.length from List.length_append)
      have HOW := Lib.hid hown7
      obtain ⟨W, eW⟩ : ∃ W, M ++ T = W := ⟨_, rfl⟩
      rw [eW] at HWV HWM HWL HOW ⊢
      have HOT7 := Lib.hid (own_below HOT.out b7)
      have VX := Lib.hid (HI7.out.x.arg SX.out)
      have VY := Lib.hid (HI7.out.y.arg SY.out)
      have VT : Hid (VArg w7 A5 T) := Lib.hid (row_given HOT7.out (fun x hx => row_garg HI7.out.y.rd x (HTM.out x hx)) (by have := HTL.out; omega) (fun v hv => by have := SY.out.vec (vecs_sub HTM.out v hv); omega) (fun v hv => HI7.out.y.b8 v (vecs_sub HTM.out v hv)))
      have VW : Hid (VArg w7 A7 W) := Lib.hid (row_given HOW.out (fun x hx => row_garg HI7.out.y.rd x (HWM.out x hx)) (by have := HTL.out; have := HWL.out; omega) (fun v hv => by have := SY.out.vec (vecs_sub HWM.out v hv); omega) (fun v hv => HI7.out.y.b8 v (vecs_sub HWM.out v hv)))
      obtain ⟨q1, q2, q3, q4, q5, q6⟩ := ansOrder (ms := vecs L) HPM.out (by rw [vecs_len]; exact hml)
      rw [← HWV.out] at q2 q4 q6
      have Q1 := Lib.hid q1
      have Q2 := Lib.hid q2
      have Q3 := Lib.hid q3
      have Q4 := Lib.hid q4
      have Q5 := Lib.hid q5
      have Q6 := Lib.hid q6
      clear q1 q2 q3 q4 q5 q6 hn7 hown7 eW HWM HTM HOT HOT7 HOW HWV HPM HWL HTL HT6 HI6 HI5 hown6 hg6 hg7 b6 b7 HZ5 HRB hi1 hy0 hy1 hy2
      refine (HS.out A c L B d M w7 VX.out VY.out).mono ?_
      rintro e w8 ⟨A8, c8, L8, rfl, o8, -, v8, b8⟩
      have I8 := Lib.hid (HI7.out.below b8)
      have VX8 := Lib.hid (VX.out.below b8)
      have VY8 := Lib.hid (VY.out.below b8)
      have VT8 := Lib.hid (VT.out.below b8)
      have VW8 := Lib.hid (VW.out.below b8)
      have R8 : Hid (∃ w' : World, OwnV w8 w'.heap.size A8 c8 L8) := ⟨w7, o8⟩
      have V8 := Lib.hid v8
      clear VX VY VT VW HI7 o8 v8 b8
      dsimp only
      go_wp2_with fail
      refine (HS.out A c L A5 c5 T w8 VX8.out VT8.out).mono ?_
      rintro e w9 ⟨A9, c9, L9, rfl, o9, -, v9, b9⟩
      rw [Q3.out] at v9
      rw [Q1.out]
      have I9 := Lib.hid (I8.out.below b9)
      have VX9 := Lib.hid (VX8.out.below b9)
      have VY9 := Lib.hid (VY8.out.below b9)
      have VT9 := Lib.hid (VT8.out.below b9)
      have VW9 := Lib.hid (VW8.out.below b9)
      have R9 : Hid (∃ w' : World, OwnV w9 w'.heap.size A9 c9 L9) := ⟨w8, o9⟩
      have R8' : Hid (∃ w' : World, OwnV w9 w'.heap.size A8 c8 L8) := by obtain ⟨w', h⟩ := R8.out; exact ⟨w', h.below b9⟩
      have V9 := Lib.hid v9
      clear VX8 VY8 VT8 VW8 I8 R8 o9 v9 b9
      dsimp only
      go_wp2_with fail
      refine (HS.out A c L A7 c7 W w9 VX9.out VW9.out).mono ?_
      rintro e w10 ⟨A10, c10, L10, rfl, o10, -, v10, b10⟩
      rw [Q4.out] at v10
      rw [Q2.out]
      have I10 := Lib.hid (I9.out.below b10)
      have VX10 := Lib.hid (VX9.out.below b10)
      have VY10 := Lib.hid (VY9.out.below b10)
      have VT10 := Lib.hid (VT9.out.below b10)
      have VW10 := Lib.hid (VW9.out.below b10)
      have S10 : Hid (∃ w' : World, OwnV w10 w'.heap.size A10 c10 L10) := ⟨w9, o10⟩
      have S9 : Hid (∃ w' : World, OwnV w10 w'.heap.size A9 c9 L9) := by obtain ⟨w', h⟩ := R9.out; exact ⟨w', h.below b10⟩
      have S8 : Hid (∃ w' : World, OwnV w10 w'.heap.size A8 c8 L8) := by obtain ⟨w', h⟩ := R8'.out; exact ⟨w', h.below b10⟩
      have V10 := Lib.hid v10
      clear VX9 VY9 VT9 VW9 I9 R9 R8' o10 v10 b10
      dsimp only
      go_wp2_with fail
      refine (HC.out A c L B d M w10 VX10.out VY10.out).mono ?_
      rintro e w11 ⟨rfl, b11⟩
      have VX11 := Lib.hid (VX10.out.below b11)
      have VT11 := Lib.hid (VT10.out.below b11)
      have VW11 := Lib.hid (VW10.out.below b11)
      dsimp only
      go_wp2_with fail
      refine (HC.out A c L A5 c5 T w11 VX11.out VT11.out).mono ?_
      rintro e w12 ⟨rfl, b12⟩
      rw [Q1.out, Q5.out]
      have VX12 := Lib.hid (VX11.out.below b12)
      have VW12 := Lib.hid (VW11.out.below b12)
      dsimp only
      go_wp2_with fail
      refine (HC.out A c L A7 c7 W w12 VX12.out VW12.out).mono ?_
      rintro e w13 ⟨rfl, b13⟩
      rw [Q2.out, Q6.out]
      have cb : Below w10.heap.size w10 w13 := (b11.trans (b12.mono b11.size)).trans (b13.mono (Nat.le_trans b11.size b12.size))
      have I13 := Lib.hid (I10.out.below cb)
      have S10' : Hid (∃ w' : World, OwnV w13 w'.heap.size A10 c10 L10) := by obtain ⟨w', h⟩ := S10.out; exact ⟨w', h.below cb⟩
      have S9' : Hid (∃ w' : World, OwnV w13 w'.heap.size A9 c9 L9) := by obtain ⟨w', h⟩ := S9.out; exact ⟨w', h.below cb⟩
      have S8' : Hid (∃ w' : World, OwnV w13 w'.heap.size A8 c8 L8) := by obtain ⟨w', h⟩ := S8.out; exact ⟨w', h.below cb⟩
      clear b11 b12 b13 cb S8 S9 S10 VX10 VY10 VT10 VW10 VX11 VT11 VW11 VX12 VW12 I10 Q1 Q2 Q3 Q4 Q5 Q6
      dsimp only
      cases hp : mayM (vecs L) (vecs M) with
      | false =>
        have E1 : costA (vecs L) (vecs M) = 0 := by unfold costA; rw [hp]; rfl
        rw [E1, show errE false = 1 from rfl]
        clear hp E1
        go_wp2
        go_ret
        exact ⟨rfl, I13.out.c⟩
      | true =>
        have E1 : costA (vecs L) (vecs M) = costL (vecs L) (vecs M) := by unfold costA; rw [hp]; rfl
        have E2 : stepA (vecs L) (vecs M) = stepL (vecs L) (vecs M) := by unfold stepA; rw [hp]; rfl
        have hv8 := V8.out.trans E2
        have hv9 := V9.out.trans E2
        have hv10 := V10.out.trans E2
        have W8 : Hid (VArg w13 A8 L8) := by obtain ⟨w', h⟩ := S8'.out; exact vans_argOf h hv8 hp I13.out.x.b8 I13.out.y.b8
        have W9 : Hid (VArg w13 A9 L9) := by obtain ⟨w', h⟩ := S9'.out; exact vans_argOf h hv9 hp I13.out.x.b8 I13.out.y.b8
        have W10 : Hid (VArg w13 A10 L10) := by obtain ⟨w', h⟩ := S10'.out; exact vans_argOf h hv10 hp I13.out.x.b8 I13.out.y.b8
        have D9 : Hid (decide (vecs L8 = vecs L9) = true) := Lib.hid (decide_eq_true (hv8.trans hv9.symm))
        have D10 : Hid (decide (vecs L8 = vecs L10) = true) := Lib.hid (decide_eq_true (hv8.trans hv10.symm))
        have hn1 := costL_nonneg (vecs L) (vecs M)
        have hu1 : costL (vecs L) (vecs M) ≤ 4161600 * 2048 := by
          have h1 := (costL_bd hp I13.out.x.b8 I13.out.y.b8 M.length).2
          rw [List.take_of_length_le (by rw [vecs_len]; exact Nat.le_refl _), vecs_len] at h1
          omega
        rw [E1, show errE true = 0 from rfl]
        obtain ⟨u, eu⟩ : ∃ u, costL (vecs L) (vecs M) = u := ⟨_, rfl⟩
        rw [eu] at hn1 hu1 ⊢
        have ewr : wrap64 (2 * u) = 2 * u := by unfold wrap64; omega
        clear hp E1 E2 hv8 hv9 hv10 V8 V9 V10 S8' S9' S10' eu
        go_wp2_with fail
        refine (same_arg A8 c8 L8 A9 c9 L9 w13 W8.out W9.out).mono ?_
        rintro e w14 ⟨rfl, b14⟩
        rw [D9.out]
        have X8 := Lib.hid (W8.out.below b14)
        have X10 := Lib.hid (W10.out.below b14)
        have C14 := Lib.hid (I13.out.c.trans (b14.mono I13.out.c.size))
        clear W8 W9 W10 D9 I13 b14
        dsimp only
        go_wp2_with fail
        refine (same_arg A8 c8 L8 A10 c10 L10 w14 X8.out X10.out).mono ?_
        rintro e w15 ⟨rfl, b15⟩
        rw [D10.out]
        have C15 := Lib.hid (C14.out.trans (b15.mono C14.out.size))
        clear X8 X10 D10 C14 b15
        dsimp only
        go_wp2
        go_ret
        exact ⟨rfl, C15.out⟩
end Go.Proofs.Ytcakmcegcbameaa
