/- Several texts in one. -/
import Derived.Test.YtkmngbkghgelfaaFp
import Derived.Test.YtkmngbkghgelfaaFq
import Derived.Test.YtkmngbkghgelfaaFo
import Derived.Deep.QuietTactic
import Derived.BigQuiet
import Derived.Test.YtkmngbkghgelfaaLe
/- More mathematics of what a search finds: the first, who is looked for by its own vector; place by place. -/
namespace Go.Proofs.Ytkmngbkghgelfaa
open Go.Shelf Go.RowKit Go.Lib
open Go.Sort hiding Below
set_option linter.unusedVariables false
theorem far_selfS (v : List Int) : far v v = 0 := by
  unfold far
  induction v with
  | nil => rfl
  | cons x v ih =>
    unfold farL at *
    simp only [List.zip_cons_cons, List.map_cons, List.sum_cons]
    rw [ih, Int.sub_self]; rfl
theorem rem_intS (a b : Nat) : (a : Int).tmod (b : Int) = ((a % b : Nat) : Int) := by rw [Int.ofNat_tmod]
theorem hit_pos {G : List Pn} {s : Int} {v : List Int} (hM : MaySearch G s v) (hok : ∀ x ∈ G, PnOk x) (bv : ∀ n ∈ v, -128 ≤ n ∧ n ≤ 127) {p : Nat} (hp : p < G.length) : 0 ≤ (hitP G v p).2 := by
  have hm := nAt_mem hp
  exact (far_bdS (by rw [hM.same _ hm]; exact hM.dim.2) (hok _ hm).2.1 bv).1
/-- None stands ahead of the first. -/
theorem srt_first {xs : HL} {x : Int × Int} (hx : x ∈ xs) : ∃ y, (srt xs)[0]? = some y ∧ ltH x y = false := by
  have h1 : x ∈ srt xs := (srt_perm xs).symm.subset hx
  have h2 := up_srt xs
  cases hs : srt xs with
  | nil => rw [hs] at h1; cases h1
  | cons y ys =>
    refine ⟨y, rfl, ?_⟩
    rw [hs] at h1 h2
    rcases List.mem_cons.1 h1 with rfl | h3
    · exact swoH.irrefl _
    · have := (List.pairwise_cons.1 h2).1 x h3
      simpa using this
theorem first_zero {xs : HL} {x : Int × Int} (hx : x ∈ xs) (h0 : x.2 = 0) (hp : ∀ y ∈ xs, 0 ≤ y.2) : ∃ y, (srt xs)[0]? = some y ∧ y.2 = 0 := by
  obtain ⟨y, h1, h2⟩ := srt_first hx
  refine ⟨y, h1, ?_⟩
  have h3 := hp y ((srt_perm xs).subset (List.mem_of_getElem? h1))
  unfold ltH at h2
  simp at h2
  omega
/-- One more makes none farther. -/
theorem insL_le (x : Int × Int) : ∀ (S : HL), Up S → ∀ (i : Nat) (y z : Int × Int), (insL S x)[i]? = some y → S[i]? = some z → ltH z y = false
  | [], _, i, y, z, _, h2 => by simp at h2
  | a :: S, hu, i, y, z, h1, h2 => by
    unfold Up at hu
    rw [List.pairwise_cons] at hu
    unfold insL at h1
    split at h1
    · rename_i hx
      cases i with
      | zero =>
        simp at h1 h2
        subst h1 h2
        exact by cases h : ltH a x with
          | false => rfl
          | true => have := swoH.trans _ _ _ hx h; rw [swoH.irrefl] at this; cases this
      | succ i =>
        simp at h1 h2
        have hz : z ∈ S := List.mem_of_getElem? h2
        cases i with
        | zero =>
          simp at h1
          subst h1
          simpa using hu.1 z hz
        | succ i =>
          simp at h1
          obtain ⟨hi, e1⟩ := List.getElem?_eq_some_iff.1 h1
          obtain ⟨hj, e2⟩ := List.getElem?_eq_some_iff.1 h2
          have hu2 := hu.2
          rw [List.pairwise_iff_getElem] at hu2
          have := hu2 i (i + 1) hi hj (Nat.lt_succ_self i)
          rw [e1, e2] at this
          simpa using this
    · cases i with
      | zero =>
        simp at h1 h2
        subst h1 h2
        exact swoH.irrefl _
      | succ i =>
        simp at h1 h2
        exact insL_le x S hu.2 i y z h1 h2
theorem fold_le : ∀ (l S : HL), Up S → ∀ (i : Nat) (y z : Int × Int), (l.foldl insL S)[i]? = some y → S[i]? = some z → ltH z y = false
  | [], S, _, i, y, z, h1, h2 => by
    rw [List.foldl_nil] at h1
    rw [h1] at h2
    injection h2 with h2
    subst h2
    exact swoH.irrefl _
  | x :: l, S, hu, i, y, z, h1, h2 => by
    have hl : i < (insL S x).length := by rw [insL_len]; have := (List.getElem?_eq_some_iff.1 h2).1; omega
    have h3 := fold_le l (insL S x) (insL_up x S hu) i y _ h1 (List.getElem?_eq_getElem hl)
    have h4 := insL_le x S hu i _ z (List.getElem?_eq_getElem hl) h2
    exact swoH.ntrans _ _ _ h4 h3
theorem srt_foldS : ∀ (l S : HL), Up S → srt (S ++ l) = l.foldl insL S
  | [], S, h => by simpa using srt_self h
  | x :: l, S, h => by
    have := srt_foldS l (insL S x) (insL_up x S h)
    rw [List.foldl_cons, ← this]
    refine srt_of_perm ?_
    have h2 := (insL_perm x S).symm.append_right l
    refine List.Perm.trans ?_ h2
    simp
/-- Of fewer hits none is nearer, place by place. -/
theorem srt_more (c d : HL) {i : Nat} {y z : Int × Int} (h1 : (srt (c ++ d))[i]? = some y) (h2 : (srt c)[i]? = some z) : ltH z y = false := by
  have e : srt (c ++ d) = d.foldl insL (srt c) := by
    rw [← srt_foldS d (srt c) (up_srt c)]
    exact srt_of_perm ((srt_perm c).symm.append_right d)
  rw [e] at h1
  exact fold_le d (srt c) (up_srt c) i y z h1 h2
theorem may_start {G : List Pn} {s t : Int} {v : List Int} (h : MaySearch G s v) (h0 : 0 ≤ t) (h1 : t < (G.length : Int)) : MaySearch G t v := ⟨⟨h.ho.1, h0, .inl h1, h.ho.2.2.2⟩, h.dim, h.same, h.nd⟩
theorem beam_yes {G : List Pn} {s : Int} {v : List Int} {k m : Nat} (hM : MaySearch G s v) (h1 : 1 ≤ k) (h2 : k ≤ m) (h3 : m ≤ 256) : beamB G s v (k : Int) (m : Int) = true ∧ beamH G s v (k : Int) (m : Int) = (hlP G v (finP G v m s.toNat).ps).take k ∧ beamO G s v (k : Int) (m : Int) = natS (finP G v m s.toNat).od := by
  have hB : beamB G s v (k : Int) (m : Int) = true := by
    rw [beamB_eq, mayS_of hM, show widB (m : Int) = true from decide_eq_true ⟨by omega, by omega⟩, decide_eq_true (show 1 ≤ (k : Int) ∧ (k : Int) ≤ (m : Int) by omega)]; rfl
  exact ⟨hB, by unfold beamH; rw [hB]; rfl, by unfold beamO; rw [hB]; rfl⟩
theorem beam_no {G : List Pn} {s : Int} {v : List Int} {k m : Int} (hB : beamB G s v k m = false) : beamH G s v k m = [] ∧ beamO G s v k m = [] := ⟨by unfold beamH; rw [hB]; rfl, by unfold beamO; rw [hB]; rfl⟩
end Go.Proofs.Ytkmngbkghgelfaa
/- Mathematics of SearchBeyond. -/
namespace Go.Proofs.Ytkmngbkghgelfaa
open Go.Shelf Go.RowKit Go.Lib
open Go.Sort hiding Below
set_option linter.unusedVariables false
set_option linter.unusedSimpArgs false
/-- What a search came to and the others. -/
theorem cm_split {G : List Pn} {v : List Int} {cm : List Nat} (hn : cm.Nodup) (hl : ∀ p ∈ cm, p < G.length) : ∃ d, allH G v = srt (hlP G v cm ++ d) := by
  refine ⟨hlP G v ((List.range G.length).filter (fun p => !(decide (p ∈ cm)))), ?_⟩
  unfold allH
  refine srt_of_perm ?_
  have hN : (cm ++ (List.range G.length).filter (fun p => !(decide (p ∈ cm)))).Nodup := by
    refine List.nodup_append.2 ⟨hn, List.nodup_range.filter _, fun a ha b hb e => ?_⟩
    subst e
    simp at hb
    exact hb.2 ha
  have h1 : (List.range G.length).Perm (cm ++ (List.range G.length).filter (fun p => !(decide (p ∈ cm)))) := by
    refine List.perm_iff_count.2 (fun a => ?_)
    rw [List.nodup_range.count, hN.count]
    have : a ∈ List.range G.length ↔ a ∈ cm ++ (List.range G.length).filter (fun p => !(decide (p ∈ cm))) := by
      simp only [List.mem_append, List.mem_filter, List.mem_range, Bool.not_eq_true', decide_eq_false_iff_not]
      constructor
      · intro h
        by_cases hc : a ∈ cm
        · exact .inl hc
        · exact .inr ⟨h, hc⟩
      · rintro (h | h)
        · exact hl a h
        · exact h.1
    simp only [this]
  have := h1.map (hitP G v)
  rw [List.map_append] at this
  exact this
theorem beam_was {G : List Pn} {s p : Int} {v : List Int} (h : beamB G s v p p = true) : MaySearch G s v ∧ ∃ m : Nat, p = (m : Int) ∧ 1 ≤ m ∧ m ≤ 256 := by
  rw [beamB_eq, Bool.and_eq_true, Bool.and_eq_true] at h
  have h2 : 1 ≤ p ∧ p ≤ 256 := of_decide_eq_true h.1.2
  exact ⟨mayS_yes h.1.1, p.toNat, by omega, by omega, by omega⟩
theorem bey_facts {G : List Pn} {s : Int} {v : List Int} {m : Nat} (hM : MaySearch G s v) (h1 : 1 ≤ m) (h2 : m ≤ 256) : ∃ (AS BS CS : HL) (od : List Nat), (beamH G s v (m : Int) (m : Int) = AS ∧ beamO G s v (m : Int) (m : Int) = natS od ∧ exactH G s v (m : Int) = BS ∧ beamB G s v (m : Int) (m : Int) = true ∧ exactB G s v (m : Int) = true) ∧ (AS.length ≤ BS.length ∧ BS.length ≤ 256 ∧ od.length ≤ G.length) ∧ (∀ (i : Nat) (x y : Int × Int), AS[i]? = some x → BS[i]? = some y → ltH x y = false) ∧ (∀ p ∈ od, p < G.length ∧ ∀ t ∈ (nAt G p).2.2, 0 ≤ t ∧ t < (G.length : Int) ∧ hitP G v t.toNat ∈ CS) ∧ (∀ x ∈ CS, ∃ lx, AS[AS.length - 1]? = some lx ∧ 0 < AS.length ∧ (x ∈ AS ∨ (x ∉ AS ∧ AS.length = m ∧ ltH x lx = false))) ∧ (∀ x ∈ AS, ∃ p, p < G.length ∧ x = hitP G v p) := by
  obtain ⟨hB1, hB2, hB3⟩ := beam_yes (k := m) (m := m) hM h1 (Nat.le_refl _) h2
  obtain ⟨he1, he2⟩ := exact_all (k := m) (mayS_of hM) h1 h2
  have he := finP_end hM (m := m) (by omega)
  obtain ⟨t, et⟩ : ∃ t, finP G v m s.toNat = t := ⟨_, rfl⟩
  rw [et] at he hB2 hB3
  have hlt := he.inv.ok.lt
  obtain ⟨d, hd⟩ := cm_split (v := v) he.inv.ok.cmn hlt
  have hup := up_srt (hlP G v t.cm)
  have hid := ids_srt (ids_hlP (v := v) hM.nd he.inv.ok.cmn hlt)
  have hA : beamH G s v (m : Int) (m : Int) = (srt (hlP G v t.cm)).take m := by rw [hB2, he.inv.kept, List.take_take, Nat.min_self]
  have hcl : (hlP G v t.cm).length ≤ G.length := by
    have := congrArg List.length hd
    rw [allH_len, srt_len, List.length_append] at this
    omega
  have hol : t.od.length ≤ G.length := by
    have := nodup_lt_len he.inv.ok.odn (fun p hp => hlt p (he.inv.ok.ods p hp))
    exact this
  refine ⟨_, _, srt (hlP G v t.cm), t.od, ⟨hA, hB3, he1, hB1, he2⟩, ⟨?_, ?_, hol⟩, ?_, ?_, ?_, ?_⟩
  · rw [List.length_take, List.length_take, srt_len, srt_len, hlP_len, hlP_len, List.length_range]
    rw [hlP_len] at hcl
    omega
  · rw [List.length_take]; omega
  · intro i x y hx hy
    rw [List.getElem?_take] at hx hy
    split at hx
    · rename_i hi
      rw [if_pos hi] at hy
      have hd2 : srt (hlP G v (List.range G.length)) = srt (hlP G v t.cm ++ d) := hd
      rw [hd2] at hy
      exact srt_more _ _ hy hx
    · cases hx
  · intro p hp
    have hpl := hlt p (he.inv.ok.ods p hp)
    refine ⟨hpl, fun u hu => ?_⟩
    have hr := hM.ho.out hpl hu
    refine ⟨by omega, by omega, (srt_perm _).symm.subset (hlP_mem.2 ⟨u.toNat, he.inv.clo p hp _ (List.mem_map.2 ⟨u, hu, rfl⟩), rfl⟩)⟩
  · intro x hx
    have hpos : 0 < (srt (hlP G v t.cm)).length := List.length_pos_of_mem hx
    have hl0 : 0 < ((srt (hlP G v t.cm)).take m).length := by rw [List.length_take]; omega
    obtain ⟨lx, hlx⟩ : ∃ lx, ((srt (hlP G v t.cm)).take m)[((srt (hlP G v t.cm)).take m).length - 1]? = some lx := ⟨_, List.getElem?_eq_getElem (by omega)⟩
    have htl := take_last hup hid hlx hx
    refine ⟨lx, hlx, hl0, ?_⟩
    by_cases hm : x ∈ (srt (hlP G v t.cm)).take m
    · exact .inl hm
    · refine .inr ⟨hm, (htl.2 hm).2, ?_⟩
      cases h : ltH x lx with
      | false => rfl
      | true => have := swoH.trans _ _ _ h (htl.2 hm).1; rw [swoH.irrefl] at this; cases this
  · intro x hx
    obtain ⟨p, hp, rfl⟩ := hlP_mem.1 ((srt_perm _).subset (List.mem_of_mem_take hx))
    exact ⟨p, hlt p hp, rfl⟩
end Go.Proofs.Ytkmngbkghgelfaa
/- Mathematics of SearchWide: a search as wide as there are nodes comes to all that are reached; what is left when the others go. -/
namespace Go.Proofs.Ytkmngbkghgelfaa
open Go.Shelf Go.RowKit Go.Lib
open Go.Sort hiding Below
set_option linter.unusedVariables false
set_option linter.unusedSimpArgs false
/-- The nodes that are reached, and the others. -/
noncomputable def rchW (G : List Pn) (s : Nat) : List Nat := (List.range G.length).filter fun i => decide (0 ≤ hopI G s i)
noncomputable def goneK (G : List Pn) (s k : Nat) : List Nat := (List.range k).filter fun i => !decide (0 ≤ hopI G s i)
noncomputable def goneW (G : List Pn) (s : Nat) : List Int := natS (goneK G s G.length)
theorem goneK_len (G : List Pn) (s k : Nat) : (goneK G s k).length ≤ k := by
  unfold goneK
  have := List.length_filter_le (fun i => !decide (0 ≤ hopI G s i)) (List.range k)
  simpa using this
theorem goneK_yes {G : List Pn} {s k : Nat} (h : 0 ≤ hopI G s k) : goneK G s (k + 1) = goneK G s k := by
  unfold goneK; rw [List.range_succ, List.filter_append]; simp [h]
theorem goneK_no {G : List Pn} {s k : Nat} (h : ¬ 0 ≤ hopI G s k) : goneK G s (k + 1) = goneK G s k ++ [k] := by
  unfold goneK; rw [List.range_succ, List.filter_append]; simp [h]
/-- How many of the first k are reached. -/
noncomputable def rchN9 (G : List Pn) (s k : Nat) : Nat := ((List.range k).filter fun i => decide (0 ≤ hopI G s i)).length
theorem rch9_yes {G : List Pn} {s k : Nat} (h : 0 ≤ hopI G s k) : rchN9 G s (k + 1) = rchN9 G s k + 1 := by
  unfold rchN9; rw [List.range_succ, List.filter_append]; simp [h]
theorem rch9_no {G : List Pn} {s k : Nat} (h : ¬ 0 ≤ hopI G s k) : rchN9 G s (k + 1) = rchN9 G s k := by
  unfold rchN9; rw [List.range_succ, List.filter_append]; simp [h]
theorem rch9_pre (G : List Pn) (s k j : Nat) : ∃ T, (List.range (k + j)).filter (fun i => decide (0 ≤ hopI G s i)) = (List.range k).filter (fun i => decide (0 ≤ hopI G s i)) ++ T ∧ ∀ x ∈ T, k ≤ x := by
  refine ⟨((List.range j).map (k + ·)).filter (fun i => decide (0 ≤ hopI G s i)), by rw [List.range_add, List.filter_append], fun x hx => ?_⟩
  obtain ⟨y, _, rfl⟩ := List.mem_map.1 (List.mem_filter.1 hx).1
  omega
theorem rchW_len (G : List Pn) (s : Nat) : (rchW G s).length = rchN9 G s G.length := rfl
/-- The next that is reached. -/
theorem rchW_at {G : List Pn} {s k : Nat} (hk : k < G.length) (h : 0 ≤ hopI G s k) : (rchW G s)[rchN9 G s k]? = some k := by
  obtain ⟨T, hT, _⟩ := rch9_pre G s (k + 1) (G.length - (k + 1))
  rw [show k + 1 + (G.length - (k + 1)) = G.length by omega] at hT
  unfold rchW
  rw [hT, List.getElem?_append_left (by show rchN9 G s k < rchN9 G s (k + 1); rw [rch9_yes h]; omega)]
  rw [List.range_succ, List.filter_append]
  have e1 : (List.filter (fun i => decide (0 ≤ hopI G s i)) (List.range k)).length = rchN9 G s k := rfl
  rw [List.getElem?_append_right (by rw [e1]; exact Nat.le_refl _), e1, Nat.sub_self]
  simp [h]
theorem rchW_other {G : List Pn} {s k x : Nat} (hk : k < G.length) (h : ¬ 0 ≤ hopI G s k) (hx : (rchW G s)[rchN9 G s k]? = some x) : x ≠ k := by
  intro e
  subst e
  have := (List.mem_filter.1 (List.mem_of_getElem? hx)).2
  exact h (of_decide_eq_true this)
theorem rchW_lt {G : List Pn} {s : Nat} {x : Nat} (h : x ∈ rchW G s) : x < G.length := List.mem_range.1 (List.mem_filter.1 h).1
theorem rchW_nd (G : List Pn) (s : Nat) : (rchW G s).Nodup := List.nodup_range.filter _
theorem reached_W (G : List Pn) (s : Int) : reachedL G s = natS (rchW G s.toNat) := rfl
theorem hlP_all (G : List Pn) (v : List Int) : hlP G v (List.range G.length) = G.map fun x => (x.1, far x.2.1 v) := by
  refine List.ext_getElem? fun i => ?_
  unfold hlP
  rw [List.getElem?_map, List.getElem?_map]
  by_cases h : i < G.length
  · rw [List.getElem?_range h, List.getElem?_eq_getElem h]
    simp only [Option.map_some]
    unfold hitP nAt
    rw [List.getElem?_eq_getElem h]; rfl
  · rw [List.getElem?_eq_none (by simp; omega), List.getElem?_eq_none (by omega)]; rfl
theorem goneW_at {G : List Pn} {s i : Nat} (h : i < G.length) : goneAt (goneW G s) i = !decide (0 ≤ hopI G s i) := by
  unfold goneAt goneW natS goneK
  rw [Bool.eq_iff_iff, decide_eq_true_eq]
  constructor
  · intro hm
    obtain ⟨j, hj, e⟩ := List.mem_map.1 hm
    obtain rfl : j = i := by omega
    exact (List.mem_filter.1 hj).2
  · intro hd
    exact List.mem_map.2 ⟨i, List.mem_filter.2 ⟨List.mem_range.2 h, hd⟩, rfl⟩
theorem left_W (G : List Pn) (s : Nat) : dropN G (goneW G s) G.length = (rchW G s).map fun i => dropNode (goneW G s) (nAt G i) := by
  unfold dropN rchW
  congr 1
  refine List.filter_congr fun i hi => ?_
  rw [goneW_at (List.mem_range.1 hi)]; simp
theorem left_hl (G : List Pn) (s : Nat) (v : List Int) : hlP (dropN G (goneW G s) G.length) v (List.range (dropN G (goneW G s) G.length).length) = hlP G v (rchW G s) := by
  rw [hlP_all, left_W, List.map_map]; rfl
theorem goneW_ok (G : List Pn) (s : Nat) : OkTo G.length (goneW G s) := by
  refine ⟨fun p hp => ?_, ?_⟩
  · obtain ⟨i, hi, rfl⟩ := List.mem_map.1 hp
    have := List.mem_range.1 (List.mem_filter.1 hi).1
    omega
  · have : (goneK G s G.length).Nodup := List.nodup_range.filter _
    unfold goneW natS
    rw [List.nodup_iff_pairwise_ne] at *
    rw [List.pairwise_map]
    exact this.imp fun hne e => hne (by omega)
theorem toN_monoW (P : List Int) {i : Nat} : ∀ {j : Nat}, i ≤ j → toN P i ≤ toN P j
  | 0, h => by rw [show i = 0 by omega]; exact Nat.le_refl _
  | j + 1, h => by
    by_cases e : i = j + 1
    · rw [e]; exact Nat.le_refl _
    · have := toN_monoW P (i := i) (j := j) (by omega)
      cases g : goneAt P j with
      | true => rw [toN_yes g]; exact this
      | false => rw [toN_no g]; omega
theorem toN_ltW {P : List Int} {p q : Nat} (hg : goneAt P p = false) (h : p < q) : toN P p < toN P q := by
  have := toN_monoW P (i := p + 1) (j := q) h
  rw [toN_no hg] at this; omega
theorem keepO_memW {P o : List Int} {t : Int} (h : t ∈ keepO P o) : ∃ p ∈ o, goneAt P p.toNat = false ∧ t = ((toN P p.toNat : Nat) : Int) := by
  unfold keepO at h
  obtain ⟨p, hp, rfl⟩ := List.mem_map.1 h
  have := List.mem_filter.1 hp
  exact ⟨p, this.1, by simpa using this.2, rfl⟩
theorem dropN_nodeW {G : List Pn} {P : List Int} {k : Nat} {x : Pn} (h : x ∈ dropN G P k) : ∃ i, i < k ∧ goneAt P i = false ∧ x = dropNode P (nAt G i) := by
  obtain ⟨i, hi, rfl⟩ := List.mem_map.1 h
  have := List.mem_filter.1 hi
  exact ⟨i, List.mem_range.1 this.1, by simpa using this.2, rfl⟩
theorem drop_szW (G : List Pn) (P : List Int) : ∀ k, k ≤ G.length → ((dropN G P k).map szN).sum ≤ ((G.take k).map szN).sum
  | 0, _ => Nat.zero_le _
  | k + 1, hk => by
    have ih := drop_szW G P k (by omega)
    have e : G.take (k + 1) = G.take k ++ [nAt G k] := by
      rw [List.take_add_one, List.getElem?_eq_getElem (by omega), nAt_get (List.getElem?_eq_getElem (by omega : k < G.length))]; rfl
    rw [e, List.map_append, List.sum_append]
    cases hg : goneAt P k with
    | true => rw [dropN_yes hg]; omega
    | false =>
      rw [dropN_no hg, List.map_append, List.sum_append]
      have : szN (dropNode P (nAt G k)) ≤ szN (nAt G k) := by
        unfold szN dropNode
        have := keepO_len P (nAt G k).2.2
        show (nAt G k).2.1.length + (keepO P (nAt G k).2.2).length ≤ _
        omega
      simp only [List.map_cons, List.map_nil, List.sum_cons, List.sum_nil]
      omega
theorem dropN_smallW {G : List Pn} (P : List Int) (h : GSmall G) (hl : G.length ≤ 600) : GSmall (dropN G P G.length) := by
  have h1 := drop_szW G P G.length (Nat.le_refl _)
  rw [List.take_length] at h1
  have h2 : (dropN G P G.length).length ≤ G.length := by rw [dropN_len]; exact toN_le _ _
  have h3 := h.1
  unfold szG at h3
  exact ⟨by unfold szG; omega, .inl (by omega)⟩
theorem dropN_okW {G : List Pn} (P : List Int) (h : ∀ x ∈ G, PnOk x) : ∀ x ∈ dropN G P G.length, PnOk x := fun x hx => by
  obtain ⟨i, hi, _, rfl⟩ := dropN_nodeW hx
  obtain ⟨h1, h2, h3⟩ := h _ (nAt_mem hi)
  refine ⟨h1, h2, fun t ht => ?_⟩
  obtain ⟨p, hp, _, rfl⟩ := keepO_memW ht
  have := h3 p hp
  have := toN_le P p.toNat
  omega
/-- What is left may be searched, too. -/
theorem drop_mayW {G : List Pn} {s : Int} {v : List Int} (hM : MaySearch G s v) {P : List Int} (hP : OkTo G.length P) : dropB G s P = true ∧ MaySearch (dropA G s P) (dropS G s P) v := by
  have hB : dropB G s P = true := by unfold dropB; rw [show holdsB G s = true from decide_eq_true hM.ho, decide_eq_true hP]; rfl
  have hA : dropA G s P = dropN G P G.length := by unfold dropA; rw [if_pos hB]
  have hS : dropS G s P = if 0 < G.length ∧ goneAt P s.toNat = false then ((toN P s.toNat : Nat) : Int) else 0 := by
    unfold dropS
    rw [hB]
    by_cases h0 : 0 < G.length
    · cases hg : goneAt P s.toNat <;> simp [h0]
    · simp [h0]
  refine ⟨hB, ?_⟩
  rw [hA, hS]
  have hl := dropN_len G P G.length
  have hle := toN_le P G.length
  refine ⟨⟨by have := hM.ho.1; omega, by split <;> omega, ?_, fun x hx t ht => ?_⟩, hM.dim, fun x hx => ?_, ?_⟩
  · split
    · rename_i q
      have h1 := hM.ho.2.1
      have h2 := hM.ho.2.2.1
      left
      rw [hl]
      have := toN_ltW q.2 (q := G.length) (by omega)
      omega
    · right; omega
  · obtain ⟨i, hi, _, rfl⟩ := dropN_nodeW hx
    obtain ⟨p, hp, hg, rfl⟩ := keepO_memW ht
    have hr := hM.ho.2.2.2 _ (nAt_mem hi) p hp
    rw [hl]
    have := toN_ltW hg (q := G.length) (by omega)
    omega
  · obtain ⟨i, hi, _, rfl⟩ := dropN_nodeW hx
    exact hM.same (nAt G i) (nAt_mem hi)
  · unfold dropN
    rw [List.map_map, List.nodup_iff_pairwise_ne, List.pairwise_map]
    have hn : ((List.range G.length).filter fun i => !goneAt P i).Nodup := List.nodup_range.filter _
    rw [List.nodup_iff_pairwise_ne] at hn
    exact hn.imp_of_mem fun {a b} ha hb h e => h (ids_inj hM.nd (List.mem_range.1 (List.mem_filter.1 ha).1) (List.mem_range.1 (List.mem_filter.1 hb).1) e)
/-- A search that is as wide as there are nodes looks at all that are reached. -/
theorem wide_od {G : List Pn} {s : Int} {v : List Int} {m : Nat} (hM : MaySearch G s v) (hm : 0 < m) (hl : G.length ≤ m) {t : Sr} (he : EndS G s v m t) : (∀ p, p ∈ t.od ↔ p ∈ rchW G s.toNat) ∧ (∀ p, p ∈ t.cm ↔ p ∈ t.od) ∧ hlP G v t.ps = srt (hlP G v t.cm) := by
  have ok := he.inv.ok
  have hcl : t.cm.length ≤ G.length := nodup_lt_len ok.cmn ok.lt
  have hk : hlP G v t.ps = srt (hlP G v t.cm) := by rw [he.inv.kept, List.take_of_length_le (by rw [srt_len, hlP_len]; omega)]
  have hco : ∀ p, p ∈ t.cm → p ∈ t.od := fun p hp => by
    have h1 : hitP G v p ∈ hlP G v t.ps := by rw [hk]; exact (srt_perm _).symm.subset (hlP_mem.2 ⟨p, hp, rfl⟩)
    obtain ⟨q, hq, e⟩ := hlP_mem.1 h1
    have e0 : (nAt G q).1 = (nAt G p).1 := congrArg (fun (x : Int × Int) => x.1) e
    have e2 := ids_inj hM.nd (ok.lt q (ok.sub q hq)) (ok.lt p hp) e0
    subst e2
    exact he.fin q hq
  have hiff : ∀ p, p ∈ t.cm ↔ p ∈ t.od := fun p => ⟨hco p, ok.ods p⟩
  have hway : ∀ k p, Way G s.toNat k p → 0 < G.length → p ∈ t.cm := by
    intro k p hw hp
    induction hw with
    | here => exact (he.some hp).1
    | step hw ht ih => exact he.inv.clo _ (hco _ ih) _ (List.mem_map.2 ⟨_, ht, by simp⟩)
  refine ⟨fun p => ⟨fun h => ?_, fun h => ?_⟩, hiff, hk⟩
  · have hc := ok.ods p h
    exact List.mem_filter.2 ⟨List.mem_range.2 (ok.lt p hc), decide_eq_true (he.inv.rea p hc)⟩
  · have h1 := List.mem_filter.1 h
    exact hco p (hway _ p (hop_way (of_decide_eq_true h1.2)) (by have := List.mem_range.1 h1.1; omega))
theorem wide_facts {G : List Pn} {s : Int} {v : List Int} {n : Nat} (hM : MaySearch G s v) (hs : GSmall G) (hok : ∀ x ∈ G, PnOk x) (hl : G.length ≤ 150) (h1 : 1 ≤ n) (h2 : n ≤ 256) : ∃ (AS : HL) (od : List Nat) (H : List Pn) (S : Int),
    (beamH G s v (n : Int) 256 = AS ∧ beamO G s v (n : Int) 256 = natS od ∧ beamB G s v (n : Int) 256 = true) ∧ (AS.length ≤ 256 ∧ od.length = (rchW G s.toNat).length) ∧
    (dropB G s (goneW G s.toNat) = true ∧ dropA G s (goneW G s.toNat) = H ∧ dropS G s (goneW G s.toNat) = S) ∧ (exactH H S v (n : Int) = AS ∧ exactB H S v (n : Int) = true) ∧ GSmall H ∧ ∀ x ∈ H, PnOk x := by
  obtain ⟨hB1, hB2, hB3⟩ := beam_yes (k := n) (m := 256) hM h1 h2 (Nat.le_refl _)
  have he := finP_end hM (m := 256) (by omega)
  obtain ⟨t, et⟩ : ∃ t, finP G v 256 s.toNat = t := ⟨_, rfl⟩
  rw [et] at he hB2 hB3
  obtain ⟨w1, w2, w3⟩ := wide_od hM (by omega) (by omega) he
  obtain ⟨d1, d2⟩ := drop_mayW hM (goneW_ok G s.toNat)
  have hA : dropA G s (goneW G s.toNat) = dropN G (goneW G s.toNat) G.length := by unfold dropA; rw [if_pos d1]
  have hp : t.cm.Perm (rchW G s.toNat) := (List.perm_ext_iff_of_nodup he.inv.ok.cmn (rchW_nd _ _)).2 fun a => (w2 a).trans (w1 a)
  have hpo : t.od.Perm (rchW G s.toNat) := (List.perm_ext_iff_of_nodup he.inv.ok.odn (rchW_nd _ _)).2 w1
  obtain ⟨e1, e2⟩ := exact_all (k := n) (mayS_of d2) h1 h2
  refine ⟨_, t.od, _, _, ⟨hB2, hB3, hB1⟩, ⟨?_, hpo.length_eq⟩, ⟨d1, rfl, rfl⟩, ⟨?_, e2⟩, ?_, ?_⟩
  · rw [List.length_take]; omega
  · rw [e1, hA, left_hl, w3]; unfold hlP; rw [srt_of_perm (hp.map (hitP G v))]
  · rw [hA]; exact dropN_smallW _ hs (by omega)
  · rw [hA]; exact dropN_okW _ hok
theorem wide_was {G : List Pn} {s a : Int} {v : List Int} (h : beamB G s v a 256 = true) : MaySearch G s v := by
  rw [beamB_eq, Bool.and_eq_true, Bool.and_eq_true] at h
  exact mayS_yes h.1.1
end Go.Proofs.Ytkmngbkghgelfaa
