/- More mathematics of what a search finds: the first, who is looked for by its own vector; place by place. -/
import Derived.Test.YtkdepoaajhggiaaFp
import Derived.Test.YtkdepoaajhggiaaFq
namespace Go.Proofs.Ytkdepoaajhggiaa
open Go.Shelf Go.RowKit Go.Lib
open Go.Sort hiding Below
set_option linter.unusedVariables false
theorem far_selfS (v : List Int) : far v v = 0 := by
  unfold far
  induction v with
  | nil => rfl
  | cons x v ih =>
    unfold farL at *
    simp only [List.zip_cons_cons, List.map_cons, List.sum_cons]
    rw [ih, Int.sub_self]; rfl
theorem rem_intS (a b : Nat) : (a : Int).tmod (b : Int) = ((a % b : Nat) : Int) := by rw [Int.ofNat_tmod]
theorem hit_pos {G : List Pn} {s : Int} {v : List Int} (hM : MaySearch G s v) (hok : ∀ x ∈ G, PnOk x) (bv : ∀ n ∈ v, -128 ≤ n ∧ n ≤ 127) {p : Nat} (hp : p < G.length) : 0 ≤ (hitP G v p).2 := by
  have hm := nAt_mem hp
  exact (far_bdS (by rw [hM.same _ hm]; exact hM.dim.2) (hok _ hm).2.1 bv).1
/-- None stands ahead of the first. -/
theorem srt_first {xs : HL} {x : Int × Int} (hx : x ∈ xs) : ∃ y, (srt xs)[0]? = some y ∧ ltH x y = false := by
  have h1 : x ∈ srt xs := (srt_perm xs).symm.subset hx
  have h2 := up_srt xs
  cases hs : srt xs with
  | nil => rw [hs] at h1; cases h1
  | cons y ys =>
    refine ⟨y, rfl, ?_⟩
    rw [hs] at h1 h2
    rcases List.mem_cons.1 h1 with rfl | h3
    · exact swoH.irrefl _
    · have := (List.pairwise_cons.1 h2).1 x h3
      simpa using this
theorem first_zero {xs : HL} {x : Int × Int} (hx : x ∈ xs) (h0 : x.2 = 0) (hp : ∀ y ∈ xs, 0 ≤ y.2) : ∃ y, (srt xs)[0]? = some y ∧ y.2 = 0 := by
  obtain ⟨y, h1, h2⟩ := srt_first hx
  refine ⟨y, h1, ?_⟩
  have h3 := hp y ((srt_perm xs).subset (List.mem_of_getElem? h1))
  unfold ltH at h2
  simp at h2
  omega
/-- One more makes none farther. -/
theorem insL_le (x : Int × Int) : ∀ (S : HL), Up S → ∀ (i : Nat) (y z : Int × Int), (insL S x)[i]? = some y → S[i]? = some z → ltH z y = false
  | [], _, i, y, z, _, h2 => by simp at h2
  | a :: S, hu, i, y, z, h1, h2 => by
    unfold Up at hu
    rw [List.pairwise_cons] at hu
    unfold insL at h1
    split at h1
    · rename_i hx
      cases i with
      | zero =>
        simp at h1 h2
        subst h1 h2
        exact by cases h : ltH a x with
          | false => rfl
          | true => have := swoH.trans _ _ _ hx h; rw [swoH.irrefl] at this; cases this
      | succ i =>
        simp at h1 h2
        have hz : z ∈ S := List.mem_of_getElem? h2
        cases i with
        | zero =>
          simp at h1
          subst h1
          simpa using hu.1 z hz
        | succ i =>
          simp at h1
          obtain ⟨hi, e1⟩ := List.getElem?_eq_some_iff.1 h1
          obtain ⟨hj, e2⟩ := List.getElem?_eq_some_iff.1 h2
          have hu2 := hu.2
          rw [List.pairwise_iff_getElem] at hu2
          have := hu2 i (i + 1) hi hj (Nat.lt_succ_self i)
          rw [e1, e2] at this
          simpa using this
    · cases i with
      | zero =>
        simp at h1 h2
        subst h1 h2
        exact swoH.irrefl _
      | succ i =>
        simp at h1 h2
        exact insL_le x S hu.2 i y z h1 h2
theorem fold_le : ∀ (l S : HL), Up S → ∀ (i : Nat) (y z : Int × Int), (l.foldl insL S)[i]? = some y → S[i]? = some z → ltH z y = false
  | [], S, _, i, y, z, h1, h2 => by
    rw [List.foldl_nil] at h1
    rw [h1] at h2
    injection h2 with h2
    subst h2
    exact swoH.irrefl _
  | x :: l, S, hu, i, y, z, h1, h2 => by
    have hl : i < (insL S x).length := by rw [insL_len]; have := (List.getElem?_eq_some_iff.1 h2).1; omega
    have h3 := fold_le l (insL S x) (insL_up x S hu) i y _ h1 (List.getElem?_eq_getElem hl)
    have h4 := insL_le x S hu i _ z (List.getElem?_eq_getElem hl) h2
    exact swoH.ntrans _ _ _ h4 h3
theorem srt_foldS : ∀ (l S : HL), Up S → srt (S ++ l) = l.foldl insL S
  | [], S, h => by simpa using srt_self h
  | x :: l, S, h => by
    have := srt_foldS l (insL S x) (insL_up x S h)
    rw [List.foldl_cons, ← this]
    refine srt_of_perm ?_
    have h2 := (insL_perm x S).symm.append_right l
    refine List.Perm.trans ?_ h2
    simp
/-- Of fewer hits none is nearer, place by place. -/
theorem srt_more (c d : HL) {i : Nat} {y z : Int × Int} (h1 : (srt (c ++ d))[i]? = some y) (h2 : (srt c)[i]? = some z) : ltH z y = false := by
  have e : srt (c ++ d) = d.foldl insL (srt c) := by
    rw [← srt_foldS d (srt c) (up_srt c)]
    exact srt_of_perm ((srt_perm c).symm.append_right d)
  rw [e] at h1
  exact fold_le d (srt c) (up_srt c) i y z h1 h2
theorem may_start {G : List Pn} {s t : Int} {v : List Int} (h : MaySearch G s v) (h0 : 0 ≤ t) (h1 : t < (G.length : Int)) : MaySearch G t v := ⟨⟨h.ho.1, h0, .inl h1, h.ho.2.2.2⟩, h.dim, h.same, h.nd⟩
theorem beam_yes {G : List Pn} {s : Int} {v : List Int} {k m : Nat} (hM : MaySearch G s v) (h1 : 1 ≤ k) (h2 : k ≤ m) (h3 : m ≤ 256) : beamB G s v (k : Int) (m : Int) = true ∧ beamH G s v (k : Int) (m : Int) = (hlP G v (finP G v m s.toNat).ps).take k ∧ beamO G s v (k : Int) (m : Int) = natS (finP G v m s.toNat).od := by
  have hB : beamB G s v (k : Int) (m : Int) = true := by
    rw [beamB_eq, mayS_of hM, show widB (m : Int) = true from decide_eq_true ⟨by omega, by omega⟩, decide_eq_true (show 1 ≤ (k : Int) ∧ (k : Int) ≤ (m : Int) by omega)]; rfl
  exact ⟨hB, by unfold beamH; rw [hB]; rfl, by unfold beamO; rw [hB]; rfl⟩
theorem beam_no {G : List Pn} {s : Int} {v : List Int} {k m : Int} (hB : beamB G s v k m = false) : beamH G s v k m = [] ∧ beamO G s v k m = [] := ⟨by unfold beamH; rw [hB]; rfl, by unfold beamO; rw [hB]; rfl⟩
end Go.Proofs.Ytkdepoaajhggiaa
