/- Mathematics of product quantisers: what follows (P8.5), codes back, books of vectors. -/
import Derived.Test.YthbimjkcpmffcaaPa
import Derived.Test.YthbimjkcpmffcaaNl
namespace Go.Proofs.Ythbimjkcpmffcaa
open Go.RowKit
set_option linter.unusedVariables false
/-- All numbers of a book's words are of an int8. -/
def B88 (ps : List (List (List Int))) : Prop := ∀ l ∈ ps, B8 l
theorem pAt_mem {ps : List (List (List Int))} {p : Nat} (h : p < ps.length) : pAt ps p ∈ ps := by unfold pAt; rw [List.getElem?_eq_getElem h]; exact List.getElem_mem h
theorem B88.at {ps : List (List (List Int))} (h : B88 ps) {p : Nat} (hp : p < ps.length) : B8 (pAt ps p) := h _ (pAt_mem hp)
theorem far_bd2 {ps : List (List (List Int))} {v : List Int} (h : BookOk ps v.length) (hb : B88 ps) (hv : ∀ x ∈ v, -128 ≤ x ∧ x ≤ 127) {p w : Nat} (hp : p < ps.length) (hw : w < (pAt ps p).length) :
    0 ≤ far (vAt (pAt ps p) w) (partAt v p ps.length) ∧ far (vAt (pAt ps p) w) (partAt v p ps.length) ≤ 4161600 :=
  far_bd (by rw [h.word hp hw]; exact (h.part hp).2) (hb.at hp _ (vAt_mem hw)) (part_b8 hv)
theorem sumR_bd (f : Nat → Int) (m : Int) : ∀ k, (∀ p, p < k → 0 ≤ f p ∧ f p ≤ m) → 0 ≤ sumR k f ∧ sumR k f ≤ m * k
  | 0, _ => by simp [sumR_zero]
  | k + 1, h => by
    have h1 := sumR_bd f m k (fun p hp => h p (by omega))
    have h2 := h k (by omega)
    rw [sumR_succ]
    have e : m * ((k + 1 : Nat) : Int) = m * (k : Int) + m := by push_cast; rw [Int.mul_add, Int.mul_one]
    rw [e]
    omega
theorem look_tab {ps : List (List (List Int))} {v : List Int} {code : List Int} (h : BookOk ps v.length) (hb : B88 ps) (hv : ∀ x ∈ v, -128 ≤ x ∧ x ≤ 127) (hc : codeOk ps code) : ∀ k, k ≤ ps.length → lookK (tabL ps v) code k = sumR k fun p => far (wordAt ps code p) (partAt v p ps.length)
  | 0, _ => rfl
  | k + 1, hk => by
    have h1 := look_tab h hb hv hc k (by omega)
    have h2 := sumR_bd (fun p => far (wordAt ps code p) (partAt v p ps.length)) 4161600 k (fun p hp => far_bd2 h hb hv (by omega) (hc.2 p (by omega)))
    have h3 := far_bd2 h hb hv (p := k) (by omega) (hc.2 k (by omega))
    have h4 := h.2.2.2.1
    have h5 := h.2.1
    unfold lookK
    rw [h1, tab_at (by omega) (hc.2 k (by omega)), sumR_succ]
    unfold wordAt at h2 ⊢
    generalize (sumR k fun p => far (vAt (pAt ps p) (cAt code p)) (partAt v p ps.length)) = S at h2 ⊢
    generalize far (vAt (pAt ps k) (cAt code k)) (partAt v k ps.length) = F at h3 ⊢
    unfold wrap64
    omega
/-- P8.5: Look of the Table of a vector, and a code, is how far the vector is from what the code says. -/
theorem look_far {ps : List (List (List Int))} {v : List Int} {code : List Int} (h : BookOk ps v.length) (hb : B88 ps) (hv : ∀ x ∈ v, -128 ≤ x ∧ x ≤ 127) (hc : codeOk ps code) : lookK (tabL ps v) code ps.length = far v (decL ps code) := by
  rw [look_tab h hb hv hc ps.length (Nat.le_refl _), ← far_dec h hc, far_comm]
/-- P8.5: no code is nearer to a vector than its own. -/
theorem look_own {ps : List (List (List Int))} {v : List Int} {code : List Int} (h : BookOk ps v.length) (hb : B88 ps) (hv : ∀ x ∈ v, -128 ≤ x ∧ x ≤ 127) (hc : codeOk ps code) : lookK (tabL ps v) (encL ps v) ps.length ≤ lookK (tabL ps v) code ps.length := by
  rw [look_tab h hb hv hc ps.length (Nat.le_refl _), look_tab h hb hv (enc_ok h) ps.length (Nat.le_refl _)]
  refine sumR_le _ _ _ (fun p hp => ?_)
  unfold wordAt
  rw [encL_at hp]
  exact near_le _ (hc.2 p hp)
/-- A vector's own word is the first that is so near. -/
theorem own_first {ps : List (List (List Int))} {v : List Int} (h : BookOk ps v.length) {p w : Nat} (hp : p < ps.length) (hw : w < (pAt ps p).length) :
    (tAt (tabL ps v) p)[cAt (encL ps v) p]?.getD 0 ≤ (tAt (tabL ps v) p)[w]?.getD 0 ∧ (w < cAt (encL ps v) p → (tAt (tabL ps v) p)[cAt (encL ps v) p]?.getD 0 < (tAt (tabL ps v) p)[w]?.getD 0) := by
  have hc := (enc_ok h).2 p hp
  rw [tab_at hp hw, tab_at hp hc, encL_at hp]
  exact ⟨near_le _ hw, fun hlt => (nearI_min _ _ _).2 w hlt⟩
/-- What a code says has a code that says the same, and no later words. -/
theorem enc_dec {ps : List (List (List Int))} {d : Nat} {code : List Int} (h : BookOk ps d) (hc : codeOk ps code) {p : Nat} (hp : p < ps.length) :
    wordAt ps (encL ps (decL ps code)) p = wordAt ps code p ∧ cAt (encL ps (decL ps code)) p ≤ cAt code p := by
  have hp2 : partAt (decL ps code) p ps.length = wordAt ps code p := flat_part _ ps.length d h.2.2.1 (fun q hq => word_len h hc hq) hp
  have hn : nearestI (pAt ps p) (wordAt ps code p) < (pAt ps p).length := nearestI_lt _ (h.2.2.2.2 p hp).1
  have h1 := near_le (wordAt ps code p) (hc.2 p hp)
  have h2 := far_nonneg (vAt (pAt ps p) (nearestI (pAt ps p) (wordAt ps code p))) (wordAt ps code p)
  have e : far (vAt (pAt ps p) (cAt code p)) (wordAt ps code p) = 0 := far_self _
  rw [e] at h1
  have h0 : far (vAt (pAt ps p) (nearestI (pAt ps p) (wordAt ps code p))) (wordAt ps code p) = 0 := by omega
  have e2 : cAt (encL ps (decL ps code)) p = nearestI (pAt ps p) (wordAt ps code p) := by rw [encL_at hp, hp2]
  refine ⟨?_, ?_⟩
  · unfold wordAt
    rw [e2]
    exact far_zero _ _ (by rw [h.word hp hn]; exact word_len h hc hp) h0
  · rw [e2]
    rcases Nat.lt_or_ge (cAt code p) (nearestI (pAt ps p) (wordAt ps code p)) with hlt | hge
    · have := (nearI_min (pAt ps p) (wordAt ps code p) (pAt ps p).length).2 _ hlt
      unfold nearestI at h0
      rw [h0, e] at this
      omega
    · exact hge
theorem dec_congr {ps : List (List (List Int))} {a b : List Int} (h : ∀ p, p < ps.length → wordAt ps a p = wordAt ps b p) : decL ps a = decL ps b := by
  unfold decL
  rw [List.map_congr_left (fun p hp => h p (List.mem_range.1 hp))]
theorem dec_enc_dec {ps : List (List (List Int))} {d : Nat} {code : List Int} (h : BookOk ps d) (hc : codeOk ps code) : decL ps (encL ps (decL ps code)) = decL ps code := dec_congr (fun p hp => (enc_dec h hc hp).1)
/-- Where each vector's parts are among the words, each vector is what its code says. -/
theorem dec_enc {ps : List (List (List Int))} {v : List Int} (h : BookOk ps v.length) (hz : ∀ p, p < ps.length → far (vAt (pAt ps p) (nearestI (pAt ps p) (partAt v p ps.length))) (partAt v p ps.length) = 0) : decL ps (encL ps v) = v := by
  have e : ∀ p, p < ps.length → wordAt ps (encL ps v) p = partAt v p ps.length := fun p hp => by
    have hn : nearestI (pAt ps p) (partAt v p ps.length) < (pAt ps p).length := nearestI_lt _ (h.2.2.2.2 p hp).1
    unfold wordAt
    rw [encL_at hp]
    exact far_zero _ _ (by rw [h.word hp hn, part_len h.2.2.1 hp]) (hz p hp)
  unfold decL
  rw [List.map_congr_left (fun p hp => e p (List.mem_range.1 hp))]
  exact parts_all v ps.length h.2.2.1
/-- The vectors' p-th parts. -/
def subL (vs : List (List Int)) (p n : Nat) : List (List Int) := vs.map fun v => partAt v p n
/-- The book of vectors. -/
def mayP (vs : List (List Int)) (n k r : Int) : Bool := decide (mayB vs = true ∧ 1 ≤ n ∧ n ≤ (dimOf vs : Int) ∧ 1 ≤ k ∧ k ≤ 64 ∧ k ≤ vs.length ∧ 0 ≤ r ∧ r ≤ 100)
def bookL (vs : List (List Int)) (n : Nat) (k r : Nat) (s : Nat) : List (List (List Int)) := (List.range n).map fun p => stepsL (subL vs p n) r (firstL (subL vs p n) ((s + p) % 18446744073709551616) k)
theorem bookL_len (vs : List (List Int)) (n k r s : Nat) : (bookL vs n k r s).length = n := by simp [bookL]
theorem bookL_at {vs : List (List Int)} {n k r s p : Nat} (h : p < n) : pAt (bookL vs n k r s) p = stepsL (subL vs p n) r (firstL (subL vs p n) ((s + p) % 18446744073709551616) k) := by simp [pAt, bookL, h]
theorem sub_may {vs : List (List Int)} {n p : Nat} (h : mayB vs = true) (h1 : 1 ≤ n) (h2 : n ≤ dimOf vs) (hp : p < n) : mayB (subL vs p n) = true ∧ dimOf (subL vs p n) = beg (p + 1) n (dimOf vs) - beg p n (dimOf vs) := by
  have hm := mayB_yes h
  have h3 := beg_step (p := p) h1 h2
  have h4 := beg_le (p := p + 1) (d := dimOf vs) h1 (by omega)
  refine mayB_of (by unfold subL; rw [List.length_map]; exact hm.1) (by unfold subL; rw [List.length_map]; exact hm.2.1) (by omega) (by omega) (fun v hv => ?_)
  unfold subL at hv
  obtain ⟨u, hu, rfl⟩ := List.mem_map.1 hv
  rw [part_len h1 hp, mayB_len h u hu]
theorem sub_len (vs : List (List Int)) (p n : Nat) : (subL vs p n).length = vs.length := by simp [subL]
theorem stepsL_len (vs ms : List (List Int)) : ∀ k, (stepsL vs k ms).length = ms.length
  | 0 => rfl
  | k + 1 => by show (stepL _ _).length = _; rw [stepL_len, stepsL_len vs ms k]
/-- The book of vectors may be for them. -/
theorem book_ok {vs : List (List Int)} {n k r s : Nat} (h : mayB vs = true) (h1 : 1 ≤ n) (h2 : n ≤ dimOf vs) (h3 : 1 ≤ k) (h4 : k ≤ 64) (h5 : k ≤ vs.length) : BookOk (bookL vs n k r s) (dimOf vs) := by
  have hm := mayB_yes h
  have hl : ∀ p, p < n → (pAt (bookL vs n k r s) p).length = k := fun p hp => by rw [bookL_at hp, stepsL_len, firstL_len (by rw [sub_len]; exact h5)]
  refine ⟨hm.2.2.1, hm.2.2.2.1, by rw [bookL_len]; exact h1, by rw [bookL_len]; exact h2, fun p hp => ?_⟩
  rw [bookL_len] at hp ⊢
  refine ⟨by rw [hl p hp]; exact h3, by rw [hl p hp]; exact h4, by rw [hl p hp, hl 0 (by omega)], fun w hw => ?_⟩
  have hs := sub_may h h1 h2 hp
  have hq := stepsL_may (firstL_may (s := (s + p) % 18446744073709551616) hs.1 h3 h4 (by rw [sub_len]; exact h5)) r
  rw [← bookL_at hp (s := s)] at hq
  have hq2 := mayM_yes hq
  have h6 := hq2.2.2.2 0 (by rw [sub_len]; exact hm.1)
  rw [mayB_len hs.1 _ (vAt_mem (by rw [sub_len]; exact hm.1)), hs.2] at h6
  rw [h6, mayB_len hq2.2.1 _ (vAt_mem hw)]
theorem cost_zero {ms : List (List Int)} : ∀ {vs : List (List Int)}, costL ms vs ≤ 0 → ∀ v ∈ vs, far (vAt ms (nearestI ms v)) v = 0
  | [], _, v, hv => by simp at hv
  | u :: r, h, v, hv => by
    have h1 := costL_nonneg ms r
    have h2 := far_nonneg (vAt ms (nearestI ms u)) u
    have e : costL ms (u :: r) = far (vAt ms (nearestI ms u)) u + costL ms r := by unfold costL; simp
    rw [e] at h
    rcases List.mem_cons.1 hv with rfl | hv
    · omega
    · exact cost_zero (by omega) v hv
/-- With a word for each vector each vector is what its code says. -/
theorem book_back {vs : List (List Int)} {n r s : Nat} (h : mayB vs = true) (h1 : 1 ≤ n) (h2 : n ≤ dimOf vs) (h4 : vs.length ≤ 64) {v : List Int} (hv : v ∈ vs) : decL (bookL vs n vs.length r s) (encL (bookL vs n vs.length r s) v) = v := by
  have hm := mayB_yes h
  have hd := mayB_len h v hv
  have hok := book_ok (k := vs.length) (r := r) (s := s) h h1 h2 hm.1 h4 (Nat.le_refl _)
  rw [← hd] at hok
  refine dec_enc hok (fun p hp => ?_)
  rw [bookL_len] at hp ⊢
  rw [bookL_at hp]
  have hs := sub_may h h1 h2 hp
  have e : firstL (subL vs p n) ((s + p) % 18446744073709551616) vs.length = subL vs p n := by
    have := firstL_all (subL vs p n) ((s + p) % 18446744073709551616)
    rw [sub_len] at this
    exact this
  rw [e]
  have hmm : mayM (subL vs p n) (subL vs p n) = true := by
    have hy := mayB_yes hs.1
    refine decide_eq_true ⟨by rw [sub_len]; exact h4, hs.1, by rw [sub_len]; omega, fun i hi => mayB_len hs.1 _ (vAt_mem hi)⟩
  have hc := steps_cost0 hmm r
  rw [costL_self] at hc
  exact cost_zero hc _ (List.mem_map.2 ⟨v, hv, rfl⟩)
end Go.Proofs.Ythbimjkcpmffcaa
