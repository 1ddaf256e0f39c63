/- Pruning: a graph without its edges, a smaller Degree, a smaller Num (mathematics). -/
import Derived.Test.YtjdidlbmgnfcdaaIc
namespace Go.Proofs.Ytjdidlbmgnfcdaa
open Go.RowKit
set_option linter.unusedVariables false
set_option linter.unusedSimpArgs false
/-- A node without its edges. -/
def bare (x : Gn) : Gn := (x.1, x.2.1, vNil)
def bareP (x : Pn) : Pn := (x.1, x.2.1, [])
theorem pns_bare (L : List Gn) : pns (L.map bare) = (pns L).map bareP := by
  unfold pns
  rw [List.map_map, List.map_map]; rfl
theorem nAt_bare (G : List Pn) (i : Nat) : nAt (G.map bareP) i = bareP (nAt G i) := by
  unfold nAt
  rw [List.getElem?_map]
  cases G[i]? <;> rfl
theorem fI_bare (G : List Pn) (i j : Nat) : fI (G.map bareP) i j = fI G i j := by
  unfold fI
  rw [nAt_bare, nAt_bare]; rfl
theorem kQ_bare (G : List Pn) (a p : Nat) : kQ (G.map bareP) a p = kQ G a p := by
  unfold kQ
  rw [List.length_map, nAt_bare, fI_bare]; rfl
theorem ltP_bare (G : List Pn) (a : Nat) : ltP (G.map bareP) a = ltP G a := by
  funext i j
  unfold ltP
  rw [kQ_bare, kQ_bare]
theorem ndP_bare (G : List Pn) (n m : Int) (a : Nat) : ndP (G.map bareP) n m a = ndP G n m a := by
  funext i j
  unfold ndP
  rw [fI_bare, fI_bare]
theorem keepL_bare (G : List Pn) (n m deg : Int) (a : Nat) (P : List Int) : keepL (G.map bareP) n m deg a P = keepL G n m deg a P := by
  unfold keepL
  rw [ltP_bare, ndP_bare]
/-- A smaller Degree keeps the beginning. -/
theorem keepL_few (G : List Pn) (n m : Int) {deg few : Int} (h : few ≤ deg) (hf : 0 ≤ few) (a : Nat) (P : List Int) : keepL G n m few a P = (keepL G n m deg a P).take few.toNat := by
  unfold keepL
  exact grd_less (by omega) _ _ (Nat.zero_le _)
theorem findI_bare (G : List Pn) (id : Int) : findI (G.map bareP) id = findI G id := by
  unfold findI
  rw [List.findIdx?_map]; rfl
/-- A graph that may be may be without its edges, and for another Degree and Num. -/
theorem checkB_bare {G : List Pn} {s d deg b n m few : Int} (h : checkB G s d deg b n m = true) (hf : 1 ≤ few ∧ few ≤ 32) : checkB (G.map bareP) s d few b n m = true := by
  unfold checkB at *
  simp only [Bool.and_eq_true] at *
  have hs := of_decide_eq_true h.1
  have hh := holdsB_yes h.2.1
  have hn := of_decide_eq_true h.2.2
  refine ⟨decide_eq_true (by omega), decide_eq_true ?_, decide_eq_true fun i hi => ?_⟩
  · obtain ⟨h1, h2, h3, h4⟩ := hh
    refine ⟨by rw [List.length_map]; exact h1, h2, by rw [List.length_map]; exact h3, fun x hx t ht => ?_⟩
    obtain ⟨y, _, rfl⟩ := List.mem_map.1 hx
    exact absurd ht (by simp [bareP])
  · rw [List.length_map] at hi
    obtain ⟨h1, h2, h3, h4, h5⟩ := hn i hi
    refine ⟨by rw [nAt_bare]; exact h1, by rw [nAt_bare]; exact h2, by rw [nAt_bare]; show ((0 : Nat) : Int) ≤ few; omega, by rw [nAt_bare]; rfl, by rw [nAt_bare, findI_bare]; exact h5⟩
theorem checkB_low {G : List Pn} {s d deg b n m low : Int} (h : checkB G s d deg b n m = true) (hl : m ≤ low ∧ low ≤ n) : checkB G s d deg b low m = true := by
  unfold checkB at *
  simp only [Bool.and_eq_true] at *
  have hs := of_decide_eq_true h.1
  exact ⟨decide_eq_true (by omega), h.2⟩
theorem keepB_bare {G : List Pn} {s d deg b n m few at_ : Int} {P : List Int} (h : keepB G s d deg b n m at_ P = true) (hf : 1 ≤ few ∧ few ≤ 32) : keepB (G.map bareP) s d few b n m at_ P = true := by
  unfold keepB askB at *
  simp only [Bool.and_eq_true] at *
  obtain ⟨h1, ⟨h2, h3⟩, h4⟩ := h
  rw [List.length_map]
  exact ⟨h1, ⟨checkB_bare h2 hf, h3⟩, h4⟩
theorem Asked.low {G : List Pn} {s d deg b n m at_ low : Int} {P : List Int} (h : Asked G s d deg b n m at_ P) (hl : m ≤ low ∧ low ≤ n) : Asked G s d deg b low m at_ P :=
  ⟨h.pg, h.at0, h.all, by have := h.den; have := h.num; omega, by have := h.den; omega, h.dg, checkB_low h.chk hl⟩
theorem ndP_low {G : List Pn} {dm : Nat} (hP : PG G dm) {n m low : Int} (hl : low ≤ n) {a k q : Nat} (hk : k < G.length) (hq : q < G.length) (h : ndP G n m a k q = true) : ndP G low m a k q = true := by
  unfold ndP ndB at *
  have h1 := of_decide_eq_true h
  have h2 := (fI_bd hP hk hq).1
  have h3 : low * fI G k q ≤ n * fI G k q := Int.mul_le_mul_of_nonneg_right hl h2
  exact decide_eq_true (by omega)
theorem bare_ok {L : List Gn} (h : ∀ x ∈ pns L, PnOk x) : ∀ x ∈ pns (L.map bare), PnOk x := fun x hx => by
  rw [pns_bare] at hx
  obtain ⟨y, hy, rfl⟩ := List.mem_map.1 hx
  exact ⟨(h y hy).1, (h y hy).2.1, fun n hn => absurd hn (by simp [bareP])⟩
theorem bare_sum : ∀ G : List Pn, ((G.map bareP).map szN).sum ≤ (G.map szN).sum
  | [] => Nat.le_refl _
  | x :: G => by
    have := bare_sum G
    simp only [List.map_cons, List.sum_cons]
    have h : szN (bareP x) ≤ szN x := by unfold szN bareP; simp
    omega
theorem bare_small {L : List Gn} (h : GSmall (pns L)) : GSmall (pns (L.map bare)) := by
  rw [pns_bare]
  obtain ⟨h1, h2⟩ := h
  refine ⟨?_, by rw [List.length_map]; exact h2⟩
  have := bare_sum (pns L)
  unfold szG at *
  rw [List.length_map]; omega
theorem bare_arg {w : World} {base c n : Nat} {L : List Gn} {A : Option Addr} (h : w.ownsRow base 37 3 (.slice A n c) n (flatG (L.map bare))) (hv : ∀ x ∈ L, Rd .i8 w w.heap.size x.2.1.1 x.2.1.2.2) (hs : GSmall (pns L)) (ok : ∀ x ∈ pns L, PnOk x) : GArg w A (L.map bare) := by
  refine ⟨?_, bare_small hs, bare_ok ok⟩
  have hn : n = (L.map bare).length := by have := h.1; rw [flatG_len] at this; omega
  by_cases hl : 0 < n
  · obtain ⟨b, rfl, -⟩ := own_some h hl
    refine rowG_rd h fun x hx => ?_
    obtain ⟨y, hy, rfl⟩ := List.mem_map.1 hx
    exact ⟨hv y hy, fun h => absurd h (by simp [bare, vNil])⟩
  · exact fun h => absurd h (by omega)
theorem given_vec {w : World} {A : Option Addr} {L : List Gn} (h : GGiven w A L) : ∀ x ∈ L, Rd .i8 w w.heap.size x.2.1.1 x.2.1.2.2 := fun x hx => by
  obtain ⟨i, hi, rfl⟩ := List.getElem_of_mem hx
  obtain ⟨b, off, _, _, hall⟩ := h.rd (by omega)
  have := (hall i hi).2.2.2.1
  rw [List.getElem?_eq_getElem hi] at this
  exact this
theorem take_bare {L : List Gn} {k : Nat} {x : Gn} (h : L[k]? = some x) : (L.take (k + 1)).map bare = (L.take k).map bare ++ [bare x] := by
  rw [List.take_add_one, h, List.map_append]; rfl
theorem flat_bare (T : List Gn) (x : Gn) : flatG (T ++ [bare x]) = flatG T ++ [.int .u64 x.1, .slice x.2.1.1 x.2.1.2.2.length x.2.1.2.1, .slice none 0 0] := by
  rw [flatG_snoc]; rfl
end Go.Proofs.Ytjdidlbmgnfcdaa
