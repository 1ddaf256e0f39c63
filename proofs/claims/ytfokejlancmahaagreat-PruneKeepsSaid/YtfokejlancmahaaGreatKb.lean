/- Mathematics of graphs: what holds together, ways from the start, how many steps. -/
import Derived.Test.YtfokejlancmahaaGreatKa
namespace Go.Proofs.YtfokejlancmahaaGreat
set_option linter.unusedVariables false
def pNode : Pn := (0, [], [])
def nAt (G : List Pn) (i : Nat) : Pn := G[i]?.getD pNode
def outAt (G : List Pn) (i : Nat) : List Int := (nAt G i).2.2
theorem nAt_get {G : List Pn} {i : Nat} {x : Pn} (h : G[i]? = some x) : nAt G i = x := by unfold nAt; rw [h]; rfl
theorem nAt_mem {G : List Pn} {i : Nat} (h : i < G.length) : nAt G i ∈ G := by unfold nAt; rw [List.getElem?_eq_getElem h]; exact List.getElem_mem h
/-- A graph holds together. -/
def Holds (G : List Pn) (s : Int) : Prop := G.length ≤ 2048 ∧ 0 ≤ s ∧ (s < G.length ∨ s ≤ 0) ∧ ∀ x ∈ G, ∀ t ∈ x.2.2, 0 ≤ t ∧ t < (G.length : Int)
instance (G : List Pn) (s : Int) : Decidable (Holds G s) := by unfold Holds; infer_instance
def holdsB (G : List Pn) (s : Int) : Bool := decide (Holds G s)
theorem holdsB_yes {G : List Pn} {s : Int} (h : holdsB G s = true) : Holds G s := of_decide_eq_true h
theorem Holds.out {G : List Pn} {s : Int} (h : Holds G s) {i : Nat} (hi : i < G.length) {t : Int} (ht : t ∈ outAt G i) : 0 ≤ t ∧ t < (G.length : Int) := h.2.2.2 _ (nAt_mem hi) t ht
theorem Holds.start {G : List Pn} {s : Int} (h : Holds G s) (hn : 0 < G.length) : 0 ≤ s ∧ s < (G.length : Int) := by have h1 := h.2.1; have h2 := h.2.2.1; omega
/-- A way of so many steps from node s. -/
inductive Way (G : List Pn) (s : Nat) : Nat → Nat → Prop
  | here : Way G s 0 s
  | step {k i j : Nat} : Way G s k i → (j : Int) ∈ outAt G i → Way G s (k + 1) j
/-- The least number of steps, -1 where there is no way. -/
def IsHop (G : List Pn) (s i : Nat) (d : Int) : Prop := (d = -1 ∧ ∀ k, ¬ Way G s k i) ∨ ∃ k : Nat, d = k ∧ Way G s k i ∧ ∀ j, j < k → ¬ Way G s j i
theorem hop_ex (G : List Pn) (s i : Nat) : ∃ d, IsHop G s i d := by
  have key : ∀ n : Nat, (∃ k, k ≤ n ∧ Way G s k i) → ∃ d, IsHop G s i d := by
    intro n
    induction n with
    | zero => rintro ⟨k, hk, hw⟩; obtain rfl : k = 0 := by omega
              exact ⟨0, .inr ⟨0, rfl, hw, fun j hj => by omega⟩⟩
    | succ n ih =>
      rintro ⟨k, hk, hw⟩
      by_cases h : ∃ j, j < k ∧ Way G s j i
      · obtain ⟨j, hj, hwj⟩ := h
        exact ih ⟨j, by omega, hwj⟩
      · exact ⟨k, .inr ⟨k, rfl, hw, fun j hj hwj => h ⟨j, hj, hwj⟩⟩⟩
  by_cases h : ∃ k, Way G s k i
  · obtain ⟨k, hw⟩ := h
    exact key k ⟨k, Nat.le_refl _, hw⟩
  · exact ⟨-1, .inl ⟨rfl, fun k hw => h ⟨k, hw⟩⟩⟩
theorem IsHop.uniq {G : List Pn} {s i : Nat} {d e : Int} (h : IsHop G s i d) (g : IsHop G s i e) : d = e := by
  rcases h with ⟨rfl, h⟩ | ⟨k, rfl, h1, h2⟩
  · rcases g with ⟨rfl, g⟩ | ⟨k, rfl, g1, g2⟩
    · rfl
    · exact absurd g1 (h k)
  · rcases g with ⟨rfl, g⟩ | ⟨m, rfl, g1, g2⟩
    · exact absurd h1 (g k)
    · have h3 : ¬ m < k := fun hm => h2 m hm g1
      have h4 : ¬ k < m := fun hm => g2 k hm h1
      omega
noncomputable def hopI (G : List Pn) (s i : Nat) : Int := Classical.choose (hop_ex G s i)
theorem hopI_is (G : List Pn) (s i : Nat) : IsHop G s i (hopI G s i) := Classical.choose_spec (hop_ex G s i)
theorem hopI_of {G : List Pn} {s i : Nat} {d : Int} (h : IsHop G s i d) : hopI G s i = d := (hopI_is G s i).uniq h
/-- How many steps each node is from the start. -/
noncomputable def hopsL (G : List Pn) (s : Int) : List Int := (List.range G.length).map (hopI G s.toNat)
theorem hopsL_len (G : List Pn) (s : Int) : (hopsL G s).length = G.length := by simp [hopsL]
theorem hopsL_at {G : List Pn} {s : Int} {i : Nat} (h : i < G.length) : (hopsL G s)[i]? = some (hopI G s.toNat i) := by simp [hopsL, h]
theorem hop_ge (G : List Pn) (s i : Nat) : -1 ≤ hopI G s i := by
  rcases hopI_is G s i with ⟨h, _⟩ | ⟨k, h, _⟩ <;> omega
noncomputable def hopsA (G : List Pn) (s : Int) : List Int := if holdsB G s then hopsL G s else []
/-- The nodes that are reached, rising. -/
noncomputable def reachedL (G : List Pn) (s : Int) : List Int := ((List.range G.length).filter fun i => decide (0 ≤ hopI G s.toNat i)).map fun (i : Nat) => (i : Int)
noncomputable def reachedA (G : List Pn) (s : Int) : List Int := if holdsB G s then reachedL G s else []
theorem way_hop {G : List Pn} {s k i : Nat} (h : Way G s k i) : 0 ≤ hopI G s i ∧ hopI G s i ≤ k := by
  rcases hopI_is G s i with ⟨h1, h2⟩ | ⟨m, h1, h2, h3⟩
  · exact absurd h (h2 k)
  · have : ¬ k < m := fun hk => h3 k hk h
    omega
theorem hop_way {G : List Pn} {s i : Nat} (h : 0 ≤ hopI G s i) : Way G s (hopI G s i).toNat i := by
  rcases hopI_is G s i with ⟨h1, h2⟩ | ⟨m, h1, h2, h3⟩
  · omega
  · rw [h1]; simpa using h2
theorem way_lt {G : List Pn} {s k i : Nat} (hs : s < G.length) (hh : ∀ i, i < G.length → ∀ t ∈ outAt G i, 0 ≤ t ∧ t < (G.length : Int)) (h : Way G s k i) : i < G.length := by
  induction h with
  | here => exact hs
  | step hw ht ih => have := hh _ ih _ ht; omega
/-- The H of node i. -/
def hAt (H : List Int) (i : Nat) : Int := H[i]?.getD (-1)
theorem hAt_set {H : List Int} {i j : Nat} {d : Int} (hi : i < H.length) : hAt (H.set i d) j = if j = i then d else hAt H j := by
  unfold hAt
  rw [List.getElem?_set]
  by_cases h : i = j
  · subst h; simp [hi]
  · rw [if_neg h, if_neg (fun e => h e.symm)]
/-- The places at which a queue stands. -/
def qAt (Q : List Nat) (a : Nat) : Nat := Q[a]?.getD 0
theorem qAt_mem {Q : List Nat} {a : Nat} (h : a < Q.length) : qAt Q a ∈ Q := by unfold qAt; rw [List.getElem?_eq_getElem h]; exact List.getElem_mem h
theorem qAt_app {Q : List Nat} {a x : Nat} (h : a < Q.length) : qAt (Q ++ [x]) a = qAt Q a := by unfold qAt; rw [List.getElem?_append_left h]
/-- Going through a graph: at the a-th node of the queue, of whose neighbours k are done. -/
structure Bfs (G : List Pn) (s : Nat) (H : List Int) (Q : List Nat) (a k : Nat) : Prop where
  hl : H.length = G.length
  qs : s ∈ Q
  qn : Q.Nodup
  ql : ∀ i ∈ Q, i < G.length
  no : ∀ i, i < G.length → i ∉ Q → hAt H i = -1
  snd : ∀ i ∈ Q, ∃ d : Nat, hAt H i = d ∧ Way G s d i
  mono : Q.Pairwise fun x y => hAt H x ≤ hAt H y
  last : a < Q.length → ∀ i ∈ Q, hAt H i ≤ hAt H (qAt Q a) + 1
  done : ∀ b, b < a → ∀ t ∈ outAt G (qAt Q b), t.toNat ∈ Q ∧ hAt H t.toNat ≤ hAt H (qAt Q b) + 1
  part : a < Q.length → ∀ t ∈ (outAt G (qAt Q a)).take k, t.toNat ∈ Q ∧ hAt H t.toNat ≤ hAt H (qAt Q a) + 1
  al : a ≤ Q.length
  hs : hAt H s = 0
  bd : ∀ i ∈ Q, hAt H i < (Q.length : Int)
theorem Bfs.begin_ {G : List Pn} {s : Nat} (hs : s < G.length) : Bfs G s ((List.replicate G.length (-1)).set s 0) [s] 0 0 := by
  have e : ∀ j, hAt ((List.replicate G.length (-1)).set s 0) j = if j = s then 0 else hAt (List.replicate G.length (-1)) j := fun j => hAt_set (by simpa using hs)
  have e0 : ∀ j, hAt (List.replicate G.length (-1 : Int)) j = -1 := fun j => by
    unfold hAt
    rw [List.getElem?_replicate]
    split <;> rfl
  refine ⟨by simp, by simp, by simp, fun i hi => ?_, fun i _ hn => ?_, fun i hi => ?_, by simp, fun _ i hi => ?_, fun b hb => by omega, fun _ t ht => by simp at ht, by simp, by rw [e, if_pos rfl], fun i hi => ?_⟩
  · rw [List.mem_singleton] at hi; omega
  · rw [e, if_neg (by simpa using hn), e0]
  · rw [List.mem_singleton] at hi
    subst hi
    exact ⟨0, by rw [e, if_pos rfl]; rfl, .here⟩
  · rw [List.mem_singleton] at hi
    subst hi
    show _ ≤ hAt _ i + 1
    omega
  · rw [List.mem_singleton] at hi
    subst hi
    rw [e, if_pos rfl]; simp
/-- A neighbour that was come to already. -/
theorem Bfs.old {G : List Pn} {s : Nat} {H : List Int} {Q : List Nat} {a k : Nat} {t : Int} (h : Bfs G s H Q a k) (ha : a < Q.length) (hk : (outAt G (qAt Q a))[k]? = some t) (ht : 0 ≤ t ∧ t < (G.length : Int)) (hd : 0 ≤ hAt H t.toNat) : Bfs G s H Q a (k + 1) := by
  have hq : t.toNat ∈ Q := by
    by_cases hq : t.toNat ∈ Q
    · exact hq
    · have := h.no t.toNat (by omega) hq; omega
  refine ⟨h.hl, h.qs, h.qn, h.ql, h.no, h.snd, h.mono, h.last, h.done, fun ha2 u hu => ?_, h.al, h.hs, h.bd⟩
  rw [List.take_add_one, hk] at hu
  rcases List.mem_append.1 hu with h1 | h1
  · exact h.part ha2 u h1
  · obtain rfl : u = t := by simpa using h1
    exact ⟨hq, h.last ha2 _ hq⟩
/-- A neighbour that is come to first. -/
theorem Bfs.new {G : List Pn} {s : Nat} {H : List Int} {Q : List Nat} {a k : Nat} {t : Int} (h : Bfs G s H Q a k) (ha : a < Q.length) (hk : (outAt G (qAt Q a))[k]? = some t) (ht : 0 ≤ t ∧ t < (G.length : Int)) (hd : hAt H t.toNat < 0) :
    Bfs G s (H.set t.toNat (hAt H (qAt Q a) + 1)) (Q ++ [t.toNat]) a (k + 1) := by
  obtain ⟨j, rfl⟩ := Int.eq_ofNat_of_zero_le ht.1
  simp only [Int.toNat_natCast] at *
  have hj : j < G.length := by omega
  have hnq : j ∉ Q := fun hq => by obtain ⟨d, h1, _⟩ := h.snd j hq; omega
  have hjl : j < H.length := by rw [h.hl]; exact hj
  have e : ∀ i, hAt (H.set j (hAt H (qAt Q a) + 1)) i = if i = j then hAt H (qAt Q a) + 1 else hAt H i := fun i => hAt_set hjl
  have eq : ∀ i ∈ Q, hAt (H.set j (hAt H (qAt Q a) + 1)) i = hAt H i := fun i hi => by rw [e, if_neg (fun (e2 : i = j) => hnq (e2 ▸ hi))]
  have ea : qAt (Q ++ [j]) a = qAt Q a := qAt_app ha
  have hqa := qAt_mem ha
  obtain ⟨dc, hdc, hwc⟩ := h.snd _ hqa
  refine ⟨by rw [List.length_set]; exact h.hl, List.mem_append_left _ h.qs, ?_, fun i hi => ?_, fun i hi hn => ?_, fun i hi => ?_, ?_, fun _ i hi => ?_, fun b hb u hu => ?_, fun _ u hu => ?_, by rw [List.length_append]; have := h.al; omega, ?_, fun i hi => ?_⟩
  · rw [List.nodup_append]
    exact ⟨h.qn, by simp, fun x hx y hy => by rw [List.mem_singleton] at hy; subst hy; exact fun e2 => hnq (e2 ▸ hx)⟩
  · rcases List.mem_append.1 hi with h1 | h1
    · exact h.ql i h1
    · rw [List.mem_singleton] at h1; omega
  · rw [e, if_neg (fun e2 => hn (by rw [e2]; simp))]
    exact h.no i hi (fun hq => hn (List.mem_append_left _ hq))
  · rcases List.mem_append.1 hi with h1 | h1
    · rw [eq i h1]; exact h.snd i h1
    · rw [List.mem_singleton] at h1
      subst h1
      exact ⟨dc + 1, by rw [e, if_pos rfl, hdc]; rfl, .step hwc (List.mem_of_getElem? hk)⟩
  · rw [List.pairwise_append]
    refine ⟨?_, by simp, fun x hx y hy => ?_⟩
    · refine h.mono.imp_of_mem (fun {x y} hx hy hxy => ?_)
      rw [eq x hx, eq y hy]; exact hxy
    · rw [List.mem_singleton] at hy
      subst hy
      rw [eq x hx, e, if_pos rfl]
      exact h.last ha x hx
  · rw [ea, eq _ hqa]
    rcases List.mem_append.1 hi with h1 | h1
    · rw [eq i h1]; exact h.last ha i h1
    · rw [List.mem_singleton] at h1
      subst h1
      rw [e, if_pos rfl]; exact Int.le_refl _
  · have hb2 : b < Q.length := by have := h.al; omega
    rw [qAt_app hb2] at hu ⊢
    obtain ⟨h1, h2⟩ := h.done b hb u hu
    exact ⟨List.mem_append_left _ h1, by rw [eq _ h1, eq _ (qAt_mem hb2)]; exact h2⟩
  · rw [ea] at hu ⊢
    rw [List.take_add_one, hk] at hu
    rw [eq _ hqa]
    rcases List.mem_append.1 hu with h1 | h1
    · obtain ⟨h2, h3⟩ := h.part ha u h1
      exact ⟨List.mem_append_left _ h2, by rw [eq _ h2]; exact h3⟩
    · obtain rfl : u = (j : Int) := by simpa using h1
      simp only [Int.toNat_natCast]
      exact ⟨by simp, by rw [e, if_pos rfl]; exact Int.le_refl _⟩
  · rw [eq _ h.qs]; exact h.hs
  · rw [List.length_append, List.length_singleton]
    rcases List.mem_append.1 hi with h1 | h1
    · rw [eq i h1]; have := h.bd i h1; omega
    · rw [List.mem_singleton] at h1
      subst h1
      rw [e, if_pos rfl]
      have := h.bd _ hqa
      omega
/-- All neighbours of a node are done. -/
theorem Bfs.next {G : List Pn} {s : Nat} {H : List Int} {Q : List Nat} {a k : Nat} (h : Bfs G s H Q a k) (ha : a < Q.length) (hk : (outAt G (qAt Q a)).length ≤ k) : Bfs G s H Q (a + 1) 0 := by
  have hp := h.part ha
  rw [List.take_of_length_le hk] at hp
  refine ⟨h.hl, h.qs, h.qn, h.ql, h.no, h.snd, h.mono, fun ha2 i hi => ?_, fun b hb => ?_, fun _ t ht => by simp at ht, ha, h.hs, h.bd⟩
  · have h1 := h.last ha i hi
    have h2 : hAt H (qAt Q a) ≤ hAt H (qAt Q (a + 1)) := by
      have := (List.pairwise_iff_getElem.1 h.mono) a (a + 1) ha ha2 (by omega)
      unfold qAt
      rw [List.getElem?_eq_getElem ha, List.getElem?_eq_getElem ha2]
      exact this
    omega
  · rcases Nat.lt_or_ge b a with h1 | h1
    · exact h.done b h1
    · obtain rfl : b = a := by omega
      exact hp
/-- What is come to in the end. -/
theorem Bfs.end_ {G : List Pn} {s : Nat} {H : List Int} {Q : List Nat} (h : Bfs G s H Q Q.length 0) {i : Nat} (hi : i < G.length) : hAt H i = hopI G s i := by
  have key : ∀ k j, Way G s k j → j ∈ Q ∧ hAt H j ≤ k := by
    intro k j hw
    induction hw with
    | here => exact ⟨h.qs, by rw [h.hs]; exact Int.le_refl _⟩
    | step hw ht ih =>
      obtain ⟨h1, h2⟩ := ih
      obtain ⟨b, hb, rfl⟩ := List.getElem_of_mem h1
      have e : qAt Q b = Q[b] := by unfold qAt; rw [List.getElem?_eq_getElem hb]; rfl
      have := h.done b hb _ (by rw [e]; exact ht)
      rw [e] at this
      simp only [Int.toNat_natCast] at this
      exact ⟨this.1, by have := this.2; omega⟩
  symm
  apply hopI_of
  by_cases hq : i ∈ Q
  · obtain ⟨d, h1, h2⟩ := h.snd i hq
    exact .inr ⟨d, h1, h2, fun j hj hw => by have := (key j i hw).2; omega⟩
  · exact .inl ⟨h.no i hi hq, fun k hw => hq (key k i hw).1⟩
theorem Bfs.hops {G : List Pn} {s : Int} {H : List Int} {Q : List Nat} (h : Bfs G s.toNat H Q Q.length 0) : H = hopsL G s := by
  apply List.ext_getElem?
  intro i
  by_cases hi : i < G.length
  · have := h.end_ hi
    rw [hopsL_at hi, ← this]
    unfold hAt
    rw [List.getElem?_eq_getElem (by rw [h.hl]; exact hi)]; rfl
  · rw [List.getElem?_eq_none (by rw [h.hl]; omega), List.getElem?_eq_none (by rw [hopsL_len]; omega)]
theorem nodup_lt : ∀ (n : Nat) (Q : List Nat), Q.Nodup → (∀ i ∈ Q, i < n) → Q.length ≤ n
  | 0, Q, _, h => by
    cases Q with
    | nil => simp
    | cons a l => have := h a List.mem_cons_self; omega
  | n + 1, Q, hn, h => by
    by_cases hq : n ∈ Q
    · have h1 := nodup_lt n (Q.erase n) (hn.erase n) (fun i hi => by
        have h2 := h i (List.mem_of_mem_erase hi)
        have h3 : i ≠ n := fun e => by subst e; exact hn.not_mem_erase hi
        omega)
      rw [List.length_erase_of_mem hq] at h1
      omega
    · have := nodup_lt n Q hn (fun i hi => by
        have h2 := h i hi
        have h3 : i ≠ n := fun e => hq (e ▸ hi)
        omega)
      omega
theorem Bfs.qlen {G : List Pn} {s : Nat} {H : List Int} {Q : List Nat} {a k : Nat} (h : Bfs G s H Q a k) : Q.length ≤ G.length := nodup_lt _ _ h.qn h.ql
end Go.Proofs.YtfokejlancmahaaGreat
