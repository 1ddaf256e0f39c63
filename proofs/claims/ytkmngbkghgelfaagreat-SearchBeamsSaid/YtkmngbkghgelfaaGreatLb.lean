/- Several texts in one. -/
import Derived.Test.YtkmngbkghgelfaaGreatVf
import Derived.Test.YtkmngbkghgelfaaGreatBs
import Derived.Test.YtkmngbkghgelfaaGreatOw
import Derived.Deep.RegionHeld3
/- Graphs as the walks speak of them: nodes with their vectors and neighbours. -/
namespace Go.Proofs.YtkmngbkghgelfaaGreat
open Go.RowKit
set_option linter.unusedVariables false
/-- A node as it lies in memory: its number, its vector, its neighbours. -/
abbrev Gn := Int × Vc × Vc
def gNil : Gn := (0, vNil, vNil)
/-- A slice value at A reads, in w, as the nodes L; what it has lies below block B. -/
def RdG (w : World) (B : Nat) (A : Option Addr) (L : List Gn) : Prop :=
  0 < L.length → ∃ b off, A = some ⟨b, off, none⟩ ∧ b < B ∧ ∀ i, i < L.length →
    w.cell? ⟨b, off + i * 3, none⟩ = some (.int .u64 (L[i]?.getD gNil).1) ∧
    w.cell? ⟨b, off + i * 3 + 1, none⟩ = some (.slice (L[i]?.getD gNil).2.1.1 (L[i]?.getD gNil).2.1.2.2.length (L[i]?.getD gNil).2.1.2.1) ∧
    w.cell? ⟨b, off + i * 3 + 2, none⟩ = some (.slice (L[i]?.getD gNil).2.2.1 (L[i]?.getD gNil).2.2.2.2.length (L[i]?.getD gNil).2.2.2.1) ∧
    Rd .i8 w B (L[i]?.getD gNil).2.1.1 (L[i]?.getD gNil).2.1.2.2 ∧ Rd .i64 w B (L[i]?.getD gNil).2.2.1 (L[i]?.getD gNil).2.2.2.2
theorem RdG.at_ {w : World} {B : Nat} {A : Option Addr} {L : List Gn} (h : RdG w B A L) {i : Nat} (hi : i < L.length) :
    ∃ b off id a1 c1 v a2 c2 o, A = some ⟨b, off, none⟩ ∧ b < B ∧ w.cell? ⟨b, off + i * 3, none⟩ = some (.int .u64 id) ∧ w.cell? ⟨b, off + i * 3 + 1, none⟩ = some (.slice a1 v.length c1) ∧ w.cell? ⟨b, off + i * 3 + 2, none⟩ = some (.slice a2 o.length c2) ∧
      Rd .i8 w B a1 v ∧ Rd .i64 w B a2 o ∧ Hid (L[i]? = some (id, (a1, c1, v), (a2, c2, o))) := by
  obtain ⟨b, off, hA, hB, hc⟩ := h (by omega)
  obtain ⟨h1, h2, h3, h4, h5⟩ := hc i hi
  exact ⟨b, off, (L[i]?.getD gNil).1, (L[i]?.getD gNil).2.1.1, (L[i]?.getD gNil).2.1.2.1, (L[i]?.getD gNil).2.1.2.2, (L[i]?.getD gNil).2.2.1, (L[i]?.getD gNil).2.2.2.1, (L[i]?.getD gNil).2.2.2.2, hA, hB, h1, h2, h3, h4, h5, (by simp [List.getElem?_eq_getElem hi] : L[i]? = some ((L[i]?.getD gNil).1, ((L[i]?.getD gNil).2.1.1, (L[i]?.getD gNil).2.1.2.1, (L[i]?.getD gNil).2.1.2.2), ((L[i]?.getD gNil).2.2.1, (L[i]?.getD gNil).2.2.2.1, (L[i]?.getD gNil).2.2.2.2)))⟩
theorem RdG.below {w w' : World} {B : Nat} {A : Option Addr} {L : List Gn} (h : RdG w B A L) (hb : Below B w w') : RdG w' B A L := fun hl => by
  obtain ⟨b, off, hA, hB, hc⟩ := h hl
  refine ⟨b, off, hA, hB, fun i hi => ?_⟩
  obtain ⟨h1, h2, h3, h4, h5⟩ := hc i hi
  exact ⟨(hb.cell (p := ⟨b, off + i * 3, none⟩) hB).trans h1, (hb.cell (p := ⟨b, off + i * 3 + 1, none⟩) hB).trans h2, (hb.cell (p := ⟨b, off + i * 3 + 2, none⟩) hB).trans h3, h4.below hb, h5.below hb⟩
theorem RdG.more {w : World} {B B' : Nat} {A : Option Addr} {L : List Gn} (h : RdG w B A L) (hB : B ≤ B') : RdG w B' A L := fun hl => by
  obtain ⟨b, off, hA, hb, hc⟩ := h hl
  refine ⟨b, off, hA, by omega, fun i hi => ?_⟩
  obtain ⟨h1, h2, h3, h4, h5⟩ := hc i hi
  exact ⟨h1, h2, h3, h4.more hB, h5.more hB⟩
/-- The node itself: its number, its vector, the places of its neighbours. -/
abbrev Pn := Int × List Int × List Int
def pn (x : Gn) : Pn := (x.1, x.2.1.2.2, x.2.2.2.2)
def pns (L : List Gn) : List Pn := L.map pn
theorem pns_len (L : List Gn) : (pns L).length = L.length := by simp [pns]
theorem pns_at {L : List Gn} {i : Nat} {id : Int} {a1 a2 : Option Addr} {c1 c2 : Nat} {v o : List Int} (h : L[i]? = some (id, (a1, c1, v), (a2, c2, o))) : (pns L)[i]? = some (id, v, o) := by simp [pns, pn, h]
theorem pns_snoc (L : List Gn) (x : Gn) : pns (L ++ [x]) = pns L ++ [pn x] := by simp [pns]
theorem pns_take {L : List Gn} {q : Nat} {id : Int} {a1 a2 : Option Addr} {c1 c2 : Nat} {v o : List Int} (h : L[q]? = some (id, (a1, c1, v), (a2, c2, o))) : (pns L).take (q + 1) = (pns L).take q ++ [(id, v, o)] := by
  rw [List.take_add_one, pns_at h]; rfl
theorem pns_mem {L : List Gn} {x : Gn} (h : x ∈ L) : pn x ∈ pns L := List.mem_map_of_mem h
/-- How much a graph has in it. -/
def szN (x : Pn) : Nat := x.2.1.length + x.2.2.length
def szG (G : List Pn) : Nat := G.length + (G.map szN).sum
theorem szG_take_le (G : List Pn) (k : Nat) : ((G.take k).map szN).sum ≤ (G.map szN).sum := by
  conv => rhs; rw [← List.take_append_drop k G, List.map_append, List.sum_append]
  exact Nat.le_add_right _ _
theorem sum_le_of_mem {α : Type} (f : α → Nat) : ∀ {l : List α} {x : α}, x ∈ l → f x ≤ (l.map f).sum
  | a :: l, x, h => by
    rw [List.map_cons, List.sum_cons]
    rcases List.mem_cons.1 h with rfl | h
    · omega
    · have := sum_le_of_mem f h; omega
/-- What is gone through: not too much, and few nodes or too many for a graph. -/
def GSmall (G : List Pn) : Prop := szG G ≤ 20000 ∧ (G.length ≤ 600 ∨ 2048 < G.length)
theorem GSmall.len {G : List Pn} (h : GSmall G) : G.length ≤ 20000 := by have := h.1; unfold szG at this; omega
theorem GSmall.at_ {G : List Pn} (h : GSmall G) {x : Pn} (hx : x ∈ G) : x.2.1.length ≤ 20000 ∧ x.2.2.length ≤ 20000 := by
  have h1 := h.1
  have h2 := sum_le_of_mem szN hx
  unfold szG at h1
  have h3 : szN x = x.2.1.length + x.2.2.length := rfl
  omega
/-- A node's numbers are such as a machine holds. -/
def PnOk (x : Pn) : Prop := (0 ≤ x.1 ∧ x.1 < 18446744073709551616) ∧ (∀ n ∈ x.2.1, -128 ≤ n ∧ n ≤ 127) ∧ ∀ n ∈ x.2.2, -9223372036854775808 ≤ n ∧ n ≤ 9223372036854775807
/-- A graph's nodes as they were handed in. -/
structure GGiven (w : World) (A : Option Addr) (L : List Gn) : Prop where
  rd : RdG w w.heap.size A L
  len : L.length ≤ 140737488355328
  each : ∀ x ∈ pns L, x.2.1.length ≤ 140737488355328 ∧ x.2.2.length ≤ 140737488355328
  ok : ∀ x ∈ pns L, PnOk x
  room : ∀ x ∈ L, (x.2.1.2.2.length ≤ x.2.1.2.1 ∧ x.2.1.2.1 ≤ 9223372036854775807) ∧ x.2.2.2.2.length ≤ x.2.2.2.1 ∧ x.2.2.2.1 ≤ 9223372036854775807
theorem GGiven.below {w w' : World} {A : Option Addr} {L : List Gn} (h : GGiven w A L) (hb : Below w.heap.size w w') : GGiven w' A L := ⟨(h.rd.below hb).more hb.size, h.len, h.each, h.ok, h.room⟩
/-- A graph's nodes as an argument. -/
structure GArg (w : World) (A : Option Addr) (L : List Gn) : Prop where
  rd : RdG w w.heap.size A L
  sm : GSmall (pns L)
  ok : ∀ x ∈ pns L, PnOk x
theorem GArg.below {w w' : World} {A : Option Addr} {L : List Gn} (h : GArg w A L) (hb : Below w.heap.size w w') : GArg w' A L := ⟨(h.rd.below hb).more hb.size, h.sm, h.ok⟩
theorem GGiven.arg {w : World} {A : Option Addr} {L : List Gn} (h : GGiven w A L) (s : GSmall (pns L)) : GArg w A L := ⟨h.rd, s, h.ok⟩
end Go.Proofs.YtkmngbkghgelfaaGreat
/- Mathematics of graphs: what holds together, ways from the start, how many steps. -/
namespace Go.Proofs.YtkmngbkghgelfaaGreat
set_option linter.unusedVariables false
def pNode : Pn := (0, [], [])
def nAt (G : List Pn) (i : Nat) : Pn := G[i]?.getD pNode
def outAt (G : List Pn) (i : Nat) : List Int := (nAt G i).2.2
theorem nAt_get {G : List Pn} {i : Nat} {x : Pn} (h : G[i]? = some x) : nAt G i = x := by unfold nAt; rw [h]; rfl
theorem nAt_mem {G : List Pn} {i : Nat} (h : i < G.length) : nAt G i ∈ G := by unfold nAt; rw [List.getElem?_eq_getElem h]; exact List.getElem_mem h
/-- A graph holds together. -/
def Holds (G : List Pn) (s : Int) : Prop := G.length ≤ 2048 ∧ 0 ≤ s ∧ (s < G.length ∨ s ≤ 0) ∧ ∀ x ∈ G, ∀ t ∈ x.2.2, 0 ≤ t ∧ t < (G.length : Int)
instance (G : List Pn) (s : Int) : Decidable (Holds G s) := by unfold Holds; infer_instance
def holdsB (G : List Pn) (s : Int) : Bool := decide (Holds G s)
theorem holdsB_yes {G : List Pn} {s : Int} (h : holdsB G s = true) : Holds G s := of_decide_eq_true h
theorem Holds.out {G : List Pn} {s : Int} (h : Holds G s) {i : Nat} (hi : i < G.length) {t : Int} (ht : t ∈ outAt G i) : 0 ≤ t ∧ t < (G.length : Int) := h.2.2.2 _ (nAt_mem hi) t ht
theorem Holds.start {G : List Pn} {s : Int} (h : Holds G s) (hn : 0 < G.length) : 0 ≤ s ∧ s < (G.length : Int) := by have h1 := h.2.1; have h2 := h.2.2.1; omega
/-- A way of so many steps from node s. -/
inductive Way (G : List Pn) (s : Nat) : Nat → Nat → Prop
  | here : Way G s 0 s
  | step {k i j : Nat} : Way G s k i → (j : Int) ∈ outAt G i → Way G s (k + 1) j
/-- The least number of steps, -1 where there is no way. -/
def IsHop (G : List Pn) (s i : Nat) (d : Int) : Prop := (d = -1 ∧ ∀ k, ¬ Way G s k i) ∨ ∃ k : Nat, d = k ∧ Way G s k i ∧ ∀ j, j < k → ¬ Way G s j i
theorem hop_ex (G : List Pn) (s i : Nat) : ∃ d, IsHop G s i d := by
  have key : ∀ n : Nat, (∃ k, k ≤ n ∧ Way G s k i) → ∃ d, IsHop G s i d := by
    intro n
    induction n with
    | zero => rintro ⟨k, hk, hw⟩; obtain rfl : k = 0 := by omega
              exact ⟨0, .inr ⟨0, rfl, hw, fun j hj => by omega⟩⟩
    | succ n ih =>
      rintro ⟨k, hk, hw⟩
      by_cases h : ∃ j, j < k ∧ Way G s j i
      · obtain ⟨j, hj, hwj⟩ := h
        exact ih ⟨j, by omega, hwj⟩
      · exact ⟨k, .inr ⟨k, rfl, hw, fun j hj hwj => h ⟨j, hj, hwj⟩⟩⟩
  by_cases h : ∃ k, Way G s k i
  · obtain ⟨k, hw⟩ := h
    exact key k ⟨k, Nat.le_refl _, hw⟩
  · exact ⟨-1, .inl ⟨rfl, fun k hw => h ⟨k, hw⟩⟩⟩
theorem IsHop.uniq {G : List Pn} {s i : Nat} {d e : Int} (h : IsHop G s i d) (g : IsHop G s i e) : d = e := by
  rcases h with ⟨rfl, h⟩ | ⟨k, rfl, h1, h2⟩
  · rcases g with ⟨rfl, g⟩ | ⟨k, rfl, g1, g2⟩
    · rfl
    · exact absurd g1 (h k)
  · rcases g with ⟨rfl, g⟩ | ⟨m, rfl, g1, g2⟩
    · exact absurd h1 (g k)
    · have h3 : ¬ m < k := fun hm => h2 m hm g1
      have h4 : ¬ k < m := fun hm => g2 k hm h1
      omega
noncomputable def hopI (G : List Pn) (s i : Nat) : Int := Classical.choose (hop_ex G s i)
theorem hopI_is (G : List Pn) (s i : Nat) : IsHop G s i (hopI G s i) := Classical.choose_spec (hop_ex G s i)
theorem hopI_of {G : List Pn} {s i : Nat} {d : Int} (h : IsHop G s i d) : hopI G s i = d := (hopI_is G s i).uniq h
/-- How many steps each node is from the start. -/
noncomputable def hopsL (G : List Pn) (s : Int) : List Int := (List.range G.length).map (hopI G s.toNat)
theorem hopsL_len (G : List Pn) (s : Int) : (hopsL G s).length = G.length := by simp [hopsL]
theorem hopsL_at {G : List Pn} {s : Int} {i : Nat} (h : i < G.length) : (hopsL G s)[i]? = some (hopI G s.toNat i) := by simp [hopsL, h]
theorem hop_ge (G : List Pn) (s i : Nat) : -1 ≤ hopI G s i := by
  rcases hopI_is G s i with ⟨h, _⟩ | ⟨k, h, _⟩ <;> omega
noncomputable def hopsA (G : List Pn) (s : Int) : List Int := if holdsB G s then hopsL G s else []
/-- The nodes that are reached, rising. -/
noncomputable def reachedL (G : List Pn) (s : Int) : List Int := ((List.range G.length).filter fun i => decide (0 ≤ hopI G s.toNat i)).map fun (i : Nat) => (i : Int)
noncomputable def reachedA (G : List Pn) (s : Int) : List Int := if holdsB G s then reachedL G s else []
theorem way_hop {G : List Pn} {s k i : Nat} (h : Way G s k i) : 0 ≤ hopI G s i ∧ hopI G s i ≤ k := by
  rcases hopI_is G s i with ⟨h1, h2⟩ | ⟨m, h1, h2, h3⟩
  · exact absurd h (h2 k)
  · have : ¬ k < m := fun hk => h3 k hk h
    omega
theorem hop_way {G : List Pn} {s i : Nat} (h : 0 ≤ hopI G s i) : Way G s (hopI G s i).toNat i := by
  rcases hopI_is G s i with ⟨h1, h2⟩ | ⟨m, h1, h2, h3⟩
  · omega
  · rw [h1]; simpa using h2
theorem way_lt {G : List Pn} {s k i : Nat} (hs : s < G.length) (hh : ∀ i, i < G.length → ∀ t ∈ outAt G i, 0 ≤ t ∧ t < (G.length : Int)) (h : Way G s k i) : i < G.length := by
  induction h with
  | here => exact hs
  | step hw ht ih => have := hh _ ih _ ht; omega
/-- The H of node i. -/
def hAt (H : List Int) (i : Nat) : Int := H[i]?.getD (-1)
theorem hAt_set {H : List Int} {i j : Nat} {d : Int} (hi : i < H.length) : hAt (H.set i d) j = if j = i then d else hAt H j := by
  unfold hAt
  rw [List.getElem?_set]
  by_cases h : i = j
  · subst h; simp [hi]
  · rw [if_neg h, if_neg (fun e => h e.symm)]
/-- The places at which a queue stands. -/
def qAt (Q : List Nat) (a : Nat) : Nat := Q[a]?.getD 0
theorem qAt_mem {Q : List Nat} {a : Nat} (h : a < Q.length) : qAt Q a ∈ Q := by unfold qAt; rw [List.getElem?_eq_getElem h]; exact List.getElem_mem h
theorem qAt_app {Q : List Nat} {a x : Nat} (h : a < Q.length) : qAt (Q ++ [x]) a = qAt Q a := by unfold qAt; rw [List.getElem?_append_left h]
/-- Going through a graph: at the a-th node of the queue, of whose neighbours k are done. -/
structure Bfs (G : List Pn) (s : Nat) (H : List Int) (Q : List Nat) (a k : Nat) : Prop where
  hl : H.length = G.length
  qs : s ∈ Q
  qn : Q.Nodup
  ql : ∀ i ∈ Q, i < G.length
  no : ∀ i, i < G.length → i ∉ Q → hAt H i = -1
  snd : ∀ i ∈ Q, ∃ d : Nat, hAt H i = d ∧ Way G s d i
  mono : Q.Pairwise fun x y => hAt H x ≤ hAt H y
  last : a < Q.length → ∀ i ∈ Q, hAt H i ≤ hAt H (qAt Q a) + 1
  done : ∀ b, b < a → ∀ t ∈ outAt G (qAt Q b), t.toNat ∈ Q ∧ hAt H t.toNat ≤ hAt H (qAt Q b) + 1
  part : a < Q.length → ∀ t ∈ (outAt G (qAt Q a)).take k, t.toNat ∈ Q ∧ hAt H t.toNat ≤ hAt H (qAt Q a) + 1
  al : a ≤ Q.length
  hs : hAt H s = 0
  bd : ∀ i ∈ Q, hAt H i < (Q.length : Int)
theorem Bfs.begin_ {G : List Pn} {s : Nat} (hs : s < G.length) : Bfs G s ((List.replicate G.length (-1)).set s 0) [s] 0 0 := by
  have e : ∀ j, hAt ((List.replicate G.length (-1)).set s 0) j = if j = s then 0 else hAt (List.replicate G.length (-1)) j := fun j => hAt_set (by simpa using hs)
  have e0 : ∀ j, hAt (List.replicate G.length (-1 : Int)) j = -1 := fun j => by
    unfold hAt
    rw [List.getElem?_replicate]
    split <;> rfl
  refine ⟨by simp, by simp, by simp, fun i hi => ?_, fun i _ hn => ?_, fun i hi => ?_, by simp, fun _ i hi => ?_, fun b hb => by omega, fun _ t ht => by simp at ht, by simp, by rw [e, if_pos rfl], fun i hi => ?_⟩
  · rw [List.mem_singleton] at hi; omega
  · rw [e, if_neg (by simpa using hn), e0]
  · rw [List.mem_singleton] at hi
    subst hi
    exact ⟨0, by rw [e, if_pos rfl]; rfl, .here⟩
  · rw [List.mem_singleton] at hi
    subst hi
    show _ ≤ hAt _ i + 1
    omega
  · rw [List.mem_singleton] at hi
    subst hi
    rw [e, if_pos rfl]; simp
/-- A neighbour that was come to already. -/
theorem Bfs.old {G : List Pn} {s : Nat} {H : List Int} {Q : List Nat} {a k : Nat} {t : Int} (h : Bfs G s H Q a k) (ha : a < Q.length) (hk : (outAt G (qAt Q a))[k]? = some t) (ht : 0 ≤ t ∧ t < (G.length : Int)) (hd : 0 ≤ hAt H t.toNat) : Bfs G s H Q a (k + 1) := by
  have hq : t.toNat ∈ Q := by
    by_cases hq : t.toNat ∈ Q
    · exact hq
    · have := h.no t.toNat (by omega) hq; omega
  refine ⟨h.hl, h.qs, h.qn, h.ql, h.no, h.snd, h.mono, h.last, h.done, fun ha2 u hu => ?_, h.al, h.hs, h.bd⟩
  rw [List.take_add_one, hk] at hu
  rcases List.mem_append.1 hu with h1 | h1
  · exact h.part ha2 u h1
  · obtain rfl : u = t := by simpa using h1
    exact ⟨hq, h.last ha2 _ hq⟩
/-- A neighbour that is come to first. -/
theorem Bfs.new {G : List Pn} {s : Nat} {H : List Int} {Q : List Nat} {a k : Nat} {t : Int} (h : Bfs G s H Q a k) (ha : a < Q.length) (hk : (outAt G (qAt Q a))[k]? = some t) (ht : 0 ≤ t ∧ t < (G.length : Int)) (hd : hAt H t.toNat < 0) :
    Bfs G s (H.set t.toNat (hAt H (qAt Q a) + 1)) (Q ++ [t.toNat]) a (k + 1) := by
  obtain ⟨j, rfl⟩ := Int.eq_ofNat_of_zero_le ht.1
  simp only [Int.toNat_natCast] at *
  have hj : j < G.length := by omega
  have hnq : j ∉ Q := fun hq => by obtain ⟨d, h1, _⟩ := h.snd j hq; omega
  have hjl : j < H.length := by rw [h.hl]; exact hj
  have e : ∀ i, hAt (H.set j (hAt H (qAt Q a) + 1)) i = if i = j then hAt H (qAt Q a) + 1 else hAt H i := fun i => hAt_set hjl
  have eq : ∀ i ∈ Q, hAt (H.set j (hAt H (qAt Q a) + 1)) i = hAt H i := fun i hi => by rw [e, if_neg (fun (e2 : i = j) => hnq (e2 ▸ hi))]
  have ea : qAt (Q ++ [j]) a = qAt Q a := qAt_app ha
  have hqa := qAt_mem ha
  obtain ⟨dc, hdc, hwc⟩ := h.snd _ hqa
  refine ⟨by rw [List.length_set]; exact h.hl, List.mem_append_left _ h.qs, ?_, fun i hi => ?_, fun i hi hn => ?_, fun i hi => ?_, ?_, fun _ i hi => ?_, fun b hb u hu => ?_, fun _ u hu => ?_, by rw [List.length_append]; have := h.al; omega, ?_, fun i hi => ?_⟩
  · rw [List.nodup_append]
    exact ⟨h.qn, by simp, fun x hx y hy => by rw [List.mem_singleton] at hy; subst hy; exact fun e2 => hnq (e2 ▸ hx)⟩
  · rcases List.mem_append.1 hi with h1 | h1
    · exact h.ql i h1
    · rw [List.mem_singleton] at h1; omega
  · rw [e, if_neg (fun e2 => hn (by rw [e2]; simp))]
    exact h.no i hi (fun hq => hn (List.mem_append_left _ hq))
  · rcases List.mem_append.1 hi with h1 | h1
    · rw [eq i h1]; exact h.snd i h1
    · rw [List.mem_singleton] at h1
      subst h1
      exact ⟨dc + 1, by rw [e, if_pos rfl, hdc]; rfl, .step hwc (List.mem_of_getElem? hk)⟩
  · rw [List.pairwise_append]
    refine ⟨?_, by simp, fun x hx y hy => ?_⟩
    · refine h.mono.imp_of_mem (fun {x y} hx hy hxy => ?_)
      rw [eq x hx, eq y hy]; exact hxy
    · rw [List.mem_singleton] at hy
      subst hy
      rw [eq x hx, e, if_pos rfl]
      exact h.last ha x hx
  · rw [ea, eq _ hqa]
    rcases List.mem_append.1 hi with h1 | h1
    · rw [eq i h1]; exact h.last ha i h1
    · rw [List.mem_singleton] at h1
      subst h1
      rw [e, if_pos rfl]; exact Int.le_refl _
  · have hb2 : b < Q.length := by have := h.al; omega
    rw [qAt_app hb2] at hu ⊢
    obtain ⟨h1, h2⟩ := h.done b hb u hu
    exact ⟨List.mem_append_left _ h1, by rw [eq _ h1, eq _ (qAt_mem hb2)]; exact h2⟩
  · rw [ea] at hu ⊢
    rw [List.take_add_one, hk] at hu
    rw [eq _ hqa]
    rcases List.mem_append.1 hu with h1 | h1
    · obtain ⟨h2, h3⟩ := h.part ha u h1
      exact ⟨List.mem_append_left _ h2, by rw [eq _ h2]; exact h3⟩
    · obtain rfl : u = (j : Int) := by simpa using h1
      simp only [Int.toNat_natCast]
      exact ⟨by simp, by rw [e, if_pos rfl]; exact Int.le_refl _⟩
  · rw [eq _ h.qs]; exact h.hs
  · rw [List.length_append, List.length_singleton]
    rcases List.mem_append.1 hi with h1 | h1
    · rw [eq i h1]; have := h.bd i h1; omega
    · rw [List.mem_singleton] at h1
      subst h1
      rw [e, if_pos rfl]
      have := h.bd _ hqa
      omega
/-- All neighbours of a node are done. -/
theorem Bfs.next {G : List Pn} {s : Nat} {H : List Int} {Q : List Nat} {a k : Nat} (h : Bfs G s H Q a k) (ha : a < Q.length) (hk : (outAt G (qAt Q a)).length ≤ k) : Bfs G s H Q (a + 1) 0 := by
  have hp := h.part ha
  rw [List.take_of_length_le hk] at hp
  refine ⟨h.hl, h.qs, h.qn, h.ql, h.no, h.snd, h.mono, fun ha2 i hi => ?_, fun b hb => ?_, fun _ t ht => by simp at ht, ha, h.hs, h.bd⟩
  · have h1 := h.last ha i hi
    have h2 : hAt H (qAt Q a) ≤ hAt H (qAt Q (a + 1)) := by
      have := (List.pairwise_iff_getElem.1 h.mono) a (a + 1) ha ha2 (by omega)
      unfold qAt
      rw [List.getElem?_eq_getElem ha, List.getElem?_eq_getElem ha2]
      exact this
    omega
  · rcases Nat.lt_or_ge b a with h1 | h1
    · exact h.done b h1
    · obtain rfl : b = a := by omega
      exact hp
/-- What is come to in the end. -/
theorem Bfs.end_ {G : List Pn} {s : Nat} {H : List Int} {Q : List Nat} (h : Bfs G s H Q Q.length 0) {i : Nat} (hi : i < G.length) : hAt H i = hopI G s i := by
  have key : ∀ k j, Way G s k j → j ∈ Q ∧ hAt H j ≤ k := by
    intro k j hw
    induction hw with
    | here => exact ⟨h.qs, by rw [h.hs]; exact Int.le_refl _⟩
    | step hw ht ih =>
      obtain ⟨h1, h2⟩ := ih
      obtain ⟨b, hb, rfl⟩ := List.getElem_of_mem h1
      have e : qAt Q b = Q[b] := by unfold qAt; rw [List.getElem?_eq_getElem hb]; rfl
      have := h.done b hb _ (by rw [e]; exact ht)
      rw [e] at this
      simp only [Int.toNat_natCast] at this
      exact ⟨this.1, by have := this.2; omega⟩
  symm
  apply hopI_of
  by_cases hq : i ∈ Q
  · obtain ⟨d, h1, h2⟩ := h.snd i hq
    exact .inr ⟨d, h1, h2, fun j hj hw => by have := (key j i hw).2; omega⟩
  · exact .inl ⟨h.no i hi hq, fun k hw => hq (key k i hw).1⟩
theorem Bfs.hops {G : List Pn} {s : Int} {H : List Int} {Q : List Nat} (h : Bfs G s.toNat H Q Q.length 0) : H = hopsL G s := by
  apply List.ext_getElem?
  intro i
  by_cases hi : i < G.length
  · have := h.end_ hi
    rw [hopsL_at hi, ← this]
    unfold hAt
    rw [List.getElem?_eq_getElem (by rw [h.hl]; exact hi)]; rfl
  · rw [List.getElem?_eq_none (by rw [h.hl]; omega), List.getElem?_eq_none (by rw [hopsL_len]; omega)]
theorem nodup_lt : ∀ (n : Nat) (Q : List Nat), Q.Nodup → (∀ i ∈ Q, i < n) → Q.length ≤ n
  | 0, Q, _, h => by
    cases Q with
    | nil => simp
    | cons a l => have := h a List.mem_cons_self; omega
  | n + 1, Q, hn, h => by
    by_cases hq : n ∈ Q
    · have h1 := nodup_lt n (Q.erase n) (hn.erase n) (fun i hi => by
        have h2 := h i (List.mem_of_mem_erase hi)
        have h3 : i ≠ n := fun e => by subst e; exact hn.not_mem_erase hi
        omega)
      rw [List.length_erase_of_mem hq] at h1
      omega
    · have := nodup_lt n Q hn (fun i hi => by
        have h2 := h i hi
        have h3 : i ≠ n := fun e => hq (e ▸ hi)
        omega)
      omega
theorem Bfs.qlen {G : List Pn} {s : Nat} {H : List Int} {Q : List Nat} {a k : Nat} (h : Bfs G s H Q a k) : Q.length ≤ G.length := nodup_lt _ _ h.qn h.ql
end Go.Proofs.YtkmngbkghgelfaaGreat
/- The walk of Great: more nodes, or neighbours, than are gone through. -/
namespace Go.Proofs.YtkmngbkghgelfaaGreat
open Go.RowKit
set_option linter.unusedVariables false
/-- What Great answers: where it says no, the graph is small. -/
def GreatIs (G : List Pn) (e : Ending) : Prop := ∃ b, e = .returned (.bool b) ∧ (b = false → GSmall G)
theorem szG_succ {G : List Pn} {k : Nat} {x : Pn} (h : G[k]? = some x) : ((G.take (k + 1)).map szN).sum = ((G.take k).map szN).sum + (x.2.1.length + x.2.2.length) := by
  rw [List.take_add_one, h, List.map_append, List.sum_append]; simp [szN]
set_option maxRecDepth 100000 in
set_option maxHeartbeats 2000000 in
theorem great9_any (A : Option Addr) (c : Nat) (L : List Gn) (s : Int) (w : World) (hx : GGiven w A L) :
    Calls Tryz.prog 22 #[.agg #[.slice A L.length c, .int .i64 s]] w fun e w' => GreatIs (pns L) e ∧ Below w.heap.size w w' := by
  have W0 := Whole.new w 24 #[.slice A L.length c, .int .i64 s]
  have B0 : Below w.heap.size w (w.alloc (.cells #[.slice A L.length c, .int .i64 s] 24)) := below_one (Below.refl _ _) _
  have HX := Lib.hid (hx.below B0)
  have hlen := hx.len
  have HL := Lib.hid (pns_len L)
  have p0 := W0.cell 0
  have HB0 := Lib.hid B0
  clear W0 B0 hx
  go_enter Tryz.func22, Tryz.ntmps22
  go_wp2
  obtain ⟨w1, ew1⟩ : ∃ w1, w.alloc (.cells #[.slice A L.length c, .int .i64 s] 24) = w1 := ⟨_, rfl⟩
  rw [ew1] at HX HB0 p0
  rw [ew1]
  obtain ⟨g, eg⟩ : ∃ g, w.heap.size = g := ⟨_, rfl⟩
  rw [eg] at p0 ⊢
  clear ew1
  have p0' : w1.cell? ⟨g, 0, none⟩ = some (.slice A L.length c) := p0
  have HG := Lib.hid eg
  clear p0 eg
  go_loopw [3, 4] (fun s i wr => ∃ k m nq : Nat, k ≤ L.length ∧ i = .int .i64 k ∧ s = .int .i64 m ∧ wr = w1.drewN nq ∧ m ≤ 562949953421312 ∧ Hid (L.length ≤ m) ∧ Hid (m = L.length + (((pns L).take k).map szN).sum ∨ 20000 < m)) (fun _ i _ => L.length - (intOf i).toNat)
  case atStart => exact ⟨0, L.length, 0, by omega, rfl, rfl, rfl, by omega, Lib.hid (Nat.le_refl _), Lib.hid (.inl (by simp))⟩
  case round =>
    obtain ⟨k, m, nq, hk, rfl, rfl, rfl, hb, HLM, hm⟩ := hrel
    by_cases hlt : k < L.length ∧ m ≤ 20000
    · have e1 : decide ((k : Int) < (L.length : Int)) = true := decide_eq_true (by omega)
      have e2 : decide ((m : Int) ≤ 20000) = true := decide_eq_true (by omega)
      obtain ⟨b, off, id, a1, c1, v, a2, c2, o, rfl, hBb, h1, h2, h3, hr1, hr2, hv⟩ := HX.out.rd.at_ hlt.1
      have hev := HX.out.each _ (List.mem_of_getElem? (pns_at hv.out))
      have hv1 : v.length ≤ 140737488355328 := hev.1
      have hv2 : o.length ≤ 140737488355328 := hev.2
      have HM := Lib.hid (show m + v.length + o.length = L.length + (((pns L).take (k + 1)).map szN).sum ∨ 20000 < m + v.length + o.length by
        rcases hm.out with h | h
        · left; rw [szG_succ (pns_at hv.out)]; show _ = L.length + (_ + (v.length + o.length)); omega
        · omega)
      have HLM2 := Lib.hid (show L.length ≤ m + v.length + o.length by have := HLM.out; omega)
      have x1 : (0 : Int) ≤ (k : Int) := by omega
      have x2 : (k : Int) < (L.length : Int) := by omega
      have y1 : IntKind.i64.wrap ((m : Int) + (v.length : Int)) = (m : Int) + (v.length : Int) := by rw [IntKind.wrap_i64]; omega
      have y2 : IntKind.i64.wrap ((m : Int) + (v.length : Int) + (o.length : Int)) = (m : Int) + (v.length : Int) + (o.length : Int) := by rw [IntKind.wrap_i64]; omega
      have hm2 : m ≤ 20000 := hlt.2
      clear hm hev hv hr1 hr2 hlt
      go_wp2
      go_quiet (fail)
      go_wp2
      go_roundw
      case rel => exact ⟨k + 1, m + v.length + o.length, _, by omega, by go_num, by go_num, rfl, by omega, HLM2, HM⟩
      case measure => simp [intOf]; omega
    · have HZ : Hid (20000 < m ∨ m = szG (pns L)) := Lib.hid (by
        rcases hm.out with h | h
        · by_cases hk2 : k < L.length
          · left; omega
          · right
            obtain rfl : k = L.length := by omega
            rw [List.take_of_length_le (by rw [HL.out]; exact Nat.le_refl _)] at h
            unfold szG; rw [HL.out]; exact h
        · exact .inl h)
      have HBE := Lib.hid (below_drewN HB0.out nq)
      have e12 : (decide ((k : Int) < (L.length : Int)) = false ∧ decide (k < L.length) = false) ∨ (decide ((k : Int) < (L.length : Int)) = true ∧ decide (k < L.length) = true ∧ decide ((m : Int) ≤ 20000) = false ∧ decide (m ≤ 20000) = false) := by
        by_cases h1 : k < L.length
        · exact .inr ⟨decide_eq_true (by omega), decide_eq_true (by omega), decide_eq_false (by omega), decide_eq_false (by omega)⟩
        · exact .inl ⟨decide_eq_false (by omega), decide_eq_false (by omega)⟩
      have f123 : (decide ((20000 : Int) < (m : Int)) = true ∧ decide (20000 < m) = true) ∨ (decide ((20000 : Int) < (m : Int)) = false ∧ decide (20000 < m) = false) ∧ ((decide ((600 : Int) < (L.length : Int)) = false ∧ decide (600 < L.length) = false ∧ Hid (GSmall (pns L))) ∨ (decide ((600 : Int) < (L.length : Int)) = true ∧ decide (600 < L.length) = true) ∧ ((decide ((L.length : Int) ≤ 2048) = true ∧ decide (L.length ≤ 2048) = true) ∨ (decide ((L.length : Int) ≤ 2048) = false ∧ decide (L.length ≤ 2048) = false ∧ Hid (GSmall (pns L))))) := by
        by_cases h1 : 20000 < m
        · exact .inl ⟨decide_eq_true (by omega), decide_eq_true (by omega)⟩
        · have hs : szG (pns L) ≤ 20000 := by rcases HZ.out with h | h <;> omega
          refine .inr ⟨⟨decide_eq_false (by omega), decide_eq_false (by omega)⟩, ?_⟩
          by_cases h2 : 600 < L.length
          · refine .inr ⟨⟨decide_eq_true (by omega), decide_eq_true (by omega)⟩, ?_⟩
            by_cases h3 : L.length ≤ 2048
            · exact .inl ⟨decide_eq_true (by omega), decide_eq_true (by omega)⟩
            · exact .inr ⟨decide_eq_false (by omega), decide_eq_false (by omega), ⟨hs, by rw [HL.out]; omega⟩⟩
          · exact .inl ⟨decide_eq_false (by omega), decide_eq_false (by omega), ⟨hs, by rw [HL.out]; omega⟩⟩
      clear hm hb hlt HZ hk
      rcases e12 with ⟨e1, e1n⟩ | ⟨e1, e1n, e2, e2n⟩ <;> rcases f123 with ⟨f1, f1n⟩ | ⟨⟨f1, f1n⟩, ⟨f2, f2n, HS⟩ | ⟨⟨f2, f2n⟩, ⟨f3, f3n⟩ | ⟨f3, f3n, HS⟩⟩⟩
      all_goals
        go_wp2
        go_ret
        first
          | exact ⟨⟨false, rfl, fun _ => HS.out⟩, HBE.out⟩
          | exact ⟨⟨true, rfl, fun h => by cases h⟩, HBE.out⟩
end Go.Proofs.YtkmngbkghgelfaaGreat
/- The walks of the document's Setup, Find, unlike (layer 9). -/
namespace Go.Proofs.YtkmngbkghgelfaaGreat
open Go.RowKit
set_option linter.unusedVariables false
/-- A setup that may be. -/
def setupB (d g b n m : Int) : Bool := decide (1 ≤ d ∧ d ≤ 64 ∧ 1 ≤ g ∧ g ≤ 32 ∧ 1 ≤ b ∧ b ≤ 256 ∧ 1 ≤ n ∧ n ≤ 1000 ∧ 1 ≤ m ∧ m ≤ 1000 ∧ m ≤ n)
/-- The place of the first node with that number. -/
def findI (G : List Pn) (id : Int) : Int := match G.findIdx? (fun x => x.1 == id) with
  | some k => (k : Int)
  | none => -1
theorem findI_at {G : List Pn} {id : Int} {k : Nat} (hk : k < G.length) (h : (nAt G k).1 = id) (hb : ∀ j, j < k → (nAt G j).1 ≠ id) : findI G id = k := by
  have e : G.findIdx? (fun x => x.1 == id) = some k := by
    rw [List.findIdx?_eq_some_iff_getElem]
    refine ⟨hk, ?_, fun j hj => ?_⟩
    · have : nAt G k = G[k] := nAt_get (List.getElem?_eq_getElem hk)
      rw [this] at h
      simpa using h
    · have : nAt G j = G[j]'(by omega) := nAt_get (List.getElem?_eq_getElem (by omega))
      have := hb j hj
      simp_all
  unfold findI
  rw [e]
theorem findI_none {G : List Pn} {id : Int} (h : ∀ j, j < G.length → (nAt G j).1 ≠ id) : findI G id = -1 := by
  have e : G.findIdx? (fun x => x.1 == id) = none := by
    rw [List.findIdx?_eq_none_iff]
    intro x hx
    obtain ⟨j, hj, rfl⟩ := List.getElem_of_mem hx
    have := h j hj
    rw [nAt_get (List.getElem?_eq_getElem hj)] at this
    simpa using this
  unfold findI
  rw [e]
theorem findI_lt (G : List Pn) (id : Int) : -1 ≤ findI G id ∧ findI G id < (G.length : Int) := by
  unfold findI
  split
  · rename_i k hk
    rw [List.findIdx?_eq_some_iff_getElem] at hk
    obtain ⟨h, _⟩ := hk
    omega
  · omega
set_option maxRecDepth 100000 in
set_option maxHeartbeats 4000000 in
theorem rFind_any (A : Option Addr) (c : Nat) (L : List Gn) (s id : Int) (w : World) (D : Nat) (hD : D ≤ w.heap.size) (hx : RdG w D A L) (hl : L.length ≤ 20000) :
    Calls Tryz.prog 85 #[.agg #[.slice A L.length c, .int .i64 s], .int .u64 id] w fun e w' => e = .returned (.int .i64 (findI (pns L) id)) ∧ Below w.heap.size w w' := by
  have W0 := Whole.new w 24 #[.slice A L.length c, .int .i64 s]
  have B0 : Below w.heap.size w (w.alloc (.cells #[.slice A L.length c, .int .i64 s] 24)) := below_one (Below.refl _ _) _
  have HX := Lib.hid (hx.below (B0.mono hD))
  have HL := Lib.hid (pns_len L)
  have p0 := W0.cell 0
  have HB0 := Lib.hid B0
  clear W0 B0 hx
  go_enter Tryz.func85, Tryz.ntmps85
  go_wp2
  obtain ⟨w1, ew1⟩ : ∃ w1, w.alloc (.cells #[.slice A L.length c, .int .i64 s] 24) = w1 := ⟨_, rfl⟩
  rw [ew1] at HX HB0 p0 ⊢
  obtain ⟨g, eg⟩ : ∃ g, w.heap.size = g := ⟨_, rfl⟩
  rw [eg] at p0 ⊢
  have p0' : w1.cell? ⟨g, 0, none⟩ = some (.slice A L.length c) := p0
  have HG := Lib.hid eg
  clear ew1 eg p0
  go_loopw [5] (fun i wr => ∃ k nq : Nat, k ≤ L.length ∧ i = .int .i64 k ∧ wr = w1.drewN nq ∧ Hid (∀ j, j < k → (nAt (pns L) j).1 ≠ id)) (fun i _ => L.length - (intOf i).toNat)
  case atStart => exact ⟨0, 0, by omega, rfl, rfl, Lib.hid (fun j hj => absurd hj (Nat.not_lt_zero _))⟩
  case round =>
    obtain ⟨k, nq, hk, rfl, rfl, HK⟩ := hrel
    by_cases hlt : k < L.length
    · have e1 : decide ((k : Int) < (L.length : Int)) = true := decide_eq_true (by omega)
      obtain ⟨b, off, id', a1, c1, v, a2, c2, o, rfl, hBb, h1, h2, h3, hr1, hr2, hv⟩ := HX.out.at_ hlt
      have x1 : (0 : Int) ≤ (k : Int) := by omega
      have x2 : (k : Int) < (L.length : Int) := by omega
      have en : (nAt (pns L) k).1 = id' := by rw [nAt_get (pns_at hv.out)]
      by_cases he : id' = id
      · subst he
        have HF := Lib.hid (findI_at (by rw [HL.out]; exact hlt) en HK.out)
        have e2 : (id' == id') = true := by simp
        clear en hv h2 h3 hr1 hr2
        go_wp2
        go_ret
        exact ⟨ret1 HF.out.symm, below_drewN HB0.out _⟩
      · have HN : Hid (∀ j, j < k + 1 → (nAt (pns L) j).1 ≠ id) := fun j hj => by
          rcases Nat.lt_or_ge j k with h | h
          · exact HK.out j h
          · obtain rfl : j = k := by omega
            rw [en]; exact he
        have e2 : (id' == id) = false := by simpa using he
        clear en hv h2 h3 hr1 hr2 he
        go_wp2
        go_roundw
        case rel => exact ⟨k + 1, _, by omega, by go_num, rfl, HN⟩
        case measure => simp [intOf]; omega
    · obtain rfl : k = L.length := by omega
      have e1 : decide ((L.length : Int) < (L.length : Int)) = false := decide_eq_false (by omega)
      have HF := Lib.hid (findI_none (G := pns L) (id := id) (fun j hj => HK.out j (by rw [HL.out] at hj; exact hj)))
      go_wp2
      go_ret
      exact ⟨ret1 HF.out.symm, below_drewN HB0.out _⟩
/-- Neighbours that are unlike, and others than the node itself. -/
def unlikeB (out : List Int) (at_ : Int) : Bool := decide ((∀ t ∈ out, t ≠ at_) ∧ out.Nodup)
theorem unlikeB_no1 {out : List Int} {a t : Int} {k : Nat} (h : out[k]? = some t) (he : t = a) : unlikeB out a = false := decide_eq_false (fun q => q.1 t (List.mem_of_getElem? h) he)
theorem unlikeB_no2 {out : List Int} {a t : Int} {j k : Nat} (h1 : out[j]? = some t) (h2 : out[k]? = some t) (hj : j < k) : unlikeB out a = false := decide_eq_false (fun q => by
  have hk : k < out.length := (List.getElem?_eq_some_iff.1 h2).1
  have hjl : j < out.length := by omega
  have := (List.pairwise_iff_getElem.1 q.2) j k hjl hk hj
  rw [List.getElem?_eq_getElem hjl] at h1
  rw [List.getElem?_eq_getElem hk] at h2
  simp only [Option.some.injEq] at h1 h2
  exact this (h1.trans h2.symm))
theorem unlikeB_yes {out : List Int} {a : Int} (h : ∀ (k : Nat) (t : Int), out[k]? = some t → t ≠ a ∧ ∀ (j : Nat) (u : Int), j < k → out[j]? = some u → u ≠ t) : unlikeB out a = true := decide_eq_true ⟨fun t ht => by
  obtain ⟨k, hk, rfl⟩ := List.getElem_of_mem ht
  exact (h k _ (List.getElem?_eq_getElem hk)).1, List.pairwise_iff_getElem.2 (fun i j hi hj hij => (h j _ (List.getElem?_eq_getElem hj)).2 i _ hij (List.getElem?_eq_getElem hi))⟩
end Go.Proofs.YtkmngbkghgelfaaGreat
/- The walk of the document's Holds (layer 9). -/
namespace Go.Proofs.YtkmngbkghgelfaaGreat
open Go.RowKit
set_option linter.unusedVariables false
theorem holds_bad {G : List Pn} {s t : Int} {i k : Nat} (hi : i < G.length) (hk : (outAt G i)[k]? = some t) (h : ¬ (0 ≤ t ∧ t < (G.length : Int))) : holdsB G s = false := decide_eq_false (fun q => h (q.out hi (List.mem_of_getElem? hk)))
theorem holds_ok {G : List Pn} {s : Int} (h1 : G.length ≤ 2048 ∧ 0 ≤ s ∧ (s < (G.length : Int) ∨ s ≤ 0)) (h : ∀ (i : Nat), i < G.length → ∀ (k : Nat) (t : Int), (outAt G i)[k]? = some t → 0 ≤ t ∧ t < (G.length : Int)) : holdsB G s = true := decide_eq_true ⟨h1.1, h1.2.1, h1.2.2, fun x hx t ht => by
  obtain ⟨i, hi, rfl⟩ := List.getElem_of_mem hx
  obtain ⟨k, hk, rfl⟩ := List.getElem_of_mem ht
  refine h i hi k _ ?_
  have : outAt G i = G[i].2.2 := by unfold outAt; rw [nAt_get (List.getElem?_eq_getElem hi)]
  rw [this]
  exact List.getElem?_eq_getElem hk⟩
set_option maxRecDepth 100000 in
set_option maxHeartbeats 4000000 in
theorem rHolds_any (A : Option Addr) (c : Nat) (L : List Gn) (s : Int) (w : World) (D : Nat) (hD : D ≤ w.heap.size) (hx : RdG w D A L) (hl : L.length ≤ 20000) (hs : ∀ x ∈ pns L, x.2.2.length ≤ 20000) :
    Calls Tryz.prog 84 #[.agg #[.slice A L.length c, .int .i64 s]] w fun e w' => e = .returned (.bool (holdsB (pns L) s)) ∧ Below w.heap.size w w' := by
  have W0 := Whole.new w 24 #[.slice A L.length c, .int .i64 s]
  have B0 : Below w.heap.size w (w.alloc (.cells #[.slice A L.length c, .int .i64 s] 24)) := below_one (Below.refl _ _) _
  have HX := Lib.hid (hx.below (B0.mono hD))
  have HL := Lib.hid (pns_len L)
  have HSM := Lib.hid hs
  have p0 := W0.cell 0
  have p1 := W0.cell 1
  have HB0 := Lib.hid B0
  clear W0 B0 hx hs
  by_cases hP : L.length ≤ 2048 ∧ 0 ≤ s ∧ (s < (L.length : Int) ∨ s ≤ 0)
  · have f1 : decide ((2048 : Int) < (L.length : Int)) = false := decide_eq_false (by omega)
    have f1n : decide (2048 < L.length) = false := decide_eq_false (by omega)
    have f2 : decide (s < 0) = false := decide_eq_false (by omega)
    have f34 : decide ((L.length : Int) ≤ s) = false ∨ (decide ((L.length : Int) ≤ s) = true ∧ decide (0 < s) = false) := by
      by_cases h : s < (L.length : Int)
      · exact .inl (decide_eq_false (by omega))
      · exact .inr ⟨decide_eq_true (by omega), decide_eq_false (by omega)⟩
    have HP := Lib.hid hP
    clear hP
    rcases f34 with f3 | ⟨f3, f4⟩
    all_goals
      go_enter Tryz.func84, Tryz.ntmps84
      go_wp2
      obtain ⟨w1, ew1⟩ : ∃ w1, w.alloc (.cells #[.slice A L.length c, .int .i64 s] 24) = w1 := ⟨_, rfl⟩
      rw [ew1] at HX HB0 p0 ⊢
      obtain ⟨g, eg⟩ : ∃ g, w.heap.size = g := ⟨_, rfl⟩
      rw [eg] at p0 ⊢
      have p0' : w1.cell? ⟨g, 0, none⟩ = some (.slice A L.length c) := p0
      have HG := Lib.hid eg
      clear ew1 eg p0 p1
      go_loopw [4] (fun i wr => ∃ k nq : Nat, k ≤ L.length ∧ i = .int .i64 k ∧ wr = w1.drewN nq ∧ Hid (∀ (j : Nat), j < k → ∀ (m : Nat) (t : Int), (outAt (pns L) j)[m]? = some t → 0 ≤ t ∧ t < (L.length : Int))) (fun i _ => L.length - (intOf i).toNat)
      case atStart => exact ⟨0, 0, by omega, rfl, rfl, Lib.hid (fun j hj => absurd hj (Nat.not_lt_zero _))⟩
      case round =>
        obtain ⟨k, nq, hk, rfl, rfl, HK⟩ := hrel
        by_cases hlt : k < L.length
        · have e1 : decide ((k : Int) < (L.length : Int)) = true := decide_eq_true (by omega)
          obtain ⟨b, off, id', a1, c1, v, a2, c2, o, rfl, hBb, h1, h2, h3, hr1, hr2, hv⟩ := HX.out.at_ hlt
          have x1 : (0 : Int) ≤ (k : Int) := by omega
          have x2 : (k : Int) < (L.length : Int) := by omega
          have EO := Lib.hid (show outAt (pns L) k = o by unfold outAt; rw [nAt_get (pns_at hv.out)])
          have hol : o.length ≤ 20000 := HSM.out _ (List.mem_of_getElem? (pns_at hv.out))
          have HO := Lib.hid hr2
          clear hv hr1 hr2 h1 h2
          go_wp2
          go_loopw [5] (fun i wz => ∃ m mq : Nat, m ≤ o.length ∧ i = .int .i64 m ∧ wz = w1.drewN mq ∧ Hid (∀ (j : Nat) (t : Int), j < m → o[j]? = some t → 0 ≤ t ∧ t < (L.length : Int))) (fun i _ => o.length - (intOf i).toNat)
          case atStart => exact ⟨0, nq, by omega, rfl, rfl, Lib.hid (fun j t hj => absurd hj (Nat.not_lt_zero _))⟩
          case round =>
            obtain ⟨m, mq, hm, rfl, rfl, HM⟩ := hrel
            by_cases hmt : m < o.length
            · have g1 : decide ((m : Int) < (o.length : Int)) = true := decide_eq_true (by omega)
              obtain ⟨bo, oo, t, rfl, hBo, hco, hvo⟩ := HO.out.at_ hmt
              have et : o[m]? = some t := by rw [← hvo.out, List.getElem?_eq_getElem hmt]; rfl
              have y1 : (0 : Int) ≤ (m : Int) := by omega
              have y2 : (m : Int) < (o.length : Int) := by omega
              by_cases ht : 0 ≤ t ∧ t < (L.length : Int)
              · have q1 : decide (t < 0) = false := decide_eq_false (by omega)
                have q2 : decide ((L.length : Int) ≤ t) = false := decide_eq_false (by omega)
                have HN : Hid (∀ (j : Nat) (t : Int), j < m + 1 → o[j]? = some t → 0 ≤ t ∧ t < (L.length : Int)) := fun j u hj hu => by
                  rcases Nat.lt_or_ge j m with h | h
                  · exact HM.out j u h hu
                  · obtain rfl : j = m := by omega
                    rw [et] at hu
                    simp only [Option.some.injEq] at hu
                    rw [← hu]; exact ht
                clear ht et hvo
                go_wp2
                exact ⟨⟨m + 1, mq, by omega, by go_num, rfl, HN⟩, by simp [intOf]; omega⟩
              · have HF := Lib.hid (holds_bad (G := pns L) (s := s) (by rw [HL.out]; exact hlt) (by rw [EO.out]; exact et) (by rw [HL.out]; exact ht))
                have q12 : decide (t < 0) = true ∨ (decide (t < 0) = false ∧ decide ((L.length : Int) ≤ t) = true) := by
                  by_cases h : t < 0
                  · exact .inl (decide_eq_true h)
                  · exact .inr ⟨decide_eq_false h, decide_eq_true (by omega)⟩
                clear ht et hvo
                rcases q12 with q1 | ⟨q1, q2⟩
                all_goals
                  go_wp2
                  go_ret
                  exact ⟨retb HF.out.symm, below_drewN HB0.out _⟩
            · obtain rfl : m = o.length := by omega
              have g1 : decide ((o.length : Int) < (o.length : Int)) = false := decide_eq_false (by omega)
              have HN : Hid (∀ (j : Nat), j < k + 1 → ∀ (m : Nat) (t : Int), (outAt (pns L) j)[m]? = some t → 0 ≤ t ∧ t < (L.length : Int)) := fun j hj m t ht => by
                rcases Nat.lt_or_ge j k with h | h
                · exact HK.out j h m t ht
                · obtain rfl : j = k := by omega
                  rw [EO.out] at ht
                  exact HM.out m t (List.getElem?_eq_some_iff.1 ht).1 ht
              go_wp2
              go_roundw
              case rel => exact ⟨k + 1, _, by omega, by go_num, rfl, HN⟩
              case measure => simp [intOf]; omega
        · obtain rfl : k = L.length := by omega
          have e1 : decide ((L.length : Int) < (L.length : Int)) = false := decide_eq_false (by omega)
          have HF := Lib.hid (holds_ok (G := pns L) (s := s) (by rw [HL.out]; exact HP.out) (fun i hi m t ht => by rw [HL.out] at hi ⊢; exact HK.out i hi m t ht))
          go_wp2
          go_ret
          exact ⟨retb HF.out.symm, below_drewN HB0.out _⟩
  · have HF : Hid (holdsB (pns L) s = false) := Lib.hid (decide_eq_false (fun q => hP (by have h1 := q.1; have h2 := q.2.1; have h3 := q.2.2.1; rw [HL.out] at h1 h3; exact ⟨h1, h2, h3⟩)))
    go_enter Tryz.func84, Tryz.ntmps84
    go_wp2
    all_goals
      first
        | (exfalso; omega)
        | (go_ret; exact ⟨retb HF.out.symm, HB0.out⟩)
end Go.Proofs.YtkmngbkghgelfaaGreat
/- The walks of the program's isPlace, within, Setup, Find (layer 9), and of slices.Index and slices.Contains. -/
namespace Go.Proofs.YtkmngbkghgelfaaGreat
open Go.RowKit
set_option linter.unusedVariables false
set_option maxRecDepth 100000 in
theorem isPlace_any (p n : Int) (w : World) :
    Calls Tryz.prog 134 #[.int .i64 p, .int .i64 n] w fun e w' => e = .returned (.bool (decide (0 ≤ p ∧ p < n))) ∧ w' = w := by
  go_enter Tryz.func134, Tryz.ntmps134
  go_wp2
  all_goals
    go_ret
    refine ⟨retb ?_, rfl⟩
    first
      | (rw [decide_eq_decide]; omega)
      | (simp; omega)
end Go.Proofs.YtkmngbkghgelfaaGreat
/- The walks of the program's holdsTogether and unlikeOthers (layer 9). -/
namespace Go.Proofs.YtkmngbkghgelfaaGreat
open Go.RowKit
set_option linter.unusedVariables false
set_option maxRecDepth 100000 in
set_option maxHeartbeats 4000000 in
theorem holds_any (A : Option Addr) (c : Nat) (L : List Gn) (s : Int) (w : World) (D : Nat) (hD : D ≤ w.heap.size) (hx : RdG w D A L) (hl : L.length ≤ 20000) (hs : ∀ x ∈ pns L, x.2.2.length ≤ 20000) :
    Calls Tryz.prog 118 #[.agg #[.slice A L.length c, .int .i64 s]] w fun e w' => e = .returned (.bool (holdsB (pns L) s)) ∧ Below w.heap.size w w' := by
  have W0 := Whole.new w 24 #[.slice A L.length c, .int .i64 s]
  have B0 : Below w.heap.size w (w.alloc (.cells #[.slice A L.length c, .int .i64 s] 24)) := below_one (Below.refl _ _) _
  have HX := Lib.hid hx
  have HL := Lib.hid (pns_len L)
  have HSM := Lib.hid hs
  have p0 := W0.cell 0
  have p1 := W0.cell 1
  have HB0 := Lib.hid B0
  clear W0 B0 hx hs
  by_cases hP : L.length ≤ 2048 ∧ 0 ≤ s ∧ (s < (L.length : Int) ∨ s ≤ 0)
  · have f1 : decide ((2048 : Int) < (L.length : Int)) = false := decide_eq_false (by omega)
    have f1n : decide (2048 < L.length) = false := decide_eq_false (by omega)
    have HP := Lib.hid hP
    have e0 : decide (0 ≤ s ∧ s < (if (L.length : Int) < 1 then 1 else (L.length : Int))) = true := decide_eq_true (by split <;> omega)
    have HIP := Lib.hid (fun (W : World) => isPlace_any s (if (L.length : Int) < 1 then 1 else (L.length : Int)) W)
    rw [e0] at HIP
    have HPP := Lib.hid (fun (t : Int) (W : World) => isPlace_any t (L.length : Int) W)
    clear hP e0
    go_enter Tryz.func118, Tryz.ntmps118
    go_wp2_with (go_at_call 134; refine (HIP.out _).mono ?_; rintro e w' ⟨rfl, rfl⟩)
    all_goals
      clear p1 HIP h
      obtain ⟨w1, ew1⟩ : ∃ w1, w.alloc (.cells #[.slice A L.length c, .int .i64 s] 24) = w1 := ⟨_, rfl⟩
      rw [ew1] at HB0 p0 ⊢
      clear ew1
      go_loopw [5, 7, 24] (fun _ _ i wr => ∃ k : Nat, k ≤ L.length ∧ i = .int .i64 k ∧ Hid (Below w.heap.size w wr) ∧ Hid (∀ (j : Nat), j < k → ∀ (m : Nat) (t : Int), (outAt (pns L) j)[m]? = some t → 0 ≤ t ∧ t < (L.length : Int))) (fun _ _ i _ => L.length - (intOf i).toNat)
      case atStart => exact ⟨0, by omega, rfl, HB0, Lib.hid (fun j hj => absurd hj (Nat.not_lt_zero _))⟩
      case round =>
        clear HB0 p0
        obtain ⟨k, hk, rfl, HB, HK⟩ := hrel
        by_cases hlt : k < L.length
        · have e1 : decide ((k : Int) < (L.length : Int)) = true := decide_eq_true (by omega)
          obtain ⟨b, off, id', a1, c1, v, a2, c2, o, rfl, hBb, h1, h2, h3, hr1, hr2, hv⟩ := HX.out.at_ hlt
          have bW : Below D w wr := HB.out.mono hD
          have h1' : wr.cell? ⟨b, off + k * 3, none⟩ = some (.int .u64 id') := (bW.cell (p := ⟨b, off + k * 3, none⟩) hBb).trans h1
          have h2' : wr.cell? ⟨b, off + k * 3 + 1, none⟩ = some (.slice a1 v.length c1) := (bW.cell (p := ⟨b, off + k * 3 + 1, none⟩) hBb).trans h2
          have h3' : wr.cell? ⟨b, off + k * 3 + 2, none⟩ = some (.slice a2 o.length c2) := (bW.cell (p := ⟨b, off + k * 3 + 2, none⟩) hBb).trans h3
          have x1 : (0 : Int) ≤ (k : Int) := by omega
          have x2 : (k : Int) < (L.length : Int) := by omega
          have EO := Lib.hid (show outAt (pns L) k = o by unfold outAt; rw [nAt_get (pns_at hv.out)])
          have hol : o.length ≤ 20000 := HSM.out _ (List.mem_of_getElem? (pns_at hv.out))
          have HB2 := Lib.hid (HB.out.trans ((below_one (Below.refl _ _) (.cells #[.int .u64 id', .slice a1 v.length c1, .slice a2 o.length c2] 87)).mono HB.out.size))
          have HO := Lib.hid (hr2.below (HB2.out.mono hD))
          clear bW h1 h2 h3 hr1 hr2 hv
          go_wp2
          obtain ⟨w2, ew2⟩ : ∃ w2, wr.alloc (.cells #[.int .u64 id', .slice a1 v.length c1, .slice a2 o.length c2] 87) = w2 := ⟨_, rfl⟩
          rw [ew2] at HB2 HO ⊢
          clear ew2 h1' h2' h3' HB
          go_loopw [7, 31] (fun _ i wz => ∃ m mq : Nat, m ≤ o.length ∧ i = .int .i64 m ∧ wz = w2.drewN mq ∧ Hid (∀ (j : Nat) (t : Int), j < m → o[j]? = some t → 0 ≤ t ∧ t < (L.length : Int))) (fun _ i _ => o.length - (intOf i).toNat)
          case atStart => exact ⟨0, 0, by omega, rfl, rfl, Lib.hid (fun j t hj => absurd hj (Nat.not_lt_zero _))⟩
          case round =>
            obtain ⟨m, mq, hm, rfl, rfl, HM⟩ := hrel
            by_cases hmt : m < o.length
            · have g1 : decide ((m : Int) < (o.length : Int)) = true := decide_eq_true (by omega)
              obtain ⟨bo, oo, t, rfl, hBo, hco, hvo⟩ := HO.out.at_ hmt
              have et : o[m]? = some t := by rw [← hvo.out, List.getElem?_eq_getElem hmt]; rfl
              have y1 : (0 : Int) ≤ (m : Int) := by omega
              have y2 : (m : Int) < (o.length : Int) := by omega
              by_cases ht : 0 ≤ t ∧ t < (L.length : Int)
              · have q1 : decide (0 ≤ t ∧ t < (L.length : Int)) = true := decide_eq_true ht
                have HP1 := Lib.hid (fun W => HPP.out t W)
                rw [q1] at HP1
                have HN : Hid (∀ (j : Nat) (t : Int), j < m + 1 → o[j]? = some t → 0 ≤ t ∧ t < (L.length : Int)) := fun j u hj hu => by
                  rcases Nat.lt_or_ge j m with h | h
                  · exact HM.out j u h hu
                  · obtain rfl : j = m := by omega
                    rw [et] at hu
                    simp only [Option.some.injEq] at hu
                    rw [← hu]; exact ht
                clear ht et hvo q1
                go_wp2_with (go_at_call 134; refine (HP1.out _).mono ?_; rintro e w' ⟨rfl, rfl⟩)
                exact ⟨⟨m + 1, mq, by omega, by go_num, rfl, HN⟩, by simp [intOf]; omega⟩
              · have HF := Lib.hid (holds_bad (G := pns L) (s := s) (by rw [HL.out]; exact hlt) (by rw [EO.out]; exact et) (by rw [HL.out]; exact ht))
                have q1 : decide (0 ≤ t ∧ t < (L.length : Int)) = false := decide_eq_false ht
                have HP1 := Lib.hid (fun W => HPP.out t W)
                rw [q1] at HP1
                clear ht et hvo q1
                go_wp2_with (go_at_call 134; refine (HP1.out _).mono ?_; rintro e w' ⟨rfl, rfl⟩)
                go_ret
                exact ⟨retb HF.out.symm, below_drewN HB2.out _⟩
            · obtain rfl : m = o.length := by omega
              have g1 : decide ((o.length : Int) < (o.length : Int)) = false := decide_eq_false (by omega)
              have HN : Hid (∀ (j : Nat), j < k + 1 → ∀ (m : Nat) (t : Int), (outAt (pns L) j)[m]? = some t → 0 ≤ t ∧ t < (L.length : Int)) := fun j hj m t ht => by
                rcases Nat.lt_or_ge j k with h | h
                · exact HK.out j h m t ht
                · obtain rfl : j = k := by omega
                  rw [EO.out] at ht
                  exact HM.out m t (List.getElem?_eq_some_iff.1 ht).1 ht
              have HB3 := Lib.hid (below_drewN HB2.out mq)
              go_wp2
              go_roundw
              case rel => exact ⟨k + 1, by omega, by go_num, HB3, HN⟩
              case measure => simp [intOf]; omega
        · obtain rfl : k = L.length := by omega
          have e1 : decide ((L.length : Int) < (L.length : Int)) = false := decide_eq_false (by omega)
          have HF := Lib.hid (holds_ok (G := pns L) (s := s) (by rw [HL.out]; exact HP.out) (fun i hi m t ht => by rw [HL.out] at hi ⊢; exact HK.out i hi m t ht))
          go_wp2
          go_ret
          exact ⟨retb HF.out.symm, HB.out⟩
  · have HF : Hid (holdsB (pns L) s = false) := Lib.hid (decide_eq_false (fun q => hP (by have h1 := q.1; have h2 := q.2.1; have h3 := q.2.2.1; rw [HL.out] at h1 h3; exact ⟨h1, h2, h3⟩)))
    have HIP := Lib.hid (fun (W : World) => isPlace_any s (if (L.length : Int) < 1 then 1 else (L.length : Int)) W)
    by_cases hc : 2048 < L.length
    · have f1 : decide ((2048 : Int) < (L.length : Int)) = true := decide_eq_true (by omega)
      have f1n : decide (2048 < L.length) = true := decide_eq_true (by omega)
      go_enter Tryz.func118, Tryz.ntmps118
      go_wp2
      go_ret
      exact ⟨retb HF.out.symm, HB0.out⟩
    · have f1 : decide ((2048 : Int) < (L.length : Int)) = false := decide_eq_false (by omega)
      have f1n : decide (2048 < L.length) = false := decide_eq_false (by omega)
      have e0 : decide (0 ≤ s ∧ s < (if (L.length : Int) < 1 then 1 else (L.length : Int))) = false := decide_eq_false (by split <;> omega)
      rw [e0] at HIP
      clear e0 hP
      go_enter Tryz.func118, Tryz.ntmps118
      go_wp2_with (go_at_call 134; refine (HIP.out _).mono ?_; rintro e w' ⟨rfl, rfl⟩)
      all_goals
        go_ret
        exact ⟨retb HF.out.symm, HB0.out⟩
end Go.Proofs.YtkmngbkghgelfaaGreat
