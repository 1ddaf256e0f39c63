/- Pruning: what is told of what is kept. -/
import Derived.Test.YtjdidlbmgnfcdaaIa
import Derived.Test.YtjdidlbmgnfcdaaUi
namespace Go.Proofs.Ytjdidlbmgnfcdaa
open Go.RowKit
set_option linter.unusedVariables false
set_option linter.unusedSimpArgs false
/-- What the laws ask of what is kept. -/
structure Told (G : List Pn) (n m : Int) (deg a : Nat) (P : List Int) (R : List Nat) : Prop where
  sub : ∀ x ∈ R, x < G.length ∧ x ≠ a ∧ (x : Int) ∈ P
  rise : R.Pairwise (fun i j => ltP G a i j = true)
  few : R.length ≤ deg
  free : R.Pairwise (fun k q => ndP G n m a k q = false)
  gone : ∀ q : Nat, (q : Int) ∈ P → q ≠ a → q ∈ R ∨ (∃ k ∈ R, ltP G a k q = true ∧ ndP G n m a k q = true) ∨ (R.length = deg ∧ ∀ k ∈ R, ltP G a k q = true)
theorem spK_mem {P : List Int} {a n : Nat} (h : ∀ p ∈ P, 0 ≤ p ∧ p < (n : Int)) (x : Nat) : x ∈ spK P a P.length ↔ (x : Int) ∈ P ∧ x ≠ a := by
  unfold spK
  rw [List.take_length]
  constructor
  · intro hx
    obtain ⟨p, hp, rfl⟩ := List.mem_map.1 hx
    have h1 := List.mem_filter.1 hp
    have h2 := h p h1.1
    have h3 : p ≠ (a : Int) := by simpa using h1.2
    exact ⟨by rw [Int.toNat_of_nonneg h2.1]; exact h1.1, by omega⟩
  · rintro ⟨hx, hne⟩
    exact List.mem_map.2 ⟨(x : Int), List.mem_filter.2 ⟨hx, by simp; omega⟩, by simp⟩
theorem keepL_told {G : List Pn} {dm : Nat} (hP : PG G dm) {n m deg : Int} {a : Nat} {P : List Int} (hR : ∀ p ∈ P, 0 ≤ p ∧ p < (G.length : Int)) : Told G n m deg.toNat a P (keepL G n m deg a P) := by
  have O := ordP hP a
  have h1 := spK_lt (a := a) (k := P.length) hR
  have K := grd_told0 (need := ndP G n m a) (deg := deg.toNat) (srtU_rise O _ h1)
  have hm := fun q => (srtU_mem O _ h1 q).trans (spK_mem hR q)
  refine ⟨fun x hx => ?_, K.rise, K.few, K.free, fun q hq hne => K.gone q ((hm q).2 ⟨hq, hne⟩)⟩
  have := (hm x).1 (K.sub x hx)
  exact ⟨h1 x ((spK_mem hR x).2 this), this.2, this.1⟩
theorem Told.at_ {G : List Pn} {n m : Int} {deg a : Nat} {P : List Int} {R : List Nat} (h : Told G n m deg a P R) {i j : Nat} (hij : i < j) (hj : j < R.length) : ltP G a (R[i]'(by omega)) R[j] = true ∧ ndP G n m a (R[i]'(by omega)) R[j] = false := ⟨List.pairwise_iff_getElem.1 h.rise i j (by omega) hj hij, List.pairwise_iff_getElem.1 h.free i j (by omega) hj hij⟩
theorem Told.new {G : List Pn} {n m : Int} {deg a : Nat} {P : List Int} {R : List Nat} (h : Told G n m deg a P R) {i : Nat} (hi : i < R.length) : ((R[i] : Nat) : Int) ∉ (natI R).take i := fun hm => by
  obtain ⟨j, hj, he⟩ := List.getElem_of_mem hm
  have hj' : j < i := by rw [List.length_take] at hj; omega
  have h1 := (h.at_ hj' hi).1
  have e : R[j]'(by omega) = R[i] := by
    have : (natI R)[j]'(by rw [natI_len]; omega) = (natI R)[i]'(by rw [natI_len]; omega) := by
      rw [List.getElem_take] at he
      rw [he]; simp [natI]
    simp [natI] at this; omega
  rw [e] at h1
  have := ltQ_irr (kQ G a R[i])
  unfold ltP at h1
  rw [this] at h1; cases h1
theorem natI_at {R : List Nat} {i : Nat} (hi : i < R.length) : (natI R)[i]?.getD 0 = ((R[i] : Nat) : Int) := by
  unfold natI
  rw [List.getElem?_map, List.getElem?_eq_getElem hi]; rfl
theorem natI_mem {R : List Nat} {x : Nat} : (x : Int) ∈ natI R ↔ x ∈ R := by
  unfold natI
  constructor
  · intro h
    obtain ⟨y, hy, he⟩ := List.mem_map.1 h
    have : y = x := by omega
    rw [← this]; exact hy
  · exact fun h => List.mem_map.2 ⟨x, h, rfl⟩
/-- How many stand ahead of a place, and whether one of them makes it needless. -/
def aheadN (G : List Pn) (a p : Nat) (R : List Nat) : Nat := (R.filter fun k => ltP G a k p).length
def aheadB (G : List Pn) (n m : Int) (a p : Nat) (R : List Nat) : Bool := R.any fun k => ltP G a k p && ndP G n m a k p
theorem aheadN_snoc (G : List Pn) (a p : Nat) (R : List Nat) (k : Nat) : aheadN G a p (R ++ [k]) = aheadN G a p R + (if ltP G a k p then 1 else 0) := by
  unfold aheadN; rw [List.filter_append, List.length_append]
  cases h : ltP G a k p <;> simp [h]
theorem aheadB_snoc (G : List Pn) (n m : Int) (a p : Nat) (R : List Nat) (k : Nat) : aheadB G n m a p (R ++ [k]) = (aheadB G n m a p R || (ltP G a k p && ndP G n m a k p)) := by
  unfold aheadB; simp
theorem take_snoc {R : List Nat} {i : Nat} (hi : i < R.length) : R.take (i + 1) = R.take i ++ [R[i]] := by
  rw [List.take_add_one, List.getElem?_eq_getElem hi]; rfl
theorem Told.end_ {G : List Pn} {n m : Int} {deg a : Nat} {P : List Int} {R : List Nat} (h : Told G n m deg a P R) {q : Nat} (hq : (q : Int) ∈ P) (hne : q ≠ a) (hno : q ∉ R) : aheadB G n m a q R = true ∨ aheadN G a q R = deg := by
  rcases h.gone q hq hne with h1 | ⟨k, hk, h1, h2⟩ | ⟨h1, h2⟩
  · exact absurd h1 hno
  · exact .inl (List.any_eq_true.2 ⟨k, hk, by rw [h1, h2]; rfl⟩)
  · right
    unfold aheadN
    rw [List.filter_eq_self.2 (fun k hk => h2 k hk), h1]
theorem own_roomU {w : World} {base c n : Nat} {e : TypeId} {A : Option Addr} {xs : List Value} (h : w.ownsRow base e 1 (.slice A n c) n xs) : n ≤ c := by
  rcases h.2 with ⟨h0, h1⟩ | ⟨g, cap, cur, e, _, _, hc, _⟩
  · omega
  · injection e with e1 e2 e3; omega
/-- Keep's answer, where it has one. -/
theorem keepYes {w w' : World} {G : List Pn} {s d deg b n m : Int} {a : Nat} {P : List Int} {e : Ending} {R : List Nat} (h : IAns w (keepA G s d deg b n m (a : Int) P) (errG (keepB G s d deg b n m (a : Int) P)) e w') (hk : keepB G s d deg b n m (a : Int) P = true) (hR : keepL G n m deg a P = R) :
    ∃ V c, e = .returned (.tuple #[.slice V R.length c, .int .i64 0]) ∧ w'.ownsRow w.heap.size 3 1 (.slice V R.length c) R.length ((natI R).map (Value.int .i64)) ∧ Below w.heap.size w w' := by
  have e1 : keepA G s d deg b n m (a : Int) P = natI R := by unfold keepA; rw [hk, ← hR]; rfl
  rw [hk, e1] at h
  obtain ⟨V, c, h1, h2, h3⟩ := h
  rw [natI_len] at h1 h2
  exact ⟨V, c, h1, h2, h3⟩
theorem keepNo {w w' : World} {G : List Pn} {s d deg b n m at_ : Int} {P : List Int} {e : Ending} (h : IAns w (keepA G s d deg b n m at_ P) (errG (keepB G s d deg b n m at_ P)) e w') (hk : keepB G s d deg b n m at_ P = false) :
    ∃ V c, e = .returned (.tuple #[.slice V 0 c, .int .i64 1]) ∧ Below w.heap.size w w' := by
  have e1 : keepA G s d deg b n m at_ P = [] := by unfold keepA; rw [hk]; rfl
  rw [hk, e1] at h
  obtain ⟨V, c, h1, h2, h3⟩ := h
  exact ⟨V, c, h1, h3⟩
theorem all2Q (n : Nat) (x y : Int) : [x, y].all (inG n) = (inG n x && inG n y) := by simp
structure Asked (G : List Pn) (s d deg b n m at_ : Int) (P : List Int) : Prop where
  pg : PG G d.toNat
  at0 : 0 ≤ at_ ∧ at_ < (G.length : Int)
  all : ∀ p ∈ P, 0 ≤ p ∧ p < (G.length : Int)
  num : 1 ≤ n ∧ n ≤ 1000
  den : 1 ≤ m ∧ m ≤ n
  dg : 1 ≤ deg ∧ deg ≤ 32
  chk : checkB G s d deg b n m = true
theorem keepB_yes {G : List Pn} {s d deg b n m at_ : Int} {P : List Int} (ok : ∀ x ∈ G, PnOk x) (h : keepB G s d deg b n m at_ P = true) : Asked G s d deg b n m at_ P := by
  unfold keepB at h
  simp only [Bool.and_eq_true] at h
  obtain ⟨hc, hat, hpo⟩ := askB_yes h.2
  have hs : setupB d deg b n m = true := by unfold checkB at hc; simp only [Bool.and_eq_true] at hc; exact hc.1
  have hs2 := of_decide_eq_true hs
  exact ⟨PG_of hc ok, hat, hpo, by omega, by omega, by omega, hc⟩
theorem Asked.dom {G : List Pn} {s d deg b n m : Int} {a : Nat} {P : List Int} (h : Asked G s d deg b n m (a : Int) P) {x y : Nat} (hx : x < G.length) (hy : y < G.length) : askB G s d deg b n m (a : Int) [(x : Int), (y : Int)] = true ∧ domB G s d deg b n m (a : Int) (x : Int) (y : Int) = ndP G n m a x y := by
  have h1 : askB G s d deg b n m (a : Int) [(x : Int), (y : Int)] = true := by
    unfold askB
    rw [h.chk, show inG G.length (a : Int) = true from decide_eq_true h.at0, all2Q, show inG G.length (x : Int) = true from decide_eq_true (by omega), show inG G.length (y : Int) = true from decide_eq_true (by omega)]
    rfl
  exact ⟨h1, by unfold domB; rw [h1]; simp [ndP]⟩
end Go.Proofs.Ytjdidlbmgnfcdaa
