/- Pruning: which places are kept (mathematics of the answer). -/
import Derived.Test.YtfokejlancmahaaGreatUg
import Derived.Test.YtfokejlancmahaaGreatUa
namespace Go.Proofs.YtfokejlancmahaaGreat
open Go.RowKit
set_option linter.unusedVariables false
set_option linter.unusedSimpArgs false
theorem farL_self : ∀ (v : List Int), farL (v.zip v) = 0
  | [] => rfl
  | x :: v => by
    have ih := farL_self v
    unfold farL at *
    simp only [List.zip_cons_cons, List.map_cons, List.sum_cons]
    rw [ih, Int.sub_self]; rfl
theorem farL_comm : ∀ (u v : List Int), farL (u.zip v) = farL (v.zip u)
  | [], v => by simp [farL]
  | _ :: _, [] => by simp [farL]
  | x :: u, y :: v => by
    have ih := farL_comm u v
    unfold farL at *
    simp only [List.zip_cons_cons, List.map_cons, List.sum_cons]
    rw [ih]
    have : (x - y) * (x - y) = (y - x) * (y - x) := by rw [← Int.neg_sub y x, Int.neg_mul_neg]
    rw [this]
theorem fI_self (G : List Pn) (i : Nat) : fI G i i = 0 := farL_self _
theorem fI_comm (G : List Pn) (i j : Nat) : fI G i j = fI G j i := farL_comm _ _
/-- Does one place make another one needless? -/
def ndP (G : List Pn) (n m : Int) (a k q : Nat) : Bool := ndB n m (fI G k q) (fI G q a)
theorem ndP_self {G : List Pn} {d : Nat} (hP : PG G d) {n m : Int} (hm : 1 ≤ m) {a p : Nat} (ha : a < G.length) (hp : p < G.length) : ndP G n m a p p = true := by
  unfold ndP ndB
  rw [fI_self]
  have := fI_bd hP hp ha
  exact decide_eq_true (by rw [Int.mul_zero]; exact Int.mul_nonneg (by omega) this.1)
theorem pdQ_eq {G : List Pn} {n m : Int} {a k x : Nat} (hk : k < G.length) (hx : x < G.length) : pdQ G a n m k x = ndP G n m a k x := by
  unfold pdQ ndP kQ
  rw [clQ_id hk, clQ_id hx]
/-- Which places are kept. -/
def keepL (G : List Pn) (n m deg : Int) (a : Nat) (P : List Int) : List Nat := grd (ndP G n m a) deg.toNat [] (srtU (ltP G a) (spK P a P.length))
theorem spK_lt {P : List Int} {a k n : Nat} (h : ∀ p ∈ P, 0 ≤ p ∧ p < (n : Int)) : ∀ x ∈ spK P a k, x < n := fun x hx => by
  unfold spK at hx
  obtain ⟨p, hp, rfl⟩ := List.mem_map.1 hx
  have := h p (List.mem_of_mem_take (List.mem_filter.1 hp).1)
  omega
theorem keepL_of {G : List Pn} {d : Nat} (hP : PG G d) {n m deg : Int} (hm : 1 ≤ m) {a : Nat} (ha : a < G.length) {P : List Int} (hR : ∀ p ∈ P, 0 ≤ p ∧ p < (G.length : Int)) {S : List Nat} (hp : S.Perm (spK P a P.length)) (hw : Weak (ltP G a) S) :
    KeptP (ndP G n m a) deg.toNat (keepL G n m deg a P) [] S where
  goes := by
    have O := ordP hP a
    have h1 := spK_lt (a := a) (k := P.length) hR
    have h2 : ∀ q ∈ S, q < G.length := fun q hq => h1 q (hp.mem_iff.1 hq)
    unfold keepL
    rw [grd_uniq O (fun p hpl => ndP_self hP hm ha hpl) S [] h2 hw]
    congr 1
    refine rise_ext O _ _ (srtU_rise O _ h1) (srtU_rise O _ h2) fun q => ?_
    rw [srtU_mem O _ h1, srtU_mem O _ h2]
    exact hp.mem_iff.symm
  free q _ k hk := by cases hk
  room := Nat.zero_le _
/-- May it be asked, and not of too many places? -/
def keepB (G : List Pn) (s d deg b n m at_ : Int) (P : List Int) : Bool := decide (P.length ≤ 2048) && askB G s d deg b n m at_ P
def keepA (G : List Pn) (s d deg b n m at_ : Int) (P : List Int) : List Int := if keepB G s d deg b n m at_ P then (keepL G n m deg at_.toNat P).map (fun (x : Nat) => (x : Int)) else []
end Go.Proofs.YtfokejlancmahaaGreat
