/- The walks of the document's Setup, Find, unlike (layer 9). -/
import Derived.Test.YtjdidlbmgnfcdabKb
import Derived.Test.YtjdidlbmgnfcdabKc
namespace Go.Proofs.Ytjdidlbmgnfcdab
open Go.RowKit
set_option linter.unusedVariables false
/-- A setup that may be. -/
def setupB (d g b n m : Int) : Bool := decide (1 ≤ d ∧ d ≤ 64 ∧ 1 ≤ g ∧ g ≤ 32 ∧ 1 ≤ b ∧ b ≤ 256 ∧ 1 ≤ n ∧ n ≤ 1000 ∧ 1 ≤ m ∧ m ≤ 1000 ∧ m ≤ n)
/-- The place of the first node with that number. -/
def findI (G : List Pn) (id : Int) : Int := match G.findIdx? (fun x => x.1 == id) with
  | some k => (k : Int)
  | none => -1
theorem findI_at {G : List Pn} {id : Int} {k : Nat} (hk : k < G.length) (h : (nAt G k).1 = id) (hb : ∀ j, j < k → (nAt G j).1 ≠ id) : findI G id = k := by
  have e : G.findIdx? (fun x => x.1 == id) = some k := by
    rw [List.findIdx?_eq_some_iff_getElem]
    refine ⟨hk, ?_, fun j hj => ?_⟩
    · have : nAt G k = G[k] := nAt_get (List.getElem?_eq_getElem hk)
      rw [this] at h
      simpa using h
    · have : nAt G j = G[j]'(by omega) := nAt_get (List.getElem?_eq_getElem (by omega))
      have := hb j hj
      simp_all
  unfold findI
  rw [e]
theorem findI_none {G : List Pn} {id : Int} (h : ∀ j, j < G.length → (nAt G j).1 ≠ id) : findI G id = -1 := by
  have e : G.findIdx? (fun x => x.1 == id) = none := by
    rw [List.findIdx?_eq_none_iff]
    intro x hx
    obtain ⟨j, hj, rfl⟩ := List.getElem_of_mem hx
    have := h j hj
    rw [nAt_get (List.getElem?_eq_getElem hj)] at this
    simpa using this
  unfold findI
  rw [e]
theorem findI_lt (G : List Pn) (id : Int) : -1 ≤ findI G id ∧ findI G id < (G.length : Int) := by
  unfold findI
  split
  · rename_i k hk
    rw [List.findIdx?_eq_some_iff_getElem] at hk
    obtain ⟨h, _⟩ := hk
    omega
  · omega
/-- Neighbours that are unlike, and others than the node itself. -/
def unlikeB (out : List Int) (at_ : Int) : Bool := decide ((∀ t ∈ out, t ≠ at_) ∧ out.Nodup)
theorem unlikeB_no1 {out : List Int} {a t : Int} {k : Nat} (h : out[k]? = some t) (he : t = a) : unlikeB out a = false := decide_eq_false (fun q => q.1 t (List.mem_of_getElem? h) he)
theorem unlikeB_no2 {out : List Int} {a t : Int} {j k : Nat} (h1 : out[j]? = some t) (h2 : out[k]? = some t) (hj : j < k) : unlikeB out a = false := decide_eq_false (fun q => by
  have hk : k < out.length := (List.getElem?_eq_some_iff.1 h2).1
  have hjl : j < out.length := by omega
  have := (List.pairwise_iff_getElem.1 q.2) j k hjl hk hj
  rw [List.getElem?_eq_getElem hjl] at h1
  rw [List.getElem?_eq_getElem hk] at h2
  simp only [Option.some.injEq] at h1 h2
  exact this (h1.trans h2.symm))
theorem unlikeB_yes {out : List Int} {a : Int} (h : ∀ (k : Nat) (t : Int), out[k]? = some t → t ≠ a ∧ ∀ (j : Nat) (u : Int), j < k → out[j]? = some u → u ≠ t) : unlikeB out a = true := decide_eq_true ⟨fun t ht => by
  obtain ⟨k, hk, rfl⟩ := List.getElem_of_mem ht
  exact (h k _ (List.getElem?_eq_getElem hk)).1, List.pairwise_iff_getElem.2 (fun i j hi hj hij => (h j _ (List.getElem?_eq_getElem hj)).2 i _ hij (List.getElem?_eq_getElem hi))⟩
end Go.Proofs.Ytjdidlbmgnfcdab
