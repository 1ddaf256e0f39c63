/- The walk of the statement VecOrder. -/
import Derived.Test.YtkmngbkghgelfaaVq
import Derived.Test.YtkmngbkghgelfaaVj
import Derived.Deep.AppendLies
import Derived.Deep.RegionHeld3
namespace Go.Proofs.Ytkmngbkghgelfaa
open Go.RowKit Go.Shelf
set_option linter.unusedVariables false
/-- Hits in order. -/
def srt (xs : List (Int × Int)) : List (Int × Int) := srtH xs.toArray
theorem leH_trans (a b c : Int × Int) (h1 : (!ltH b a) = true) (h2 : (!ltH c b) = true) : (!ltH c a) = true := by
  unfold ltH at *; simp at *; omega
theorem leH_total (a b : Int × Int) : (!ltH b a || !ltH a b) = true := by
  unfold ltH; simp; omega
theorem srt_pw (xs : List (Int × Int)) : List.Pairwise (fun a b => (!ltH b a) = true) (srt xs) := List.pairwise_mergeSort leH_trans leH_total xs
theorem srt_perm (xs : List (Int × Int)) : (srt xs).Perm xs := List.mergeSort_perm xs _
theorem srt_len (xs : List (Int × Int)) : (srt xs).length = xs.length := (srt_perm xs).length_eq
theorem srt_of_perm {xs ys : List (Int × Int)} (h : xs.Perm ys) : srt xs = srt ys :=
  List.Perm.eq_of_pairwise (fun a b _ _ h1 h2 => sepH a b (by simpa using h2) (by simpa using h1)) (srt_pw xs) (srt_pw ys) (((srt_perm xs).trans h).trans (srt_perm ys).symm)
theorem srt_srt (xs : List (Int × Int)) : srt (srt xs) = srt xs := List.mergeSort_of_pairwise (srt_pw xs)
theorem srt_rev (xs : List (Int × Int)) : srt xs.reverse = srt xs := srt_of_perm (List.reverse_perm xs)
theorem srt_count (xs : List (Int × Int)) (x : Int × Int) : (srt xs).count x = xs.count x := (srt_perm xs).count_eq x
theorem srt_step {xs : List (Int × Int)} {i : Nat} {x y : Int × Int} (h1 : (srt xs)[i]? = some x) (h2 : (srt xs)[i + 1]? = some y) : ltH y x = false := by
  have hp := srt_pw xs
  rw [List.pairwise_iff_getElem] at hp
  have k1 := (List.getElem?_eq_some_iff.1 h1)
  have k2 := (List.getElem?_eq_some_iff.1 h2)
  obtain ⟨l1, rfl⟩ := k1
  obtain ⟨l2, rfl⟩ := k2
  have := hp i (i + 1) l1 l2 (by omega)
  simpa using this
theorem rdH_whole {w : World} {g : Nat} {e : TypeId} {xs : List (Int × Int)} (h : Whole w g e (flatH xs).toArray) : RdH w w.heap.size (some ⟨g, 0, none⟩) xs := fun hl => by
  refine ⟨g, 0, rfl, h.lt, fun t ht => ?_⟩
  rw [Nat.zero_add, h.cell t, List.getElem?_toArray]
theorem rev_take {xs : List (Int × Int)} {k : Nat} {x : Int × Int} (h : xs[xs.length - 1 - k]? = some x) (hk : k < xs.length) : xs.reverse.take (k + 1) = xs.reverse.take k ++ [x] := by
  rw [List.take_succ_eq_append_getElem (by simpa using hk)]
  congr 1
  rw [List.getElem_reverse]
  rw [List.getElem?_eq_getElem (by omega)] at h
  simp only [Option.some.injEq] at h
  rw [h]
theorem own_sliceH {w : World} {base n : Nat} {e : TypeId} {v : Value} {ys : List (Int × Int)} (h : w.ownsRow base e 2 v n (flatH ys)) : ∃ A c, v = .slice A n c ∧ n = ys.length ∧ RdH w w.heap.size A ys := by
  have hn : n = ys.length := by have := h.1; rw [flatH_len] at this; omega
  have h' := h
  rcases h.2 with ⟨rfl, h0⟩ | ⟨g, cap, cur, rfl, _⟩
  · exact ⟨none, 0, by rw [h0], hn, fun hp => by omega⟩
  · exact ⟨some ⟨g, 0, none⟩, cap, rfl, hn, rdH_own h'⟩
theorem sortAs (A : Option Addr) (c : Nat) (ys zs : List (Int × Int)) (n : Nat) (hn : n = ys.length) (he : srt ys = zs) (w : World) (hx : RdH w w.heap.size A ys) (hl : ys.length ≤ 8796093022208) :
    Calls Try.prog 36 #[.slice A n c] w fun e w' => ∃ g, e = .returned (.slice (some ⟨g, 0, none⟩) n n) ∧ Whole w' g 46 (flatH zs).toArray ∧ Below w.heap.size w w' := by
  refine (sort_any A c ys n hn w hx hl).mono fun e w' h => ?_
  obtain ⟨g, h1, h2, h3, h4⟩ := h
  refine ⟨g, h1, ?_, h4⟩
  rw [← he]; exact h2
theorem sameTrue (A B : Option Addr) (c d : Nat) (zs : List (Int × Int)) (n : Nat) (hn : n = zs.length) (w : World) (D : Nat) (hx : RdH w D A zs) (hy : RdH w D B zs) (hl : zs.length ≤ 140737488355328) :
    Calls Try.prog 11 #[.slice A n c, .slice B n d] w fun e w' => e = .returned (.bool true) ∧ ∃ nq, w' = w.drewN nq := by
  subst hn
  have := sameHits_any A B c d zs zs w D hx hy hl hl
  rwa [show eqHB zs zs = true by simp [eqHB]] at this
theorem grow2 (w : World) (o1 o2 : Obj) : ∃ os, (w.alloc o1).alloc o2 = Sort.grow (w.drewN 0) os := ⟨_, by rw [Sort.alloc_eq_grow, Sort.alloc_eq_grow, Sort.grow_grow]; rfl⟩
theorem below_grow (w : World) (n : Nat) (os : Array Obj) : Below w.heap.size w (Sort.grow (w.drewN n) os) :=
  ⟨rfl, rfl, rfl, by rw [Sort.size_grow]; show w.heap.size ≤ w.heap.size + _; omega, fun k hk => by rw [Sort.heap_grow_old _ _ (show k < (w.drewN n).heap.size from hk)]; rfl⟩
theorem takeH {xs : List (Int × Int)} {k : Nat} {x y : Int} (h : xs[k]? = some (x, y)) : flatH (xs.take k) ++ [.int .u64 x, .int .i64 y] = flatH (xs.take (k + 1)) := by
  have hk := (List.getElem?_eq_some_iff.1 h).1
  rw [List.take_succ_eq_append_getElem hk, flatH_app]
  rw [List.getElem?_eq_getElem hk] at h
  simp only [Option.some.injEq] at h
  rw [h]; rfl
end Go.Proofs.Ytkmngbkghgelfaa
