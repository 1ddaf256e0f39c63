/- The walk of the document's Nearest (layer 7). -/
import Derived.Test.YthbimjkcpmffcaaGreatNq
namespace Go.Proofs.YthbimjkcpmffcaaGreat
open Go.RowKit
set_option linter.unusedVariables false
set_option maxRecDepth 100000 in
set_option maxHeartbeats 1000000 in
theorem refNear_any (A : Option Addr) (c : Nat) (L : List Vc) (B : Option Addr) (d : Nat) (v : List Int) (w : World) (hx : VArg w A L) (hy : NArg w B v) :
    Calls Tryz.prog 34 #[.slice A L.length c, .slice B v.length d] w fun e w' => e = .returned (.tuple #[.int .i64 (nearA (vecs L) v), .int .i64 (errE (mayM (vecs L) [v]))]) ∧ Below w.heap.size w w' := by
  have hBa : Below w.heap.size w (w.alloc (.cells #[.slice B v.length d] 25)) := below_one (Below.refl _ _) _
  have MA := Lib.hid (may_any A c L _ rfl (some ⟨w.heap.size, 0, none⟩) 1 [(B, d, v)] 1 rfl (w.alloc (.cells #[.slice B v.length d] 25)) (w.heap.size + 1) ((hx.rd.below hBa).more (by omega)) (one_rd 25 hy.rd) (by have := hx.len; omega) (by simp))
  have hv1 : vecs [(B, d, v)] = [v] := rfl
  rw [hv1] at MA
  have HX := Lib.hid hx
  have HY := Lib.hid hy
  have HBA := Lib.hid hBa
  cases hm : mayM (vecs L) [v] with
  | false =>
    have E : nearA (vecs L) v = 0 := by unfold nearA; rw [hm]; rfl
    rw [E]
    rw [hm] at MA
    clear hm E hx hy hBa
    go_enter Tryz.func34, Tryz.ntmps34
    go_wp2_with fail
    refine MA.out.mono ?_
    rintro e w' ⟨rfl, nq, rfl⟩
    go_wp2
    go_ret2
    exact ⟨rfl, below_drewN HBA.out nq⟩
  | true =>
    have E : nearA (vecs L) v = ((nearestI (vecs L) v : Nat) : Int) := by unfold nearA; rw [hm]; rfl
    have h1 := mayM_yes hm
    have h2 := mayB_yes h1.2.1
    have hlv : v.length = dimOf (vecs L) := h1.2.2.2 0 (by simp)
    have NE := Lib.hid (fun q => nearest_any A c L _ rfl B d v _ rfl ((w.alloc (.cells #[.slice B v.length d] 25)).drewN q) w.heap.size (hx.rd.below (below_drewN hBa q)) (hy.rd.below (below_drewN hBa q)) (by have := h2.1; rw [vecs_len] at this; exact this) (by have := h2.2.1; rw [vecs_len] at this; exact this) (by rw [hlv]; exact h2.2.2.2.1) (fun u hu => by rw [hlv]; exact mayB_len h1.2.1 u hu) hx.b8 hy.b8)
    rw [E]
    rw [hm] at MA
    clear hm E hx hy hBa h1 h2 hlv
    go_enter Tryz.func34, Tryz.ntmps34
    go_wp2_with fail
    refine MA.out.mono ?_
    rintro e w' ⟨rfl, nq, rfl⟩
    go_wp2_with fail
    refine (NE.out nq).mono ?_
    rintro e w' ⟨rfl, nq2, rfl⟩
    go_wp2
    go_ret2
    exact ⟨rfl, below_drewN HBA.out (nq + nq2)⟩
end Go.Proofs.YthbimjkcpmffcaaGreat
