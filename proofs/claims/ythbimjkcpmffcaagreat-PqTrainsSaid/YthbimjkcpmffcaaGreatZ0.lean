/- Books of codes and tables in ranges that do not meet; a book's end. -/
import Derived.Test.YthbimjkcpmffcaaGreatPg
import Derived.Test.YthbimjkcpmffcaaGreatQc
import Derived.Test.YthbimjkcpmffcaaGreatPk
namespace Go.Proofs.YthbimjkcpmffcaaGreat
open Go.RowKit
set_option linter.unusedVariables false
theorem own_cap {w : World} {base n c : Nat} {e : TypeId} {A : Option Addr} {k : IntKind} {xs : List Int} (h : w.ownsRow base e 1 (.slice A n c) xs.length (xs.map (Value.int k))) : n = xs.length ∧ xs.length ≤ c ∧ Rd k w w.heap.size A xs := by
  obtain ⟨A', c', hv, h1, h2, hrd, _⟩ := own_slice h
  injection hv with q1 q2 q3
  exact ⟨q2, by rw [q3]; exact h2, by rw [q1]; exact hrd⟩
theorem whole_row {w : World} {g base n cap : Nat} {t : TypeId} {cs : Array Value} (h : Whole w g t cs) (hc : cs.size = cap) (hn : n ≤ cap) (hm : cap ≤ 9223372036854775807) (hb : base ≤ g) : w.ownsRow base t 1 (.slice (some ⟨g, 0, none⟩) n cap) n (cs.toList.take n) := by
  refine ⟨?_, .inr ⟨g, cap, cs, rfl, hb, h, hn, hm, by rw [hc, Nat.mul_one], by rw [Nat.mul_one]⟩⟩
  rw [List.length_take, Nat.mul_one, Array.length_toList, hc]
  omega
theorem cntP_size : ∀ (L : List Pc), cntP L ≤ sizeP (words L)
  | [] => by simp [cntP]
  | x :: L => by
    have h1 := cntP_size L
    have h2 := sizeL_len (vecs x.2.2)
    rw [vecs_len] at h2
    unfold cntP sizeP words at *
    simp only [List.map_cons, List.sum_cons, List.length_cons, List.length_map] at *
    omega
/-- A twin of a book's words lies in its range. -/
theorem TwinP.inP {w : World} {lo g base : Nat} {T : List Pc} (h : TwinP w lo g 2 T) (hg : lo ≤ g) (hb : base ≤ lo) (hs : sizeP (words T) ≤ 20000) : InP w base lo w.heap.size (some ⟨g, 0, none⟩) (T.length + 2) T := by
  have hsm : PSmall T := hs
  have hl := hsm.len
  have hx2 : ∀ x ∈ T, x.2.2.length ≤ 20000 ∧ ∀ v ∈ x.2.2, v.2.2.length ≤ 20000 := fun x hx => by
    have h1 := hsm.at_ hx
    refine ⟨h1.len, fun v hv => h1.vec (List.mem_map_of_mem hv)⟩
  refine ⟨?_, fun x hx => ?_, fun x hx v hv => ?_, fun x hx => ⟨(hx2 x hx).1, fun v hv => by have := (hx2 x hx).2 v hv; omega⟩, h.apart, fun b hbb => ?_, fun x hx b hbb => ?_, fun x hx v hv b hbb => ?_⟩
  · have := whole_row (n := T.length) (base := base) h.row (cap := T.length + 2) (by rw [cellsR_size]) (by omega) (by omega) (by omega)
    have e : (cellsR T 2).toList.take T.length = cellsP T := by unfold cellsR; rw [List.take_left' (cellsP_len T)]
    rw [e] at this
    exact this
  · obtain ⟨h1, b, h2, h3, h4⟩ := h.twin x hx
    have h5 := (hx2 x hx).1
    have := whole_row (n := x.2.2.length) (base := base) h4.row (cap := x.2.2.length + 2) (by unfold cellsT; simp [cellsV]) (by omega) (by omega) (by omega)
    have e : (cellsT x.2.2 2).toList.take x.2.2.length = cellsV x.2.2 := by unfold cellsT; rw [List.take_left' (by simp [cellsV])]
    rw [e] at this
    rw [h1, h2]
    exact this
  · obtain ⟨h1, b, h2, h3, h4⟩ := h.twin x hx
    exact ⟨_, own_base (h4.twin v hv).own hb⟩
  · have : g = b := by simpa [Value.ownBlock] using hbb
    rw [← this]; exact ⟨hg, h.row.lt⟩
  · obtain ⟨h1, b', h2, h3, h4⟩ := h.twin x hx
    have : b' = b := by unfold pblk at hbb; rw [h2] at hbb; simpa [Value.ownBlock] using hbb
    rw [← this]; exact ⟨h3, h4.row.lt⟩
  · obtain ⟨h1, b', h2, h3, h4⟩ := h.twin x hx
    exact h4.vb_lt v hv b hbb
theorem InP.below {w w' : World} {base lo hi : Nat} {A : Option Addr} {c : Nat} {L : List Pc} (h : InP w base lo hi A c L) (hb : Below w.heap.size w w') : InP w' base lo hi A c L :=
  ⟨own_below h.row hb, fun x hx => own_below (h.lst x hx) hb, fun x hx v hv => by obtain ⟨ys, hy⟩ := h.vec x hx v hv; exact ⟨ys, own_below hy hb⟩, h.len, h.apart, h.ro, h.rl, h.rv⟩
theorem bt_apart {w : World} {bk base n hi : Nat} (hB : BT w bk base n hi) (hb : base ≤ w.heap.size) : Calls Tryz.prog 23 #[.pointer (some ⟨bk, 0, none⟩)] w fun e w' => e = .returned (.bool true) ∧ Below base w w' := by
  obtain ⟨es, ⟨sv, h⟩, _, _⟩ := hB
  exact Bk.apart_any hb h.at_ h.k1 h.k3 h.k5 h.k6 h.k7 h.k8 (h.z 2 (by decide) (by decide) (by decide) (by decide) (by decide) (by decide)) (h.z 4 (by decide) (by decide) (by decide) (by decide) (by decide) (by decide)) (h.z 9 (by decide) (by decide) (by decide) (by decide) (by decide) (by decide)) (h.z 10 (by decide) (by decide) (by decide) (by decide) (by decide) (by decide)) (h.z 11 (by decide) (by decide) (by decide) (by decide) (by decide) (by decide)) (h.z 12 (by decide) (by decide) (by decide) (by decide) (by decide) (by decide))
theorem KQ.inP {b : Nat} {w w' : World} (k : KQ b w w') {base lo hi : Nat} {A : Option Addr} {c : Nat} {L : List Pc} (h : InP w base lo hi A c L) : InP w' base lo hi A c L :=
  ⟨k.rp h.row, fun x hx => k.rv (h.lst x hx), fun x hx v hv => by obtain ⟨ys, hy⟩ := h.vec x hx v hv; exact ⟨ys, k.r8 hy⟩, h.len, h.apart, h.ro, h.rl, h.rv⟩
theorem InQ.below {w w' : World} {base lo hi : Nat} {T t : TypeId} {A : Option Addr} {c : Nat} {L : List Vc} (h : InQ w base lo hi T t A c L) (hb : Below w.heap.size w w') : InQ w' base lo hi T t A c L :=
  ⟨own_below h.row hb, fun x hx => by obtain ⟨ys, hy⟩ := h.vec x hx; exact ⟨ys, own_below hy hb⟩, h.len, h.apart, h.ro, h.rv⟩
theorem KQ.inT {b : Nat} {w w' : World} (k : KQ b w w') {base lo hi : Nat} {A : Option Addr} {c : Nat} {L : List Vc} (h : InQ w base lo hi 80 2 A c L) : InQ w' base lo hi 80 2 A c L :=
  ⟨k.rr h.row, fun x hx => by obtain ⟨ys, hy⟩ := h.vec x hx; exact ⟨ys, k.r64 hy⟩, h.len, h.apart, h.ro, h.rv⟩
theorem KQ.inV {b : Nat} {w w' : World} (k : KQ b w w') {base lo hi : Nat} {A : Option Addr} {c : Nat} {L : List Vc} (h : InQ w base lo hi 25 74 A c L) : InQ w' base lo hi 25 74 A c L :=
  ⟨k.rv h.row, fun x hx => by obtain ⟨ys, hy⟩ := h.vec x hx; exact ⟨ys, k.r8 hy⟩, h.len, h.apart, h.ro, h.rv⟩
/-- A table of the call's own lies in its range. -/
theorem OwnT.inQ {w : World} {base lo : Nat} {A : Option Addr} {c : Nat} {L : List Vc} (h : OwnT w lo A c L) (hb : base ≤ lo) (ha : ApartL L) (hv : ∀ u ∈ vecs L, u.length ≤ 64) : InQ w base lo w.heap.size 80 2 A c L :=
  ⟨own_base h.1 hb, fun x hx => ⟨_, own_base (h.2 x hx) hb⟩, fun x hx => by have := hv _ (List.mem_map_of_mem hx); omega, ha, fun g hg => h.1.lt g hg, fun x hx g hg => World.ownsRow.lt (h.2 x hx) g hg⟩
/-- A book of the call's own lies in its range. -/
theorem OwnP.inP {w : World} {base lo : Nat} {A : Option Addr} {c : Nat} {L : List Pc} (h : OwnP w lo A c L) (hb : base ≤ lo) (ha : ApartP L) (hv : ∀ l ∈ words L, l.length ≤ 64 ∧ ∀ u ∈ l, u.length ≤ 64) : InP w base lo w.heap.size A c L :=
  ⟨own_base h.row hb, fun x hx => own_base (h.each x hx).1 hb, fun x hx v hv => ⟨_, own_base ((h.each x hx).2 v hv) hb⟩, fun x hx => by
    have h1 := hv _ (words_mem hx)
    refine ⟨by have := h1.1; rw [vecs_len] at this; omega, fun v hv => by have := h1.2 _ (List.mem_map_of_mem hv); omega⟩, ha, fun g hg => h.row.lt g hg, fun x hx g hg => (h.each x hx).1.lt g hg, fun x hx v hv g hg => ((h.each x hx).2 v hv).lt g hg⟩
end Go.Proofs.YthbimjkcpmffcaaGreat
