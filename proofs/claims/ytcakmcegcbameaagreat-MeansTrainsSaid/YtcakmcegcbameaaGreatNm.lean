/- Twins and answers in ranges that do not meet. -/
import Derived.Test.YtcakmcegcbameaaGreatNl
import Derived.Test.YtcakmcegcbameaaGreatNu
namespace Go.Proofs.YtcakmcegcbameaaGreat
open Go.RowKit
set_option linter.unusedVariables false
theorem twin_range {w w1 : World} {L T : List Vc} (h : TwinV w w1.heap.size w1.heap.size 2 T) (hv : vecs T = vecs L) (s : Small L) (base : Nat) (hb : base ≤ w1.heap.size) : InRange w base w1.heap.size w.heap.size (some ⟨w1.heap.size, 0, none⟩) (T.length + 2) T := by
  have hl : T.length ≤ 20000 := by have := s.len; rw [← vecs_len, hv, vecs_len]; exact this
  have hvv : ∀ x ∈ T, x.2.2.length ≤ 20000 := fun x hx => by
    have : x.2.2 ∈ vecs T := List.mem_map_of_mem hx
    rw [hv] at this
    exact s.vec this
  have r := TwinV.range (lo := w1.heap.size) (hi := w.heap.size) h (Nat.le_refl _) hl hvv ⟨Nat.le_refl _, h.row.lt⟩ (fun x hx b hb' => by
    have h3 := (h.twin x hx).2.2
    rw [hb'] at h3
    exact h3.lt b rfl)
  exact ⟨own_base r.row hb, fun x hx => by obtain ⟨ys, hy⟩ := r.vec x hx; exact ⟨ys, own_base hy hb⟩, r.len, r.apart, r.ro, r.rv⟩
theorem vecs_mem {L : List Vc} {x : Vc} (h : x ∈ L) : x.2.2 ∈ vecs L := List.mem_map_of_mem h
theorem ans_range {w w' : World} {A : Option Addr} {c : Nat} {L : List Vc} {ws : List (List Int)} (o : OwnV w' w.heap.size A c L) (p : ApartL L) (v : vecs L = ws) (hl : ∀ v ∈ ws, v.length ≤ 64) (base : Nat) (hb : base ≤ w.heap.size) : InRange w' base w.heap.size w'.heap.size A c L :=
  o.range hb p (fun x hx => by have h1 := vecs_mem hx; rw [v] at h1; have := hl _ h1; omega)
end Go.Proofs.YtcakmcegcbameaaGreat
