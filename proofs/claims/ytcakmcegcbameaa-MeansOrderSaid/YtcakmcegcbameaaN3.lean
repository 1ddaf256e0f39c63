/- Words on a twin as an argument. -/
import Derived.Test.YtcakmcegcbameaaNl
namespace Go.Proofs.Ytcakmcegcbameaa
open Go.RowKit
set_option linter.unusedVariables false
theorem TwinV.arg {w : World} {base g r : Nat} {T L : List Vc} (h : TwinV w base g r T) (hv : vecs T = vecs L) (s : Small L) (b : B8 (vecs L)) : VArg w (some ⟨g, 0, none⟩) T :=
  ⟨h.rd, by have := s.len; rw [← vecs_len, hv, vecs_len]; omega, fun v hv' => by rw [hv] at hv'; have := s.vec hv'; omega, by rw [hv]; exact b⟩
theorem mark_rd {w : World} {base g n c : Nat} {xs : List Int} (h : w.ownsRow base 52 1 (.slice (some ⟨g, 0, none⟩) (n + 1) c) (n + 1) ((xs ++ [77]).map (Value.int .i8))) : Rd .i8 w w.heap.size (some ⟨g, 0, none⟩) (xs ++ [77]) := by
  obtain ⟨A, c', hv, _, _, hrd, _⟩ := own_slice h
  injection hv with q1 q2 q3
  rw [q1]; exact hrd
end Go.Proofs.Ytcakmcegcbameaa
