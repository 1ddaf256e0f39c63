/- The walks of of and SetsHas. -/
import Derived.Test.YtgcclijdkcomiaaDoorLa
namespace Go.Proofs.YtgcclijdkcomiaaDoor
open Go.RowKit
set_option linter.unusedVariables false
/-- The numbers behind some additions. -/
def addAll (bound : Nat) (f : Nat → Bool) (xs : List Int) : Nat → Bool := xs.foldl (fun f n => plus bound f n) f
theorem addAll_snoc (bound : Nat) (f : Nat → Bool) (xs : List Int) (k : Nat) (hk : k < xs.length) : addAll bound f (xs.take (k + 1)) = plus bound (addAll bound f (xs.take k)) (xs[k]?.getD 0) := by
  rw [List.take_succ_eq_append_getElem hk, List.getElem?_eq_getElem hk]
  unfold addAll
  rw [List.foldl_append]
  rfl
theorem Rd.live {k : IntKind} {w0 w : World} {b g bound : Nat} {f : Nat → Bool} {A : Option Addr} {xs : List Int} (h : Rd k w0 w0.heap.size A xs) (L : Live w0 w b g bound f) : Rd k w w0.heap.size A xs := h.below L.bel
def OfYes (w : World) (F : Nat → Bool) (e : Ending) (w' : World) : Prop := ∃ b g, e = .returned (.pointer (some ⟨b, 0, none⟩)) ∧ Live w w' b g 2048 F
set_option maxRecDepth 100000 in
set_option maxHeartbeats 1000000 in
theorem of_any (A : Option Addr) (c : Nat) (xs : List Int) (w : World) (hx : Rd .i64 w w.heap.size A xs) (hl : xs.length ≤ 1000000) (hT : Tab w) :
    Calls Tryd.prog 26 #[.slice A xs.length c] w (OfYes w (addAll 2048 f0 xs)) := by
  have h0 := Lib.hid hT.pos
  have HN := Lib.hid (newL 2048 (by omega) w w (Below.refl _ _) hT)
  have HX := Lib.hid hx
  clear hT hx
  go_enter Tryd.func26, Tryd.ntmps26
  go_wp2_with fail
  refine HN.out.mono ?_
  rintro e w1 ⟨b, g, rfl, L, _⟩
  have L := Lib.hid (show Live w w1 b g 2048 f0 from L)
  go_wp2
  go_loopw [5] (fun i wr => ∃ k : Nat, k ≤ xs.length ∧ i = .int .i64 k ∧ Hid (Live w wr b g 2048 (addAll 2048 f0 (xs.take k)))) (fun i _ => xs.length - (intOf i).toNat)
  case atStart => exact ⟨0, Nat.zero_le _, rfl, L⟩
  case round =>
    clear L
    obtain ⟨k, hk, rfl, L⟩ := hrel
    by_cases hlt : k < xs.length
    · have HS := Lib.hid (addAll_snoc 2048 f0 xs k hlt)
      obtain ⟨gb, off, v, rfl, hgb, hc, hv⟩ := (Rd.live HX.out L.out).at_ hlt
      have H := Lib.hid (addL L.out h0.out v _ rfl)
      clear HX
      go_wp2_with fail
      refine H.out.mono ?_
      rintro e w2 ⟨rfl, L2, _⟩
      have L2 := Lib.hid L2
      go_wp2
      go_roundw
      case rel => exact ⟨k + 1, by omega, by go_num, by rw [Hid, HS.out, hv.out]; exact L2.out⟩
      case measure => simp [intOf]; omega
    · obtain rfl : k = xs.length := by omega
      go_wp2
      go_ret
      have L := L.out
      rw [List.take_length] at L
      exact ⟨b, g, rfl, L⟩
end Go.Proofs.YtgcclijdkcomiaaDoor
