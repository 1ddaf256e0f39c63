/- slices.Clone at vectors, nil or not. -/
import Derived.Test.YtkmngbkghgelfaaOw
import Derived.Test.YtkmngbkghgelfaaLb
import Derived.Deep.OwnRows
namespace Go.Proofs.Ytkmngbkghgelfaa
open Go.RowKit
set_option linter.unusedVariables false
theorem Try.info43q : (Try.prog.info? 43).map (fun i => (i.zero, i.size, i.bytes)) = some (some (.int .i8 0), 1, 1) := by kernel_rfl
set_option maxRecDepth 100000 in
set_option maxHeartbeats 1000000 in
theorem clone9_any (a : Option Addr) (c n D : Nat) (v : List Int) (hn : n = v.length) (w : World) (hD : D ≤ w.heap.size) (hr : Rd .i8 w D a v) (h2 : v.length ≤ 1000000) (hnil : a = none → c = 0) :
    Calls Try.prog 23 #[.slice a n c] w fun e w' => ∃ xa xc, e = .returned (.slice xa n xc) ∧ w'.ownsRow w.heap.size 43 1 (.slice xa n xc) n (v.map (Value.int .i8)) ∧ Below w.heap.size w w' := by
  subst hn
  cases a with
  | none =>
    obtain rfl := hnil rfl
    have hv : v = [] := by
      rcases Nat.eq_zero_or_pos v.length with h | h
      · exact List.length_eq_zero_iff.1 h
      · obtain ⟨b, off, h, -⟩ := hr h; cases h
    subst hv
    have he : ∀ w : World, (binOp .eql 25 (.slice none 0 0) (.slice none 0 0)).run Try.prog w = .ok (.bool true) w := fun _ => rfl
    go_enter Try.func23, Try.ntmps23
    go_wp2
    go_ret
    exact ⟨none, 0, rfl, own_nil_row _ _ _, Below.refl _ _⟩
  | some ad =>
    have owne : (w.alloc (.cells #[] 43)).ownsRow w.heap.size 43 1 (.slice (some ⟨w.heap.size, 0, none⟩) 0 0) 0 (([] : List Int).map (Value.int .i8)) := World.ownsRow_lit (base := w.heap.size) (e := 43) (size := 1) w #[] 0 (Nat.le_refl _) (by decide) rfl
    have hrd2 : Rd .i8 (w.alloc (.cells #[] 43)) D (some ad) v := hr.below ((below_one (Below.refl _ _) _).mono hD)
    obtain ⟨i0, hi, hz0, hz1, hz2⟩ := info_parts Try.info43q
    have he : ∀ w : World, (binOp .eql 25 (.slice (some ad) v.length c) (.slice none 0 0)).run Try.prog w = .ok (.bool false) w := fun _ => rfl
    clear hr
    go_enter Try.func23, Try.ntmps23
    go_wp2_with (at_builtin; refine wpList_app _ rfl _ _ 25 rfl w.heap.size 43 i0 (.int .i8 0) 1 Try.underlying25 hi hz0 hz1 hz2 rfl .i8 (.slice (some ⟨w.heap.size, 0, none⟩) 0 0) 0 [] rfl owne (some ad) v.length c v D rfl rfl hrd2 (fun e => by cases e) (by show 0 + v.length ≤ 9223372036854775807; omega) (by omega) (by simp) ?_; intro v' w1 hown' hgrow)
    rw [Nat.zero_add, List.nil_append] at hown'
    obtain ⟨xa, xm, xc, rfl⟩ := own_form hown'
    obtain rfl := own_len hown'
    have hb5 : Below w.heap.size w w1 := ((Below.refl _ _).alloc (Nat.le_refl _) _).grown hgrow (by simp) (fun r hr => by
      have : w.heap.size = r := by simpa [Value.ownBlock] using hr
      omega)
    go_ret
    exact ⟨xa, xc, rfl, hown', hb5⟩
end Go.Proofs.Ytkmngbkghgelfaa
