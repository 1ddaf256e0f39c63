/- Words on rows of the call's own. Over any program. -/
import Derived.Test.YtfokejlancmahaaA
import Derived.Test.YtfokejlancmahaaTn
namespace Go.Proofs.Ytfokejlancmahaa
open Go.RowKit
set_option linter.unusedVariables false
theorem own_base {w : World} {base base' n size : Nat} {e : TypeId} {v : Value} {xs : List Value} (h : w.ownsRow base e size v n xs) (hb : base' ≤ base) : w.ownsRow base' e size v n xs := by
  refine ⟨h.1, ?_⟩
  rcases h.2 with h0 | ⟨g, cap, cur, h1, h2, h3⟩
  · exact .inl h0
  · exact .inr ⟨g, cap, cur, h1, by omega, h3⟩
theorem own_below {w w' : World} {base n : Nat} {e : TypeId} {size : Nat} {v : Value} {xs : List Value} (h : w.ownsRow base e size v n xs) (hb : Below w.heap.size w w') : w'.ownsRow base e size v n xs :=
  own_turn h (Turn.of_below hb) (fun _ _ => by simp)
theorem own_some {w : World} {base m n c size : Nat} {e : TypeId} {A : Option Addr} {xs : List Value} (h : w.ownsRow base e size (.slice A m c) n xs) (hn : 0 < n) : ∃ g, A = some ⟨g, 0, none⟩ ∧ m = n := by
  rcases h.2 with ⟨_, h1⟩ | ⟨g, cap, cur, h1, _⟩
  · omega
  · injection h1 with q1 q2 q3; exact ⟨g, q1, q2⟩
theorem own_len {w : World} {base m n c size : Nat} {e : TypeId} {A : Option Addr} {xs : List Value} (h : w.ownsRow base e size (.slice A m c) n xs) : m = n := by
  rcases h.2 with ⟨h1, h2⟩ | ⟨g, cap, cur, h1, _⟩
  · injection h1 with q1 q2 q3; omega
  · injection h1 with q1 q2 q3
theorem own_far {w : World} {base n size b : Nat} {e t : TypeId} {v : Value} {xs : List Value} {cs : Array Value} (h : w.ownsRow base e size v n xs) (hw : Whole w b t cs) (ht : t ≠ e) (i : Nat) (u : Value) : (w.setCell ⟨b, i, none⟩ u).ownsRow base e size v n xs :=
  own_turn h ((Turn.refl [b] w).setCell (p := ⟨b, i, none⟩) (.inl (by simp)) u) (fun g hg hm => own_apart h hw ht (by rw [List.mem_singleton] at hm; rw [← hm]; exact hg))
end Go.Proofs.Ytfokejlancmahaa
