/- Appending a slice of integers, nil, empty or not, to a row of the call's own; and an owned row read as numbers. Over any program. -/
import Derived.Test.YtfokejlancmahaaGreatA
import Derived.Laws.AppendOwn
import Derived.Laws.AppendOwnNone
import Derived.OwnWalk
namespace Go.Proofs.YtfokejlancmahaaGreat
open Go.RowKit
set_option linter.unusedVariables false
theorem rd_cells {k : IntKind} {w : World} {B : Nat} {ad : Addr} {ys : List Int} (h : Rd k w B (some ad) ys) : ∀ j u, (ys.map (Value.int k))[j]? = some u → w.cell? (ad.add j) = some u := by
  intro j u hu
  have hj : j < ys.length := by
    rcases Nat.lt_or_ge j ys.length with h1 | h1
    · exact h1
    · rw [List.getElem?_eq_none (by simpa using h1)] at hu; cases hu
  obtain ⟨b, off, hA, _, hc⟩ := h (by omega)
  obtain rfl : ad = ⟨b, off, none⟩ := by simpa using hA
  have ea : (⟨b, off, none⟩ : Addr).add j = ⟨b, off + j, none⟩ := by unfold Addr.add; split <;> simp_all
  rw [ea, hc j hj]
  simp [List.getElem?_eq_getElem hj] at hu ⊢
  exact hu
theorem ints_one (k : IntKind) (ys : List Int) : ∀ u ∈ ys.map (Value.int k), u.oneCell' = true := by
  intro u hu
  simp only [List.mem_map] at hu
  obtain ⟨x, _, rfl⟩ := hu
  rfl
theorem rd_none {k : IntKind} {w : World} {B : Nat} {ys : List Int} (h : Rd k w B none ys) : ys = [] := by
  cases ys with
  | nil => rfl
  | cons a r => obtain ⟨b, off, hA, _⟩ := h (by simp); cases hA
theorem wpList_app {P : Program} (w : World) {ops : Array Oper} {rest : List Oper} {o : Oper} {a : Act} {Q : Exit → Act → World → Prop} (hgd : o.guard = none) (s x : Operand) (t : TypeId)
    (ho : o.op = .call { callee := .builtin .append, args := #[s, x], argTypes := #[t, t] })
    (base : Nat) (e : TypeId) (i : TypeInfo) (z : Value) (bytes : Nat) (ht : P.underlying t = some (.slice e)) (hi : P.info? e = some i) (hz : i.zero = some z)
    (hsize : i.size = 1) (hby : i.bytes = bytes) (hzs : z.cells.size = 1) (k : IntKind)
    (v : Value) (n : Nat) (xs : List Int) (hs : a.eval s = v) (hown : w.ownsRow base e 1 v n (xs.map (Value.int k)))
    (S : Option Addr) (m c : Nat) (ys : List Int) (B : Nat) (hx : a.eval x = .slice S m c) (hm : m = ys.length) (hrd : Rd k w B S ys) (hnil : S = none → c = 0)
    (h63 : n + m ≤ maxLen) (hbytes : (n + m) * bytes ≤ 140737488355328) (hbase : base ≤ w.heap.size)
    (h : ∀ v' w', w'.ownsRow base e 1 v' (n + m) ((xs ++ ys).map (Value.int k)) → w.grownBy w' v.ownBlock → wpList P ops Q rest (a.put o.dst v') w') :
    wpList P ops Q (o :: rest) a w := by
  subst hm
  rcases S with _ | ad
  · obtain rfl := rd_none hrd
    obtain rfl := hnil rfl
    exact wpList_append_own_none hgd s x t ho base e i 1 ht hi v n _ hs hown hx (h v w (by simpa using hown) (World.grownBy.refl _ _))
  · refine wpList_append_own w hgd s x t ho base e i z 1 bytes ht hi hz hsize hby hzs (by omega) v n _ hs hown ad ys.length c (ys.map (Value.int k)) hx (by simp) (rd_cells hrd) (ints_one _ _) h63 hbytes hbase ?_
    intro v' w' h2 h3 _
    exact h v' w' (by rw [List.map_append]; exact h2) h3
theorem own_nil_row (w : World) (base : Nat) (e : TypeId) : w.ownsRow base e 1 (.slice none 0 0) 0 [] := ⟨rfl, .inl ⟨rfl, rfl⟩⟩
/-- An owned row is a slice value that reads as its numbers. -/
theorem own_slice {w : World} {base n : Nat} {e : TypeId} {v : Value} {k : IntKind} {xs : List Int} (h : w.ownsRow base e 1 v n (xs.map (Value.int k))) :
    ∃ A c, v = .slice A xs.length c ∧ n = xs.length ∧ xs.length ≤ c ∧ Rd k w w.heap.size A xs ∧ (A = none → c = 0) := by
  have hn : n = xs.length := by have := h.1; simpa using this.symm
  subst hn
  rcases h.2 with ⟨rfl, h0⟩ | ⟨g, cap, cur, rfl, h1, h2, h3, h4⟩
  · have : xs = [] := by simpa using h0
    subst this
    exact ⟨none, 0, rfl, rfl, Nat.le_refl _, fun h => by simp at h, fun _ => rfl⟩
  · exact ⟨some ⟨g, 0, none⟩, cap, rfl, rfl, by simpa using h3, rd_own h, fun h => by cases h⟩
end Go.Proofs.YtfokejlancmahaaGreat
