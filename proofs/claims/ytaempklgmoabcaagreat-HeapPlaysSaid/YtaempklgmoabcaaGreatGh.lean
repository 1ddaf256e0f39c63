/- Appending a slice of hits, nil, empty or not, to a row of the call's own. -/
import Derived.Test.YtaempklgmoabcaaGreatVh
import Derived.Test.YtaempklgmoabcaaGreatGa
namespace Go.Proofs.YtaempklgmoabcaaGreat
open Go.RowKit
set_option linter.unusedVariables false
theorem rdH_cells {w : World} {B : Nat} {ad : Addr} {ys : List (Int × Int)} (h : RdH w B (some ad) ys) : ∀ j u, (flatH ys)[j]? = some u → w.cell? (ad.add j) = some u := by
  intro j u hu
  have hj : j < ys.length * 2 := by
    rcases Nat.lt_or_ge j (ys.length * 2) with h1 | h1
    · exact h1
    · rw [List.getElem?_eq_none (by rw [flatH_len]; exact h1)] at hu; cases hu
  obtain ⟨b, off, hA, _, hc⟩ := h (by omega)
  obtain rfl : ad = ⟨b, off, none⟩ := by simpa using hA
  have ea : (⟨b, off, none⟩ : Addr).add j = ⟨b, off + j, none⟩ := by unfold Addr.add; split <;> simp_all
  rw [ea, hc j hj]
  exact hu
theorem rdH_none {w : World} {B : Nat} {ys : List (Int × Int)} (h : RdH w B none ys) : ys = [] := by
  cases ys with
  | nil => rfl
  | cons a r => obtain ⟨b, off, hA, _⟩ := h (by simp); cases hA
theorem wpList_appH {P : Program} (w : World) {ops : Array Oper} {rest : List Oper} {o : Oper} {a : Act} {Q : Exit → Act → World → Prop} (hgd : o.guard = none) (s x : Operand) (t : TypeId)
    (ho : o.op = .call { callee := .builtin .append, args := #[s, x], argTypes := #[t, t] })
    (base : Nat) (e : TypeId) (i : TypeInfo) (z : Value) (bytes : Nat) (ht : P.underlying t = some (.slice e)) (hi : P.info? e = some i) (hz : i.zero = some z)
    (hsize : i.size = 2) (hby : i.bytes = bytes) (hzs : z.cells.size = 2)
    (v : Value) (n : Nat) (xs : List (Int × Int)) (hs : a.eval s = v) (hown : w.ownsRow base e 2 v n (flatH xs))
    (S : Option Addr) (m c : Nat) (ys : List (Int × Int)) (B : Nat) (hx : a.eval x = .slice S m c) (hm : m = ys.length) (hrd : RdH w B S ys) (hnil : S = none → c = 0)
    (h63 : n + m ≤ maxLen) (hbytes : (n + m) * bytes ≤ 140737488355328) (hbase : base ≤ w.heap.size)
    (h : ∀ v' w', w'.ownsRow base e 2 v' (n + m) (flatH (xs ++ ys)) → w.grownBy w' v.ownBlock → wpList P ops Q rest (a.put o.dst v') w') :
    wpList P ops Q (o :: rest) a w := by
  subst hm
  rcases S with _ | ad
  · obtain rfl := rdH_none hrd
    obtain rfl := hnil rfl
    exact wpList_append_own_none hgd s x t ho base e i 2 ht hi v n _ hs hown hx (h v w (by simpa using hown) (World.grownBy.refl _ _))
  · refine wpList_append_own w hgd s x t ho base e i z 2 bytes ht hi hz hsize hby hzs (by omega) v n _ hs hown ad ys.length c (flatH ys) hx (by rw [flatH_len]) (rdH_cells hrd) (flatH_one ys) h63 hbytes hbase ?_
    intro v' w' h2 h3 _
    exact h v' w' (by rw [flatH_app]; exact h2) h3
theorem own_nilH (w : World) (base : Nat) (e : TypeId) : w.ownsRow base e 2 (.slice none 0 0) 0 (flatH []) := ⟨rfl, .inl ⟨rfl, rfl⟩⟩
end Go.Proofs.YtaempklgmoabcaaGreat
