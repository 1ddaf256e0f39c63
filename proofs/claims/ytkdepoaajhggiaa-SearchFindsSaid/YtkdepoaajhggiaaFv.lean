/- Mathematics of SearchFinds. -/
import Derived.Test.YtkdepoaajhggiaaFo
import Derived.Test.YtkdepoaajhggiaaFp
import Derived.Test.YtkdepoaajhggiaaFq
import Derived.Test.YtkdepoaajhggiaaFr
import Derived.Test.YtkdepoaajhggiaaFs
import Derived.Deep.QuietTactic
import Derived.BigQuiet
namespace Go.Proofs.Ytkdepoaajhggiaa
open Go.Shelf Go.RowKit Go.Lib
open Go.Sort hiding Below
set_option linter.unusedVariables false
set_option linter.unusedSimpArgs false
theorem beam_was2 {G : List Pn} {s a b : Int} {v : List Int} (h : beamB G s v a b = true) : MaySearch G s v ∧ ∃ k m : Nat, a = (k : Int) ∧ b = (m : Int) ∧ 1 ≤ k ∧ k ≤ m ∧ m ≤ 256 := by
  rw [beamB_eq, Bool.and_eq_true, Bool.and_eq_true] at h
  have h2 : 1 ≤ b ∧ b ≤ 256 := of_decide_eq_true h.1.2
  have h3 : 1 ≤ a ∧ a ≤ b := of_decide_eq_true h.2
  exact ⟨mayS_yes h.1.1, a.toNat, b.toNat, by omega, by omega, by omega, by omega, by omega⟩
theorem fin_facts {G : List Pn} {s : Int} {v : List Int} {k m : Nat} (hM : MaySearch G s v) (h1 : 1 ≤ k) (h2 : k ≤ m) (h3 : m ≤ 256) : ∃ (AS : HL) (od : List Nat), (beamH G s v (k : Int) (m : Int) = AS ∧ beamO G s v (k : Int) (m : Int) = natS od ∧ beamB G s v (k : Int) (m : Int) = true) ∧ (AS.length ≤ k ∧ (0 < AS.length ↔ 0 < G.length) ∧ od.length ≤ G.length) ∧ (∀ x ∈ AS, ∃ p, p < G.length ∧ p ∈ od ∧ x = hitP G v p) ∧ (∀ (i : Nat) (x y : Int × Int), AS[i]? = some x → AS[i + 1]? = some y → ltH x y = true) ∧ (0 < G.length → 0 ≤ s ∧ ∃ l, od = s.toNat :: l) ∧ od.Nodup ∧ (∀ p ∈ od, p < G.length ∧ 0 ≤ hopI G s.toNat p) := by
  obtain ⟨hB1, hB2, hB3⟩ := beam_yes (k := k) (m := m) hM h1 h2 h3
  have he := finP_end hM (m := m) (by omega)
  obtain ⟨t, et⟩ : ∃ t, finP G v m s.toNat = t := ⟨_, rfl⟩
  rw [et] at he hB2 hB3
  have hlt := he.inv.ok.lt
  obtain ⟨hu, hi, hx⟩ := he.hits hM.nd
  have hol : t.od.length ≤ G.length := nodup_lt_len he.inv.ok.odn (fun p hp => hlt p (he.inv.ok.ods p hp))
  refine ⟨_, t.od, ⟨hB2, hB3, hB1⟩, ⟨by rw [List.length_take]; omega, ?_, hol⟩, ?_, ?_, ?_, he.inv.ok.odn, fun p hp => ⟨hlt p (he.inv.ok.ods p hp), he.inv.rea p (he.inv.ok.ods p hp)⟩⟩
  · have e1 : (hlP G v t.ps).length = min m t.cm.length := by
      have := congrArg List.length he.inv.kept
      rw [List.length_take, srt_len, hlP_len] at this
      simpa [hlP_len] using this
    rw [List.length_take, e1]
    constructor
    · intro h
      have : 0 < t.cm.length := by omega
      have := hlt _ (List.getElem_mem this)
      omega
    · intro h
      have := List.length_pos_of_mem (he.some h).1
      omega
  · intro x hx
    obtain ⟨p, hp, rfl⟩ := hlP_mem.1 (List.mem_of_mem_take hx)
    exact ⟨p, hlt p (he.inv.ok.sub p hp), he.fin p hp, rfl⟩
  · intro i x y hx hy
    exact up_strict (up_take hu k) (ids_take hi k) (Nat.lt_succ_self i) hx hy
  · intro h
    have := hM.ho.start (by omega)
    exact ⟨by omega, (he.some h).2⟩
end Go.Proofs.Ytkdepoaajhggiaa
