/- The walk of Great: more nodes, or neighbours, than are gone through. -/
import Derived.Test.YtfokejlancmahaaGreatKa
import Derived.Test.YtfokejlancmahaaGreatB8
namespace Go.Proofs.YtfokejlancmahaaGreat
open Go.RowKit
set_option linter.unusedVariables false
/-- What Great answers: where it says no, the graph is small. -/
def GreatIs (G : List Pn) (e : Ending) : Prop := ∃ b, e = .returned (.bool b) ∧ (b = false → GSmall G)
theorem szG_succ {G : List Pn} {k : Nat} {x : Pn} (h : G[k]? = some x) : ((G.take (k + 1)).map szN).sum = ((G.take k).map szN).sum + (x.2.1.length + x.2.2.length) := by
  rw [List.take_add_one, h, List.map_append, List.sum_append]; simp [szN]
set_option maxRecDepth 100000 in
set_option maxHeartbeats 2000000 in
theorem great9_any (A : Option Addr) (c : Nat) (L : List Gn) (s : Int) (w : World) (hx : GGiven w A L) :
    Calls Tryz.prog 6 #[.agg #[.slice A L.length c, .int .i64 s]] w fun e w' => GreatIs (pns L) e ∧ Below w.heap.size w w' := by
  have W0 := Whole.new w 24 #[.slice A L.length c, .int .i64 s]
  have B0 : Below w.heap.size w (w.alloc (.cells #[.slice A L.length c, .int .i64 s] 24)) := below_one (Below.refl _ _) _
  have HX := Lib.hid (hx.below B0)
  have hlen := hx.len
  have HL := Lib.hid (pns_len L)
  have p0 := W0.cell 0
  have HB0 := Lib.hid B0
  clear W0 B0 hx
  go_enter Tryz.func6, Tryz.ntmps6
  go_wp2
  obtain ⟨w1, ew1⟩ : ∃ w1, w.alloc (.cells #[.slice A L.length c, .int .i64 s] 24) = w1 := ⟨_, rfl⟩
  rw [ew1] at HX HB0 p0
  rw [ew1]
  obtain ⟨g, eg⟩ : ∃ g, w.heap.size = g := ⟨_, rfl⟩
  rw [eg] at p0 ⊢
  clear ew1
  have p0' : w1.cell? ⟨g, 0, none⟩ = some (.slice A L.length c) := p0
  have HG := Lib.hid eg
  clear p0 eg
  go_loopw [3, 4] (fun s i wr => ∃ k m nq : Nat, k ≤ L.length ∧ i = .int .i64 k ∧ s = .int .i64 m ∧ wr = w1.drewN nq ∧ m ≤ 562949953421312 ∧ Hid (L.length ≤ m) ∧ Hid (m = L.length + (((pns L).take k).map szN).sum ∨ 20000 < m)) (fun _ i _ => L.length - (intOf i).toNat)
  case atStart => exact ⟨0, L.length, 0, by omega, rfl, rfl, rfl, by omega, Lib.hid (Nat.le_refl _), Lib.hid (.inl (by simp))⟩
  case round =>
    obtain ⟨k, m, nq, hk, rfl, rfl, rfl, hb, HLM, hm⟩ := hrel
    by_cases hlt : k < L.length ∧ m ≤ 20000
    · have e1 : decide ((k : Int) < (L.length : Int)) = true := decide_eq_true (by omega)
      have e2 : decide ((m : Int) ≤ 20000) = true := decide_eq_true (by omega)
      obtain ⟨b, off, id, a1, c1, v, a2, c2, o, rfl, hBb, h1, h2, h3, hr1, hr2, hv⟩ := HX.out.rd.at_ hlt.1
      have hev := HX.out.each _ (List.mem_of_getElem? (pns_at hv.out))
      have hv1 : v.length ≤ 140737488355328 := hev.1
      have hv2 : o.length ≤ 140737488355328 := hev.2
      have HM := Lib.hid (show m + v.length + o.length = L.length + (((pns L).take (k + 1)).map szN).sum ∨ 20000 < m + v.length + o.length by
        rcases hm.out with h | h
        · left; rw [szG_succ (pns_at hv.out)]; show _ = L.length + (_ + (v.length + o.length)); omega
        · omega)
      have HLM2 := Lib.hid (show L.length ≤ m + v.length + o.length by have := HLM.out; omega)
      have x1 : (0 : Int) ≤ (k : Int) := by omega
      have x2 : (k : Int) < (L.length : Int) := by omega
      have y1 : IntKind.i64.wrap ((m : Int) + (v.length : Int)) = (m : Int) + (v.length : Int) := by rw [IntKind.wrap_i64]; omega
      have y2 : IntKind.i64.wrap ((m : Int) + (v.length : Int) + (o.length : Int)) = (m : Int) + (v.length : Int) + (o.length : Int) := by rw [IntKind.wrap_i64]; omega
      have hm2 : m ≤ 20000 := hlt.2
      clear hm hev hv hr1 hr2 hlt
      go_wp2
      go_quiet (fail)
      go_wp2
      go_roundw
      case rel => exact ⟨k + 1, m + v.length + o.length, _, by omega, by go_num, by go_num, rfl, by omega, HLM2, HM⟩
      case measure => simp [intOf]; omega
    · have HZ : Hid (20000 < m ∨ m = szG (pns L)) := Lib.hid (by
        rcases hm.out with h | h
        · by_cases hk2 : k < L.length
          · left; omega
          · right
            obtain rfl : k = L.length := by omega
            rw [List.take_of_length_le (by rw [HL.out]; exact Nat.le_refl _)] at h
            unfold szG; rw [HL.out]; exact h
        · exact .inl h)
      have HBE := Lib.hid (below_drewN HB0.out nq)
      have e12 : (decide ((k : Int) < (L.length : Int)) = false ∧ decide (k < L.length) = false) ∨ (decide ((k : Int) < (L.length : Int)) = true ∧ decide (k < L.length) = true ∧ decide ((m : Int) ≤ 20000) = false ∧ decide (m ≤ 20000) = false) := by
        by_cases h1 : k < L.length
        · exact .inr ⟨decide_eq_true (by omega), decide_eq_true (by omega), decide_eq_false (by omega), decide_eq_false (by omega)⟩
        · exact .inl ⟨decide_eq_false (by omega), decide_eq_false (by omega)⟩
      have f123 : (decide ((20000 : Int) < (m : Int)) = true ∧ decide (20000 < m) = true) ∨ (decide ((20000 : Int) < (m : Int)) = false ∧ decide (20000 < m) = false) ∧ ((decide ((600 : Int) < (L.length : Int)) = false ∧ decide (600 < L.length) = false ∧ Hid (GSmall (pns L))) ∨ (decide ((600 : Int) < (L.length : Int)) = true ∧ decide (600 < L.length) = true) ∧ ((decide ((L.length : Int) ≤ 2048) = true ∧ decide (L.length ≤ 2048) = true) ∨ (decide ((L.length : Int) ≤ 2048) = false ∧ decide (L.length ≤ 2048) = false ∧ Hid (GSmall (pns L))))) := by
        by_cases h1 : 20000 < m
        · exact .inl ⟨decide_eq_true (by omega), decide_eq_true (by omega)⟩
        · have hs : szG (pns L) ≤ 20000 := by rcases HZ.out with h | h <;> omega
          refine .inr ⟨⟨decide_eq_false (by omega), decide_eq_false (by omega)⟩, ?_⟩
          by_cases h2 : 600 < L.length
          · refine .inr ⟨⟨decide_eq_true (by omega), decide_eq_true (by omega)⟩, ?_⟩
            by_cases h3 : L.length ≤ 2048
            · exact .inl ⟨decide_eq_true (by omega), decide_eq_true (by omega)⟩
            · exact .inr ⟨decide_eq_false (by omega), decide_eq_false (by omega), ⟨hs, by rw [HL.out]; omega⟩⟩
          · exact .inl ⟨decide_eq_false (by omega), decide_eq_false (by omega), ⟨hs, by rw [HL.out]; omega⟩⟩
      clear hm hb hlt HZ hk
      rcases e12 with ⟨e1, e1n⟩ | ⟨e1, e1n, e2, e2n⟩ <;> rcases f123 with ⟨f1, f1n⟩ | ⟨⟨f1, f1n⟩, ⟨f2, f2n, HS⟩ | ⟨⟨f2, f2n⟩, ⟨f3, f3n⟩ | ⟨f3, f3n, HS⟩⟩⟩
      all_goals
        go_wp2
        go_ret
        first
          | exact ⟨⟨false, rfl, fun _ => HS.out⟩, HBE.out⟩
          | exact ⟨⟨true, rfl, fun h => by cases h⟩, HBE.out⟩
end Go.Proofs.YtfokejlancmahaaGreat
