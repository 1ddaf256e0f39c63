/- Mathematics of SearchBeyond. -/
import Derived.Test.YtkdepoaajhggiaaFo
import Derived.Test.YtkdepoaajhggiaaFp
import Derived.Test.YtkdepoaajhggiaaFq
import Derived.Test.YtkdepoaajhggiaaFr
import Derived.Deep.QuietTactic
import Derived.BigQuiet
namespace Go.Proofs.Ytkdepoaajhggiaa
open Go.Shelf Go.RowKit Go.Lib
open Go.Sort hiding Below
set_option linter.unusedVariables false
set_option linter.unusedSimpArgs false
/-- What a search came to and the others. -/
theorem cm_split {G : List Pn} {v : List Int} {cm : List Nat} (hn : cm.Nodup) (hl : ∀ p ∈ cm, p < G.length) : ∃ d, allH G v = srt (hlP G v cm ++ d) := by
  refine ⟨hlP G v ((List.range G.length).filter (fun p => !(decide (p ∈ cm)))), ?_⟩
  unfold allH
  refine srt_of_perm ?_
  have hN : (cm ++ (List.range G.length).filter (fun p => !(decide (p ∈ cm)))).Nodup := by
    refine List.nodup_append.2 ⟨hn, List.nodup_range.filter _, fun a ha b hb e => ?_⟩
    subst e
    simp at hb
    exact hb.2 ha
  have h1 : (List.range G.length).Perm (cm ++ (List.range G.length).filter (fun p => !(decide (p ∈ cm)))) := by
    refine List.perm_iff_count.2 (fun a => ?_)
    rw [List.nodup_range.count, hN.count]
    have : a ∈ List.range G.length ↔ a ∈ cm ++ (List.range G.length).filter (fun p => !(decide (p ∈ cm))) := by
      simp only [List.mem_append, List.mem_filter, List.mem_range, Bool.not_eq_true', decide_eq_false_iff_not]
      constructor
      · intro h
        by_cases hc : a ∈ cm
        · exact .inl hc
        · exact .inr ⟨h, hc⟩
      · rintro (h | h)
        · exact hl a h
        · exact h.1
    simp only [this]
  have := h1.map (hitP G v)
  rw [List.map_append] at this
  exact this
theorem beam_was {G : List Pn} {s p : Int} {v : List Int} (h : beamB G s v p p = true) : MaySearch G s v ∧ ∃ m : Nat, p = (m : Int) ∧ 1 ≤ m ∧ m ≤ 256 := by
  rw [beamB_eq, Bool.and_eq_true, Bool.and_eq_true] at h
  have h2 : 1 ≤ p ∧ p ≤ 256 := of_decide_eq_true h.1.2
  exact ⟨mayS_yes h.1.1, p.toNat, by omega, by omega, by omega⟩
theorem bey_facts {G : List Pn} {s : Int} {v : List Int} {m : Nat} (hM : MaySearch G s v) (h1 : 1 ≤ m) (h2 : m ≤ 256) : ∃ (AS BS CS : HL) (od : List Nat), (beamH G s v (m : Int) (m : Int) = AS ∧ beamO G s v (m : Int) (m : Int) = natS od ∧ exactH G s v (m : Int) = BS ∧ beamB G s v (m : Int) (m : Int) = true ∧ exactB G s v (m : Int) = true) ∧ (AS.length ≤ BS.length ∧ BS.length ≤ 256 ∧ od.length ≤ G.length) ∧ (∀ (i : Nat) (x y : Int × Int), AS[i]? = some x → BS[i]? = some y → ltH x y = false) ∧ (∀ p ∈ od, p < G.length ∧ ∀ t ∈ (nAt G p).2.2, 0 ≤ t ∧ t < (G.length : Int) ∧ hitP G v t.toNat ∈ CS) ∧ (∀ x ∈ CS, ∃ lx, AS[AS.length - 1]? = some lx ∧ 0 < AS.length ∧ (x ∈ AS ∨ (x ∉ AS ∧ AS.length = m ∧ ltH x lx = false))) ∧ (∀ x ∈ AS, ∃ p, p < G.length ∧ x = hitP G v p) := by
  obtain ⟨hB1, hB2, hB3⟩ := beam_yes (k := m) (m := m) hM h1 (Nat.le_refl _) h2
  obtain ⟨he1, he2⟩ := exact_all (k := m) (mayS_of hM) h1 h2
  have he := finP_end hM (m := m) (by omega)
  obtain ⟨t, et⟩ : ∃ t, finP G v m s.toNat = t := ⟨_, rfl⟩
  rw [et] at he hB2 hB3
  have hlt := he.inv.ok.lt
  obtain ⟨d, hd⟩ := cm_split (v := v) he.inv.ok.cmn hlt
  have hup := up_srt (hlP G v t.cm)
  have hid := ids_srt (ids_hlP (v := v) hM.nd he.inv.ok.cmn hlt)
  have hA : beamH G s v (m : Int) (m : Int) = (srt (hlP G v t.cm)).take m := by rw [hB2, he.inv.kept, List.take_take, Nat.min_self]
  have hcl : (hlP G v t.cm).length ≤ G.length := by
    have := congrArg List.length hd
    rw [allH_len, srt_len, List.length_append] at this
    omega
  have hol : t.od.length ≤ G.length := by
    have := nodup_lt_len he.inv.ok.odn (fun p hp => hlt p (he.inv.ok.ods p hp))
    exact this
  refine ⟨_, _, srt (hlP G v t.cm), t.od, ⟨hA, hB3, he1, hB1, he2⟩, ⟨?_, ?_, hol⟩, ?_, ?_, ?_, ?_⟩
  · rw [List.length_take, List.length_take, srt_len, srt_len, hlP_len, hlP_len, List.length_range]
    rw [hlP_len] at hcl
    omega
  · rw [List.length_take]; omega
  · intro i x y hx hy
    rw [List.getElem?_take] at hx hy
    split at hx
    · rename_i hi
      rw [if_pos hi] at hy
      have hd2 : srt (hlP G v (List.range G.length)) = srt (hlP G v t.cm ++ d) := hd
      rw [hd2] at hy
      exact srt_more _ _ hy hx
    · cases hx
  · intro p hp
    have hpl := hlt p (he.inv.ok.ods p hp)
    refine ⟨hpl, fun u hu => ?_⟩
    have hr := hM.ho.out hpl hu
    refine ⟨by omega, by omega, (srt_perm _).symm.subset (hlP_mem.2 ⟨u.toNat, he.inv.clo p hp _ (List.mem_map.2 ⟨u, hu, rfl⟩), rfl⟩)⟩
  · intro x hx
    have hpos : 0 < (srt (hlP G v t.cm)).length := List.length_pos_of_mem hx
    have hl0 : 0 < ((srt (hlP G v t.cm)).take m).length := by rw [List.length_take]; omega
    obtain ⟨lx, hlx⟩ : ∃ lx, ((srt (hlP G v t.cm)).take m)[((srt (hlP G v t.cm)).take m).length - 1]? = some lx := ⟨_, List.getElem?_eq_getElem (by omega)⟩
    have htl := take_last hup hid hlx hx
    refine ⟨lx, hlx, hl0, ?_⟩
    by_cases hm : x ∈ (srt (hlP G v t.cm)).take m
    · exact .inl hm
    · refine .inr ⟨hm, (htl.2 hm).2, ?_⟩
      cases h : ltH x lx with
      | false => rfl
      | true => have := swoH.trans _ _ _ h (htl.2 hm).1; rw [swoH.irrefl] at this; cases this
  · intro x hx
    obtain ⟨p, hp, rfl⟩ := hlP_mem.1 ((srt_perm _).subset (List.mem_of_mem_take hx))
    exact ⟨p, hlt p hp, rfl⟩
end Go.Proofs.Ytkdepoaajhggiaa
