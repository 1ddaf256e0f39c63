/- Mathematics of what a search finds. -/
import Derived.Test.YtkmngbkghgelfaaFb
import Derived.Test.YtkmngbkghgelfaaJa
namespace Go.Proofs.Ytkmngbkghgelfaa
set_option linter.unusedVariables false
set_option linter.unusedSimpArgs false
/-- Of hits of unlike IDs in order each is nearer than the next. -/
theorem up_strict {ys : HL} (hu : Up ys) (hn : (ids ys).Nodup) {i j : Nat} {x y : Int × Int} (hij : i < j) (hx : ys[i]? = some x) (hy : ys[j]? = some y) : ltH x y = true := by
  obtain ⟨hi, rfl⟩ := List.getElem?_eq_some_iff.1 hx
  obtain ⟨hj, rfl⟩ := List.getElem?_eq_some_iff.1 hy
  unfold Up at hu
  rw [List.pairwise_iff_getElem] at hu
  have h1 := hu i j hi hj hij
  cases h2 : ltH ys[i] ys[j] with
  | true => rfl
  | false =>
    have h3 := sepH _ _ h2 (by simpa using h1)
    rw [List.nodup_iff_pairwise_ne, List.pairwise_iff_getElem] at hn
    have := hn i j (by simpa [ids] using hi) (by simpa [ids] using hj) hij
    simp [ids, h3] at this
theorem hlP_mem {G : List Pn} {v : List Int} {ps : List Nat} {x : Int × Int} : x ∈ hlP G v ps ↔ ∃ p ∈ ps, hitP G v p = x := by unfold hlP; exact List.mem_map
theorem ids_hlP {G : List Pn} {v : List Int} (hN : (G.map (·.1)).Nodup) {ps : List Nat} (hn : ps.Nodup) (hl : ∀ p ∈ ps, p < G.length) : (ids (hlP G v ps)).Nodup := by
  unfold ids hlP
  rw [List.map_map]
  rw [List.nodup_iff_pairwise_ne, List.pairwise_map]
  rw [List.nodup_iff_pairwise_ne] at hn
  refine List.Pairwise.imp_of_mem (fun {a b} ha hb h e => h (ids_inj hN (hl a ha) (hl b hb) e)) hn
theorem ids_srt {xs : HL} (h : (ids xs).Nodup) : (ids (srt xs)).Nodup := ((srt_perm xs).map (·.1)).nodup_iff.2 h
theorem ids_take {xs : HL} (h : (ids xs).Nodup) (k : Nat) : (ids (xs.take k)).Nodup := by
  unfold ids at *
  rw [List.map_take]
  exact h.sublist (List.take_sublist _ _)
theorem up_take {xs : HL} (h : Up xs) (k : Nat) : Up (xs.take k) := h.sublist (List.take_sublist _ _)
/-- What is kept of a sorted list: who stands in it is not farther than its last, and the others are. -/
theorem take_last {ys : HL} (hu : Up ys) (hn : (ids ys).Nodup) {k : Nat} {l x : Int × Int} (hl : (ys.take k)[(ys.take k).length - 1]? = some l) (hx : x ∈ ys) : (x ∈ ys.take k → ltH l x = false) ∧ (x ∉ ys.take k → ltH l x = true ∧ (ys.take k).length = k) := by
  have hk0 : 0 < (ys.take k).length := by
    rcases Nat.eq_zero_or_pos (ys.take k).length with h | h
    · rw [List.getElem?_eq_none (by omega)] at hl; cases hl
    · exact h
  have hlt : (ys.take k).length - 1 < k := by rw [List.length_take]; rw [List.length_take] at hk0; omega
  have hl2 : ys[(ys.take k).length - 1]? = some l := by rw [List.getElem?_take, if_pos hlt] at hl; exact hl
  obtain ⟨j, hj, rfl⟩ := List.getElem_of_mem hx
  have hxj : ys[j]? = some ys[j] := List.getElem?_eq_getElem hj
  constructor
  · intro hm
    obtain ⟨i, hi, e⟩ := List.getElem_of_mem hm
    rw [List.getElem_take] at e
    have hi2 : i < ys.length := by rw [List.length_take] at hi; omega
    rcases Nat.lt_or_ge i ((ys.take k).length - 1) with h | h
    · have := up_strict hu hn h (List.getElem?_eq_getElem hi2) hl2
      rw [e] at this
      cases h3 : ltH l ys[j] with
      | false => rfl
      | true => have := swoH.trans _ _ _ this h3; rw [swoH.irrefl] at this; cases this
    · have hi3 : i = (ys.take k).length - 1 := by omega
      have : l = ys[j] := by
        rw [← e]
        rw [← hi3, List.getElem?_eq_getElem hi2] at hl2
        exact (Option.some.inj hl2).symm
      rw [this]; exact swoH.irrefl _
  · intro hm
    have hjk : k ≤ j := by
      rcases Nat.lt_or_ge j k with h | h
      · exact absurd (List.mem_of_getElem? (i := j) (by rw [List.getElem?_take, if_pos h]; exact hxj)) hm
      · exact h
    refine ⟨up_strict hu hn (by omega) hl2 hxj, by rw [List.length_take]; omega⟩
theorem sh_one (id : Int) (b : List Int) : shN [id] b = if id ∈ b then 1 else 0 := by
  have : ([] : List Int) ++ [id] = [id] := rfl
  rw [← this, shN_snoc]
  simp [shN, uniqI]
theorem ids_hit {G : List Pn} {v : List Int} (hN : (G.map (·.1)).Nodup) {ps : List Nat} (hl : ∀ q ∈ ps, q < G.length) {xs : HL} (hxs : ∀ x ∈ xs, ∃ q, q < G.length ∧ x = hitP G v q) {p : Nat} (hp : p < G.length) : (hitP G v p).1 ∈ ids xs ↔ hitP G v p ∈ xs := by
  constructor
  · intro h
    obtain ⟨x, hx, e⟩ := List.mem_map.1 h
    obtain ⟨q, hq, rfl⟩ := hxs x hx
    have := ids_inj hN hq hp e
    subst this; exact hx
  · intro h
    exact List.mem_map.2 ⟨_, h, rfl⟩
/-- What is kept is the nearest so many of what came. -/
theorem come_kept {G : List Pn} {s : Int} {v : List Int} {m : Nat} {t : Sr} (ok : OkS G v m t) (hN : (G.map (·.1)).Nodup) (hm : 0 < m) (h : hlP G v t.ps = (srt (hlP G v t.cm)).take m) {p : Nat} (hp : p < G.length) : hlP G v (comeP G v m t p).ps = (srt (hlP G v (comeP G v m t p).cm)).take m := by
  unfold comeP
  split
  · exact h
  · rename_i hc
    have hnew := ok.new (s := s) hN hp hc
    show hlP G v (pushP G v m t.ps p) = (srt (hlP G v (t.cm ++ [p]))).take m
    rw [pushP_srt hnew ok.up ok.le hm, srt_insL, srt_self ok.up, h, ← insL_take]
    have e2 : hlP G v (t.cm ++ [p]) = hlP G v t.cm ++ [hitP G v p] := by simp [hlP]
    rw [e2, srt_insL]
theorem comes_kept {G : List Pn} {s : Int} {v : List Int} {m : Nat} (hN : (G.map (·.1)).Nodup) (hm : 0 < m) : ∀ (l : List Nat) {t : Sr}, OkS G v m t → hlP G v t.ps = (srt (hlP G v t.cm)).take m → (∀ p ∈ l, p < G.length) → hlP G v (l.foldl (comeP G v m) t).ps = (srt (hlP G v (l.foldl (comeP G v m) t).cm)).take m
  | [], t, _, h, _ => h
  | p :: l, t, ok, h, hl => comes_kept (s := s) hN hm l (ok.come (s := s) hN hm (hl p (by simp))) (come_kept (s := s) ok hN hm h (hl p (by simp))) (fun q hq => hl q (List.mem_cons_of_mem _ hq))
/-- All that is known of a search under way. -/
structure InvS (G : List Pn) (s : Int) (v : List Int) (m : Nat) (t : Sr) : Prop where
  ok : OkS G v m t
  kept : hlP G v t.ps = (srt (hlP G v t.cm)).take m
  clo : ∀ p ∈ t.od, ∀ q ∈ outN G p, q ∈ t.cm
  rea : ∀ p ∈ t.cm, 0 ≤ hopI G s.toNat p
theorem InvS.look {G : List Pn} {s : Int} {v : List Int} {m : Nat} {t : Sr} (h : InvS G s v m t) (hM : MaySearch G s v) (hm : 0 < m) {p : Nat} (hp : p ∈ t.cm) (ho : p ∉ t.od) : InvS G s v m (lookP G v m t p) where
  ok := h.ok.look hM.ho hM.nd hm hp ho
  kept := comes_kept (s := s) hM.nd hm _ (h.ok.look1 hp ho) h.kept (outN_lt hM.ho (h.ok.lt p hp))
  clo x hx q hq := by
    rw [lookP_od] at hx
    unfold lookP
    rw [comes_cm]
    rcases List.mem_append.1 hx with hx | hx
    · exact .inl (h.clo x hx q hq)
    · rw [List.mem_singleton] at hx; subst hx; exact .inr hq
  rea x hx := by
    unfold lookP at hx
    rw [comes_cm] at hx
    rcases hx with hx | hx
    · exact h.rea x hx
    · obtain ⟨t', ht, rfl⟩ := List.mem_map.1 hx
      have hr := hM.ho.out (h.ok.lt p hp) ht
      obtain ⟨xn, rfl⟩ : ∃ xn : Nat, t' = xn := ⟨t'.toNat, by omega⟩
      exact (hop_step (h.rea p hp) ht).1
theorem runP_inv {G : List Pn} {s : Int} {v : List Int} {m : Nat} (hM : MaySearch G s v) (hm : 0 < m) : ∀ (k : Nat) {t : Sr}, InvS G s v m t → InvS G s v m (runP G v m k t)
  | 0, t, h => h
  | k + 1, t, h => by
    unfold runP
    split
    · exact h
    · rename_i p hp
      exact runP_inv hM hm k (h.look hM hm (h.ok.sub p (nextP_some hp).1) (nextP_some hp).2)
theorem runP_end {G : List Pn} {s : Int} {v : List Int} {m : Nat} (hM : MaySearch G s v) (hm : 0 < m) : ∀ (k : Nat) {t : Sr}, OkS G v m t → G.length ≤ t.od.length + k → nextP (runP G v m k t) = none
  | 0, t, h, hk => by
    show nextP t = none
    cases hp : nextP t with
    | none => rfl
    | some p =>
      have := h.room (h.sub p (nextP_some hp).1) (nextP_some hp).2
      omega
  | k + 1, t, h, hk => by
    unfold runP
    split
    · rename_i hp; exact hp
    · rename_i p hp
      exact runP_end hM hm k (h.look hM.ho hM.nd hm (h.sub p (nextP_some hp).1) (nextP_some hp).2) (by rw [lookP_od]; simp; omega)
theorem runP_pre {G : List Pn} {v : List Int} {m : Nat} : ∀ (k : Nat) (t : Sr), ∃ l, (runP G v m k t).od = t.od ++ l
  | 0, t => ⟨[], by simp [runP]⟩
  | k + 1, t => by
    unfold runP
    split
    · exact ⟨[], by simp⟩
    · rename_i p hp
      obtain ⟨l, hl⟩ := runP_pre k (lookP G v m t p)
      exact ⟨p :: l, by rw [hl, lookP_od, List.append_assoc]; rfl⟩
theorem runP_cm {G : List Pn} {v : List Int} {m : Nat} {q : Nat} : ∀ (k : Nat) {t : Sr}, q ∈ t.cm → q ∈ (runP G v m k t).cm
  | 0, t, h => h
  | k + 1, t, h => by
    unfold runP
    split
    · exact h
    · rename_i p hp
      exact runP_cm k (by unfold lookP; rw [comes_cm]; exact .inl h)
/-- All that is known of a search at its end. -/
structure EndS (G : List Pn) (s : Int) (v : List Int) (m : Nat) (t : Sr) : Prop where
  inv : InvS G s v m t
  fin : ∀ p ∈ t.ps, p ∈ t.od
  none : G.length = 0 → t = ⟨[], [], []⟩
  some : 0 < G.length → s.toNat ∈ t.cm ∧ ∃ l, t.od = s.toNat :: l
theorem finP_end {G : List Pn} {s : Int} {v : List Int} {m : Nat} (hM : MaySearch G s v) (hm : 0 < m) : EndS G s v m (finP G v m s.toNat) := by
  by_cases hn : G.length = 0
  · have e : finP G v m s.toNat = ⟨[], [], []⟩ := by unfold finP; rw [if_pos hn]
    rw [e]
    have e0 : srt ([] : HL) = [] := List.eq_nil_of_length_eq_zero (by rw [srt_len]; rfl)
    exact ⟨⟨OkS.nil _ _ _, by simp [hlP, e0], by simp, by simp⟩, by simp, fun _ => rfl, fun h => by omega⟩
  · have hs := hM.ho.start (by omega)
    have hsn : s.toNat < G.length := by omega
    have e : finP G v m s.toNat = runP G v m G.length (comeP G v m ⟨[], [], []⟩ s.toNat) := by unfold finP; rw [if_neg hn]
    have ok1 := (OkS.nil G v m).come (s := s) hM.nd hm hsn
    have e0 : srt ([] : HL) = [] := List.eq_nil_of_length_eq_zero (by rw [srt_len]; rfl)
    have i1 : InvS G s v m (comeP G v m ⟨[], [], []⟩ s.toNat) := ⟨ok1, come_kept (s := s) (OkS.nil G v m) hM.nd hm (by simp [hlP, e0]) hsn, by rw [comeP_od]; simp, fun p hp => by
      rw [comeP_cm] at hp
      rcases hp with hp | rfl
      · simp at hp
      · rw [hop_start]; decide⟩
    have i2 := runP_inv hM hm G.length i1
    have n2 := runP_end hM hm G.length ok1 (by omega)
    rw [e]
    refine ⟨i2, nextP_none n2, fun h => absurd h hn, fun _ => ⟨runP_cm _ (comeP_cm.2 (.inr rfl)), ?_⟩⟩
    obtain ⟨k, hk⟩ : ∃ k, G.length = k + 1 := ⟨G.length - 1, by omega⟩
    rw [hk, comeP_first _ _ _ _ hm]
    have hnx : nextP ⟨[s.toNat], [s.toNat], []⟩ = some s.toNat := by simp [nextP]
    unfold runP
    rw [hnx]
    obtain ⟨l, hl⟩ := runP_pre k (lookP G v m ⟨[s.toNat], [s.toNat], []⟩ s.toNat)
    exact ⟨l, by show (runP G v m k (lookP G v m ⟨[s.toNat], [s.toNat], []⟩ s.toNat)).od = _; rw [hl, lookP_od]; rfl⟩
theorem EndS.hits {G : List Pn} {s : Int} {v : List Int} {m : Nat} {t : Sr} (h : EndS G s v m t) (hN : (G.map (·.1)).Nodup) : Up (hlP G v t.ps) ∧ (ids (hlP G v t.ps)).Nodup ∧ ∀ x ∈ hlP G v t.ps, ∃ p, p < G.length ∧ x = hitP G v p :=
  ⟨h.inv.ok.up, ids_hlP hN h.inv.ok.nd (fun p hp => h.inv.ok.lt p (h.inv.ok.sub p hp)), fun x hx => by
    obtain ⟨p, hp, rfl⟩ := hlP_mem.1 hx
    exact ⟨p, h.inv.ok.lt p (h.inv.ok.sub p hp), rfl⟩⟩
/-- All nodes' hits in order. -/
def allH (G : List Pn) (v : List Int) : HL := srt (hlP G v (List.range G.length))
theorem allH_len (G : List Pn) (v : List Int) : (allH G v).length = G.length := by unfold allH; rw [srt_len, hlP_len, List.length_range]
theorem allH_up (G : List Pn) (v : List Int) : Up (allH G v) := up_srt _
theorem allH_ids {G : List Pn} (v : List Int) (hN : (G.map (·.1)).Nodup) : (ids (allH G v)).Nodup := ids_srt (ids_hlP hN List.nodup_range (fun p hp => List.mem_range.1 hp))
theorem allH_mem {G : List Pn} {v : List Int} {x : Int × Int} : x ∈ allH G v ↔ ∃ p, p < G.length ∧ x = hitP G v p := by
  unfold allH
  rw [(srt_perm _).mem_iff, hlP_mem]
  constructor
  · rintro ⟨p, hp, rfl⟩; exact ⟨p, List.mem_range.1 hp, rfl⟩
  · rintro ⟨p, hp, rfl⟩; exact ⟨p, List.mem_range.2 hp, rfl⟩
end Go.Proofs.Ytkmngbkghgelfaa
